package machine

import (
	"fmt"
	"strings"
	"testing"

	"delphi/api"
)

func clauses(n int) string {
	var text strings.Builder
	for i := range n {
		fmt.Fprintf(&text, "p(%d). ", i)
	}
	return text.String()
}

func TestInstall(t *testing.T) {
	a := newAsker(t)
	a.gives(api.CInstall, "", changes)
	a.isNow(" ;  ; ")
	a.inserts("e(a, b)", "n(a)")
	a.gives(api.CInstall, "t(X, Y) :- e(X, Y).", changes)
	a.isNow("t(X, Y) :- e(X, Y). ; e(a, b) n(a) ; e(a, b) n(a) t(a, b)")
	// These rules stand in the place of the others, over the same facts; the same ones again are no error either.
	for range 2 {
		a.gives(api.CInstall, " u(Y):-e(X,Y).% what is entered\nn2(X) :- n(X), !u(X).", changes)
		a.isNow("u(Y) :- e(X, Y). n2(X) :- n(X), !u(X). ; e(a, b) n(a) ; e(a, b) n(a) n2(a) u(b)")
	}
	a.gives(api.CInstall, clauses(30), changes)
	a.gives(api.CInstall, "% none", changes)
	a.isNow(" ; e(a, b) n(a) ; e(a, b) n(a)")
	a.gives(api.CInstall, "p(1).", changes)
	a.isNow("p(1). ; e(a, b) n(a) ; e(a, b) n(a) p(1)")
}

func TestInstallErrors(t *testing.T) {
	m := known(t)
	a := &asker{T: t, m: m, client: 2}
	for _, c := range []struct {
		text string
		err  api.Errno
	}{
		{"p(X) :- e(X.", api.ErrSyntax},
		{"p(X) :- e(X, Y)", api.ErrSyntax},
		{"?", api.ErrSyntax},
		{"p(X). ?", api.ErrSyntax},
		{".", api.ErrSyntax},
		{"\xff", api.ErrSyntax},
		{clauses(31), api.ErrLimit},
		{"p :- a, b, c, d, e, f, g.", api.ErrLimit},
		{"p(1, 2, 3, 4, 5).", api.ErrLimit},
		{"p(X).", api.ErrUnsafe},
		{"p(X) :- n(X), !e(X, Y).", api.ErrUnsafe},
		{"p. p(1).", api.ErrArity},
		{"p(X) :- n(X, X).", api.ErrArity},
		{"e(X, Y) :- n(X), n(Y).", api.ErrBase},
		{"n(e).", api.ErrBase},
		{"p :- !p.", api.ErrStrata},
		{"p :- q. q :- !p.", api.ErrStrata},
		{"p(X, Y, Z, W) :- c(X), c(Y), c(Z), c(W). c(1). c(2). c(3). c(4). c(5). c(6).", api.ErrFull},
	} {
		a.fails(api.CInstall, c.text, c.err)
	}
	a.gives(api.CQuery, "far(X)", "0 false far(d)")
	a.gives(api.CInstall, "p(X, Y, Z, W) :- c(X), c(Y), c(Z), c(W). c(1). c(2). c(3). c(4). c(5).", changes)
}

func TestInsert(t *testing.T) {
	a := newAsker(t)
	a.gives(api.CInstall, "p(X) :- e(X, Y), !n(X).", changes)
	a.gives(api.CInsert, "e(a, b)", changes)
	a.gives(api.CInsert, "e(a, b).", stays)
	a.gives(api.CInsert, " e ( -7 , a_1 ) . % new", changes)
	a.gives(api.CInsert, "flag", changes)
	a.gives(api.CInsert, "flag.", stays)
	a.isNow("p(X) :- e(X, Y), !n(X). ; e(-7, a_1) e(a, b) flag ; e(-7, a_1) e(a, b) flag p(-7) p(a)")
	a.gives(api.CInsert, "n(a)", changes)
	a.isNow("p(X) :- e(X, Y), !n(X). ; e(-7, a_1) e(a, b) flag n(a) ; e(-7, a_1) e(a, b) flag n(a) p(-7)")
}

func TestInsertErrors(t *testing.T) {
	m := known(t)
	a := &asker{T: t, m: m, client: 2}
	for _, c := range []struct {
		text string
		err  api.Errno
	}{
		{"", api.ErrSyntax},
		{"n(X)", api.ErrSyntax},
		{"n(x) n(y)", api.ErrSyntax},
		{"n(x). n(y).", api.ErrSyntax},
		{"n(x) :- e(x, y).", api.ErrSyntax},
		{"n(2147483649)", api.ErrSyntax},
		{"!n(x)", api.ErrSyntax},
		{"m(1, 2, 3, 4, 5)", api.ErrLimit},
		{"n(a, b)", api.ErrArity},
		{"e", api.ErrArity},
		{"t(a)", api.ErrArity},
		{"t(a, b)", api.ErrBase},
		{"far(x)", api.ErrBase},
	} {
		a.fails(api.CInsert, c.text, c.err)
	}
	for i := len(m.Base()); i < 100; i++ {
		a.inserts(fmt.Sprintf("m(%d)", i))
	}
	a.fails(api.CInsert, "m(200)", api.ErrLimit)
	a.gives(api.CInsert, "m(99)", stays)
}

func TestRetract(t *testing.T) {
	a := newAsker(t)
	a.gives(api.CInstall, "p(X) :- e(X, Y), !n(X).", changes)
	a.inserts("e(a, b)", "e(b, c)", "n(a)", "flag")
	a.gives(api.CRetract, "e(b, c)", changes)
	a.gives(api.CRetract, "e(b, c).", stays)
	a.isNow("p(X) :- e(X, Y), !n(X). ; e(a, b) flag n(a) ; e(a, b) flag n(a)")
	a.gives(api.CRetract, " n ( a ) . ", changes)
	a.gives(api.CRetract, "flag", changes)
	a.isNow("p(X) :- e(X, Y), !n(X). ; e(a, b) ; e(a, b) p(a)")
	// What is not there is no error, nor what rules give, nor another width.
	for _, text := range []string{"p(a)", "p(b)", "n(a)", "n", "e(a)", "e(a, c)", "q(1, 2, 3, 4)"} {
		a.gives(api.CRetract, text, stays)
	}
	a.isNow("p(X) :- e(X, Y), !n(X). ; e(a, b) ; e(a, b) p(a)")
}

func TestRetractErrors(t *testing.T) {
	a := newAsker(t)
	a.gives(api.CInstall, "p(X, Y) :- n(X), n(Y), !few.", changes)
	a.inserts("few")
	for i := range 40 {
		a.inserts(fmt.Sprintf("n(%d)", i))
	}
	for _, c := range []struct {
		text string
		err  api.Errno
	}{
		{"", api.ErrSyntax},
		{"n(X)", api.ErrSyntax},
		{"n(1). n(2).", api.ErrSyntax},
		{"n(1) :- few.", api.ErrSyntax},
		{"n(1,", api.ErrSyntax},
		{"m(1, 2, 3, 4, 5)", api.ErrLimit},
		{"few", api.ErrFull},
	} {
		a.fails(api.CRetract, c.text, c.err)
	}
	a.gives(api.CRetract, "n(1)", changes)
}

// questions are texts, and what a machine of known's answers.
func questions() map[string]string {
	return map[string]string{
		"t(X, Y)":                       "0 false t(a, b)|t(a, c)|t(b, c)",
		"t(a, X).":                      "0 false t(a, b)|t(a, c)",
		"t(X, X)":                       stays,
		"far(X)":                        "0 false far(d)",
		"e(a, b)":                       "0 false e(a, b)",
		"e(b, a)":                       stays,
		"q":                             stays,
		"e(X)":                          stays,
		"":                              failed(api.ErrSyntax),
		"X":                             failed(api.ErrSyntax),
		"!e(a, b)":                      failed(api.ErrSyntax),
		"e(a, b), e(b, c)":              failed(api.ErrSyntax),
		"e(a, b":                        failed(api.ErrSyntax),
		"e(A, B, C, D, E)":              failed(api.ErrLimit),
		"q" + strings.Repeat(" ", 3999): stays,
	}
}

// A question changes nothing but the client's last.
func TestQuery(t *testing.T) {
	m := known(t)
	a := &asker{T: t, m: m, client: 2}
	before := holds(m)
	for text, want := range questions() {
		a.gives(api.CQuery, text, want)
		if got := holds(m); got != before {
			t.Fatalf("P18.1: the question %q made %s of %s", text, got, before)
		}
	}
	if got := m.Apply(api.Command{Kind: api.CInsert, Client: 1, Seq: 6, Text: "e(c, a)"}); told(got) != changes {
		t.Error(told(got))
	}
	a.gives(api.CQuery, "t(X, X)", "0 false t(a, a)|t(b, b)|t(c, c)")
}

// Ask is no command: it changes nothing, the clients' lasts neither, and its answer is of what holds now.
func TestAsk(t *testing.T) {
	m := known(t)
	before := state(m)
	for text, want := range questions() {
		if got := told(m.Ask(text)); got != want {
			t.Errorf("P18.1: Ask(%.60q): %s; want %s", text, got, want)
		}
	}
	// A text that no command may have is still one that Ask is given: its error is the question's.
	for _, text := range []string{"q" + strings.Repeat(" ", 4000), strings.Repeat("?", 4001)} {
		if got := told(m.Ask(text)); got != failed(api.ErrLimit) {
			t.Errorf("P18.1: Ask of %d bytes: %s; want error %d", len(text), got, api.ErrLimit)
		}
	}
	if got := state(m); got != before {
		t.Errorf("P18.1: Ask made %s of %s", got, before)
	}
	for _, c := range []struct {
		kind             int
		text, ask, wants string
	}{
		{api.CInsert, "e(c, d)", "t(a, X)", "0 false t(a, b)|t(a, c)|t(a, d)"},
		{api.CRetract, "e(a, b)", "t(X, d)", "0 false t(b, d)|t(c, d)"},
		{api.CInstall, "u(X) :- n(X), X != b.", "u(X)", "0 false u(d)"},
		{api.CInstall, "", "t(X, d)", stays},
	} {
		seq, _ := m.Last(1)
		m.Apply(api.Command{Kind: c.kind, Client: 1, Seq: seq + 1, Text: c.text})
		if got := told(m.Ask(c.ask)); got != c.wants {
			t.Errorf("P18.1: Ask(%q) behind %q: %s; want %s", c.ask, c.text, got, c.wants)
		}
	}
}

// A reply of as many rows as go is kept whole.
func TestManyRows(t *testing.T) {
	a := newAsker(t)
	a.gives(api.CInstall, "p(X, Y) :- n(X), n(Y).", changes)
	var rows []string
	for i := 10; i < 41; i++ {
		a.inserts(fmt.Sprintf("n(%d)", i))
		for k := 10; k < 41; k++ {
			rows = append(rows, fmt.Sprintf("p(%d, %d)", i, k))
		}
	}
	want := stays + strings.Join(rows, "|")
	a.gives(api.CQuery, "p(X, Y)", want)
	a.fails(api.CInsert, "n(41)", api.ErrFull)
	if got := told(a.m.Ask("p(X, Y)")); got != want {
		t.Errorf("P18.1: Ask: %.300s", got)
	}
}
