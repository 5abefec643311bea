package machine

import (
	"fmt"
	"math"
	"slices"
	"strings"
	"testing"

	"delphi/api"
	"delphi/syntax"
)

// parts is what Of is handed, facts as texts.
type parts struct {
	program string
	base    []string
	lasts   [8]Answered
}

func factsOf(t *testing.T, texts []string) []api.Fact {
	t.Helper()
	var facts []api.Fact
	for _, text := range texts {
		f, err := syntax.Fact(text)
		if err != api.OK {
			t.Fatalf("%q is no fact", text)
		}
		facts = append(facts, f)
	}
	return facts
}

func (p parts) of(t *testing.T) (*Machine, api.Errno) {
	t.Helper()
	return Of(p.program, factsOf(t, p.base), p.lasts)
}

func rowsOf(texts ...string) api.Reply { return api.Reply{Rows: texts} }

// known's parts, facts in another order.
func knownParts() parts {
	return parts{
		program: paths,
		base:    []string{"n(d)", "e(b, c)", "n(b)", "e(a, b)"},
		lasts: [8]Answered{
			0: {Seq: 5, Reply: api.Reply{Changed: true}},
			2: {Seq: 41, Reply: rowsOf("t(a, b)", "t(a, c)", "t(b, c)")},
			7: {Seq: 10, Reply: api.Reply{Err: api.ErrBase}},
		},
	}
}

func TestOfIsAsTheOneThatWas(t *testing.T) {
	m, err := knownParts().of(t)
	was := known(t)
	if err != api.OK || state(m) != state(was) {
		t.Fatalf("P19.1: Of: %d, %s; want %s", err, state(m), state(was))
	}
	for i, c := range []api.Command{
		{Kind: api.CInsert, Client: 1, Seq: 5, Text: "n(new)"},
		{Kind: api.CInsert, Client: 1, Seq: 4, Text: "n(new)"},
		{Kind: api.CQuery, Client: 3, Seq: 41, Text: "n(X)"},
		{Kind: api.CInsert, Client: 8, Seq: 10, Text: "n(new)"},
		{Kind: api.CInsert, Client: 8, Seq: 11, Text: "e(c, d)"},
		{Kind: api.CRetract, Client: 2, Seq: 1, Text: "e(b, c)"},
		{Kind: api.CQuery, Client: 3, Seq: 42, Text: "far(X)"},
		{Kind: api.CInstall, Client: 3, Seq: 43, Text: "n(X) :- e(X, Y)."},
		{Kind: api.CInstall, Client: 3, Seq: 44, Text: "far(X) :- n(X)."},
	} {
		if one, two := told(m.Apply(c)), told(was.Apply(c)); one != two || state(m) != state(was) {
			t.Errorf("P19.1: command %d: %s, and not %s: %s; want %s", i, one, two, state(m), state(was))
		}
	}
}

func TestOfNothing(t *testing.T) {
	m, err := Of("", nil, [8]Answered{})
	if err != api.OK || state(m) != state(New()) {
		t.Errorf("P19.1: Of nothing: %d, %s", err, state(m))
	}
}

// Each reply that a client's last may have, with the first number and the last one.
func TestOfRepliesThatMayBe(t *testing.T) {
	replies := []api.Reply{{}, {Rows: []string{}}, {Changed: true}, rowsOf("flag"), rowsOf("p(1)"), rowsOf("p(-2147483648, a)", "p(9, b)", "p(10, a)", "p(10, a_1)", "p(2147483648, a)", "p(a, 1)"), rowsOf("p(a, b, c, d)"), rowsOf(manyRows(1000)...)}
	for _, err := range []api.Errno{api.ErrFull, api.ErrSyntax, api.ErrUnsafe, api.ErrArity, api.ErrStrata, api.ErrLimit, api.ErrBase} {
		replies = append(replies, api.Reply{Err: err})
	}
	for _, reply := range replies {
		for client := 1; client <= 8; client++ {
			for _, seq := range []int64{1, 2, 1 << 40} {
				p := knownParts()
				p.lasts[client%8] = Answered{Seq: 10, Reply: api.Reply{Changed: true}}
				p.lasts[client-1] = Answered{Seq: seq, Reply: reply}
				m, err := p.of(t)
				if err != api.OK {
					t.Fatalf("P19.1: client %d, %d, %.80v: error %d", client, seq, reply, err)
				}
				if got, last := m.Last(client); got != seq || told(last) != told(reply) {
					t.Errorf("P19.1: client %d: %d, %.80v; want %d, %.80v", client, got, last, seq, reply)
				}
			}
		}
	}
}

func manyRows(n int) []string {
	var rows []string
	for i := range n {
		rows = append(rows, fmt.Sprintf("p(%d, %d)", i/40, i%40))
	}
	return rows
}

func TestOfRepliesThatMayNotBe(t *testing.T) {
	var none []api.Reply
	for _, err := range []api.Errno{-1, api.ErrRange, api.ErrForm, api.ErrStale, api.ErrLeader, api.ErrDown, api.ErrThere, api.ErrNone, 15, math.MaxInt, math.MinInt} {
		none = append(none, api.Reply{Err: err})
	}
	none = append(none,
		api.Reply{Err: api.ErrSyntax, Changed: true},
		api.Reply{Err: api.ErrSyntax, Rows: []string{"p(1)"}},
		api.Reply{Changed: true, Rows: []string{"p(1)"}},
	)
	for _, rows := range [][]string{
		{""}, {"p(X)"}, {"p(1)."}, {"p(1) "}, {"p( 1)"}, {"p(1,2)"}, {"p(1, 2, 3, 4, 5)"}, {"P"}, {"p()"}, {"p(01)"}, {"p(-0)"}, {"p(2147483649)"}, {"abcdefghijklmnopq"}, {"p(1) % that"}, {"\xff"},
		{"p(1)", ""}, {"p(1)", "p(1)"}, {"p(2)", "p(1)"}, {"p(10)", "p(9)"}, {"p(a)", "p(1)"}, {"p(1)", "q(2)"}, {"p(1)", "p(2, 3)"}, {"p(1, 2)", "p(2)"}, {"p", "p"}, {"p", "p(1)"}, {"p(1, b)", "p(1, a)"}, {"p(1)", "p(3)", "p(2)"},
		manyRows(1001),
	} {
		none = append(none, rowsOf(rows...))
	}
	for _, reply := range none {
		for client := 1; client <= 8; client++ {
			p := knownParts()
			p.lasts[client%8] = Answered{Seq: 10, Reply: api.Reply{Changed: true}}
			p.lasts[client-1] = Answered{Seq: 6, Reply: reply}
			p.refused(t)
		}
	}
}

func (p parts) refused(t *testing.T) {
	t.Helper()
	if m, err := p.of(t); m != nil || err != api.ErrForm {
		t.Errorf("P19.1: Of(%.200v): a machine: %v, error %d; want none, %d", p, m != nil, err, api.ErrForm)
	}
}

func TestOfNumbersThatMayNotBe(t *testing.T) {
	for _, seq := range []int64{math.MinInt64, -1 << 40, -1, 1<<40 + 1, 1 << 41, math.MaxInt64} {
		for _, reply := range []api.Reply{{}, {Changed: true}, rowsOf("p(1)"), {Err: api.ErrSyntax}} {
			p := knownParts()
			p.lasts[4] = Answered{Seq: seq, Reply: reply}
			p.refused(t)
		}
	}
	// Who never asked was answered nothing.
	for _, reply := range []api.Reply{{Changed: true}, rowsOf("p(1)"), {Err: api.ErrSyntax}} {
		p := knownParts()
		p.lasts[4].Reply = reply
		p.refused(t)
	}
}

func TestOfRulesAndFactsThatMayNotBe(t *testing.T) {
	for _, program := range []string{
		"?", "p(X) :- e(X.", "p", clauses(31), "p(1, 2, 3, 4, 5).", "p. % " + strings.Repeat(" ", 4000),
		"p(X).", "p. p(1).", "p(X) :- n(X, X).", "e(X, Y) :- n(X), n(Y).", "n(e).", "p :- q. q :- !p.",
		"p(X, Y, Z, W) :- c(X), c(Y), c(Z), c(W). c(1). c(2). c(3). c(4). c(5). c(6).",
	} {
		p := knownParts()
		p.program = program
		p.refused(t)
	}
	for _, fact := range []string{"t(a, b)", "far(x)", "n", "e(a, b, c)"} {
		p := knownParts()
		p.base = append(p.base, fact)
		p.refused(t)
	}
	p := knownParts()
	p.base = slices.Repeat([]string{"n(d)"}, 101)
	p.refused(t)
	if m, err := Of("", []api.Fact{{Name: "N"}}, knownParts().lasts); m != nil || err != api.ErrForm {
		t.Errorf("P19.1: Of a fact that may not be: error %d", err)
	}
}

// So many facts and rules need so many commands that changed something.
func TestOfTooFewCommands(t *testing.T) {
	changed, same, failed := api.Reply{Changed: true}, api.Reply{}, api.Reply{Err: api.ErrSyntax}
	for _, c := range []struct {
		program string
		base    []string
		lasts   [8]Answered
		may     bool
	}{
		{"", []string{"p"}, [8]Answered{}, false},
		{"p.", nil, [8]Answered{}, false},
		{"", []string{"p"}, [8]Answered{{1, changed}}, true},
		{"", []string{"p"}, [8]Answered{{1, same}}, false},
		{"", []string{"p"}, [8]Answered{{1, failed}}, false},
		{"", []string{"p"}, [8]Answered{{2, failed}}, true},
		{"", []string{"p"}, [8]Answered{1: {1, same}, 7: {1, changed}}, true},
		{"", []string{"p", "q"}, [8]Answered{1: {1, same}, 7: {1, changed}}, false},
		{"", []string{"p", "q"}, [8]Answered{1: {1, changed}, 7: {1, changed}}, true},
		{"r :- p.", []string{"p", "q"}, [8]Answered{1: {1, changed}, 7: {1, changed}}, false},
		{"r :- p. r :- q.", []string{"p", "q"}, [8]Answered{1: {2, changed}, 7: {2, same}}, true},
		{"r :- p.", []string{"p", "q"}, [8]Answered{1: {2, same}, 7: {2, same}}, false},
		{"p.", nil, [8]Answered{{1, changed}}, true},
		{"p.", nil, [8]Answered{{1, rowsOf("p")}}, false},
		{"p.", nil, [8]Answered{{2, rowsOf("p")}}, true},
	} {
		p := parts{c.program, c.base, c.lasts}
		if !c.may {
			p.refused(t)
		} else if _, err := p.of(t); err != api.OK {
			t.Errorf("P19.1: Of(%v): error %d", p, err)
		}
	}
	all := [8]Answered{}
	for i := range all {
		all[i] = Answered{1 << 40, changed}
	}
	if _, err := Of("p.", nil, all); err != api.OK {
		t.Errorf("P19.1: Of the greatest numbers: error %d", err)
	}
}

// What is handed in is neither changed nor kept.
func TestOfKeepsNothing(t *testing.T) {
	p := knownParts()
	base := factsOf(t, p.base)
	rows := append(make([]string, 0, 8), p.lasts[2].Reply.Rows...)
	spare := append(rows, "spare")[len(rows):]
	p.lasts[2].Reply.Rows = rows
	m, err := Of(p.program, base, p.lasts)
	if err != api.OK || show(base) != strings.Join(p.base, " ") || spare[0] != "spare" || !slices.Equal(rows, knownParts().lasts[2].Reply.Rows) {
		t.Fatalf("P0.3: Of: %d; made %s, %v, %v of its arguments", err, show(base), rows, spare)
	}
	spoilFacts(base)
	clear(rows[:cap(rows)])
	if got, want := state(m), state(known(t)); got != want {
		t.Errorf("P0.3: writing into arguments made %s of %s", got, want)
	}
}
