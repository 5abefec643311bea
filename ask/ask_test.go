package ask

import (
	"fmt"
	"math"
	"slices"
	"strings"
	"testing"

	"delphi/api"
	"delphi/incr"
	"delphi/syntax"
	"delphi/value"
)

func num(n int64) api.Term { return api.Term{Kind: api.TInt, Num: n} }

func word(s string) api.Term { return api.Term{Kind: api.TWord, Name: s} }

func vary(s string) api.Term { return api.Term{Kind: api.TVar, Name: s} }

func atom(name string, args ...api.Term) api.Literal {
	return api.Literal{Kind: api.LAtom, Name: name, Args: args}
}

func rules(t *testing.T, text string) []api.Rule {
	t.Helper()
	l, err := syntax.Program(text)
	if err != api.OK {
		t.Fatalf("%s: %d", text, err)
	}
	return l
}

func fact(t *testing.T, text string) api.Fact {
	t.Helper()
	f, err := syntax.Fact(text)
	if err != api.OK {
		t.Fatalf("%s: %d", text, err)
	}
	return f
}

// live makes one of a program's text and of facts with a semicolon between them.
func live(t *testing.T, program, base string) *incr.Live {
	t.Helper()
	var facts []api.Fact
	for s := range strings.SplitSeq(base, ";") {
		if strings.TrimSpace(s) != "" {
			facts = append(facts, fact(t, s))
		}
	}
	l, err := incr.New(rules(t, program), facts)
	if err != api.OK {
		t.Fatalf("%s; %s: %d", program, base, err)
	}
	return l
}

func show(facts []api.Fact) string {
	texts := make([]string, len(facts))
	for i, f := range facts {
		texts[i] = value.Fact(f)
	}
	return strings.Join(texts, "|")
}

// gives asks the text, and the literal that it says; both must be answered the rows, with a | between them.
func gives(t *testing.T, l *incr.Live, text, want string) {
	t.Helper()
	rows, err := Text(l, text)
	if got := strings.Join(rows, "|"); got != want || err != api.OK {
		t.Errorf("P16.1: Text(%q): %s, %d; want %s", text, got, err, want)
	}
	q, err := syntax.Query(text)
	if err != api.OK {
		t.Fatalf("%s: %d", text, err)
	}
	gets(t, l, q, want)
}

func gets(t *testing.T, l *incr.Live, q api.Literal, want string) {
	t.Helper()
	if got := strings.Join(Rows(l, q), "|"); got != want {
		t.Errorf("P16.1: Rows(%.200v): %s; want %s", q, got, want)
	}
}

// known has predicates of all widths, told and given by rules, and two whose names begin alike.
func known(t *testing.T) *incr.Live {
	t.Helper()
	return live(t, "p(X, Y) :- e(X, Y). back(Y, X, Y) :- e(X, Y), !o(X). flag. none :- !flag. pair(a, b). pair(b, a). pair(1, 1).",
		"e(a, b); e(b, b); e(1, a); e(-7, a); z; o(b); o(a); o(10); o(9); ee(a, b); w(1, 2, 1, 2); w(1, 1, 2, 2); w(1, 2, 2, 1); w(3, 3, 3, 3); w(1, 2, 3, 4)")
}

func TestConstantsFit(t *testing.T) {
	l := known(t)
	for text, want := range map[string]string{
		"e(a, b)":       "e(a, b)",
		"e(1, a)":       "e(1, a)",
		"e(-7, a)":      "e(-7, a)",
		"e(7, a)":       "",
		"e(b, a)":       "",
		"e(a, c)":       "",
		"e(1, 1)":       "",
		"e(a, 1)":       "",
		"p(b, b)":       "p(b, b)",
		"o(10)":         "o(10)",
		"o(1)":          "",
		"w(1, 2, 3, 4)": "w(1, 2, 3, 4)",
		"w(1, 2, 3, 5)": "",
		"w(2, 2, 3, 4)": "",
		"z":             "z",
		"flag":          "flag",
		"none":          "",
		"pair(a, b)":    "pair(a, b)",
		"pair(a, a)":    "",
	} {
		gives(t, l, text, want)
	}
}

func TestVariablesFit(t *testing.T) {
	l := known(t)
	for text, want := range map[string]string{
		"e(X, Y)":         "e(-7, a)|e(1, a)|e(a, b)|e(b, b)",
		"e(Y, X)":         "e(-7, a)|e(1, a)|e(a, b)|e(b, b)",
		"p(From, To)":     "p(-7, a)|p(1, a)|p(a, b)|p(b, b)",
		"e(X, b)":         "e(a, b)|e(b, b)",
		"e(a, X)":         "e(a, b)",
		"e(X, c)":         "",
		"p(1, Y)":         "p(1, a)",
		"ee(X, Y)":        "ee(a, b)",
		"o(X)":            "o(9)|o(10)|o(a)|o(b)",
		"back(X, Y, Z)":   "back(a, -7, a)|back(a, 1, a)",
		"w(1, X, Y, Z)":   "w(1, 1, 2, 2)|w(1, 2, 1, 2)|w(1, 2, 2, 1)|w(1, 2, 3, 4)",
		"w(W, X, Y, Z)":   "w(1, 1, 2, 2)|w(1, 2, 1, 2)|w(1, 2, 2, 1)|w(1, 2, 3, 4)|w(3, 3, 3, 3)",
		"w(X, 2, Y, 2)":   "w(1, 2, 1, 2)",
		"w(X1, X2, 3, X)": "w(1, 2, 3, 4)|w(3, 3, 3, 3)",
	} {
		gives(t, l, text, want)
	}
}

func TestVariableThatStandsTwiceIsTheSame(t *testing.T) {
	l := known(t)
	for text, want := range map[string]string{
		"e(X, X)":       "e(b, b)",
		"p(Y, Y)":       "p(b, b)",
		"pair(X, X)":    "pair(1, 1)",
		"ee(X, X)":      "",
		"back(X, Y, X)": "back(a, -7, a)|back(a, 1, a)",
		"back(X, X, Y)": "",
		"back(Y, X, X)": "",
		"back(X, 1, X)": "back(a, 1, a)",
		"w(X, X, X, X)": "w(3, 3, 3, 3)",
		"w(X, Y, X, Y)": "w(1, 2, 1, 2)|w(3, 3, 3, 3)",
		"w(X, X, Y, Y)": "w(1, 1, 2, 2)|w(3, 3, 3, 3)",
		"w(X, Y, Y, X)": "w(1, 2, 2, 1)|w(3, 3, 3, 3)",
		"w(X, X, Y, Z)": "w(1, 1, 2, 2)|w(3, 3, 3, 3)",
		"w(Y, X, X, Z)": "w(1, 2, 2, 1)|w(3, 3, 3, 3)",
		"w(Y, Z, X, X)": "w(1, 1, 2, 2)|w(3, 3, 3, 3)",
		"w(X, Y, Z, X)": "w(1, 2, 2, 1)|w(3, 3, 3, 3)",
		"w(1, X, X, Y)": "w(1, 2, 2, 1)",
		"w(X, 2, X, Y)": "w(1, 2, 1, 2)",
		"w(X, 3, Y, X)": "w(3, 3, 3, 3)",
		"w(X, X, X, 2)": "",
	} {
		gives(t, l, text, want)
	}
	// Names that differ in their letters' size, or that begin alike, are different variables.
	gets(t, l, atom("ee", vary("Xa"), vary("XA")), "ee(a, b)")
	gets(t, l, atom("ee", vary("X"), vary("X1")), "ee(a, b)")
}

func TestAsManyTerms(t *testing.T) {
	l := known(t)
	for _, text := range []string{"z(X)", "z(a)", "e", "e(X)", "e(a)", "e(X, Y, Z)", "e(a, b, X)", "p(X)", "o", "o(X, Y)", "o(X, X)", "w", "w(X)", "w(1, 2)", "w(1, 2, 3)", "flag(X)", "back(X, Y)", "back(X, Y, Z, W)"} {
		gives(t, l, text, "")
	}
	for _, n := range []int{5, 6, 1000000} {
		gets(t, l, atom("w", slices.Repeat([]api.Term{vary("X")}, n)...), "")
		gets(t, l, atom("w", slices.Repeat([]api.Term{num(3)}, n)...), "")
		gets(t, l, atom("z", slices.Repeat([]api.Term{vary("X")}, n)...), "")
	}
	gets(t, l, atom("z", []api.Term{}...), "z")
	gets(t, l, api.Literal{Kind: api.LAtom, Name: "z", Args: []api.Term{}}, "z")
	gets(t, l, api.Literal{Kind: api.LAtom, Name: "e", Args: []api.Term{}}, "")
}

func TestPredicateThatHasNoFacts(t *testing.T) {
	l := known(t)
	for _, name := range []string{"q", "none", "x", "eee", "a", "b", "", "E", "e ", "z.", "e(a, b)", "\x00", "\xff\xfe", strings.Repeat("e", 1000000)} {
		gets(t, l, atom(name), "")
		gets(t, l, atom(name, vary("X"), vary("Y")), "")
		gets(t, l, atom(name, word("a"), word("b")), "")
	}
	for _, text := range []string{"q", "q(X)", "none", "none(X)", "eee(X, Y)", "a", "zz"} {
		gives(t, l, text, "")
	}
}

// The rows stand as Facts tells them: numbers by worth ahead of words by bytes, term by term; not as their texts would stand.
func TestOrderIsThatOfFacts(t *testing.T) {
	l := live(t, "two(Y, X) :- n(X), n(Y), X < Y.", "n(b); n(10); n(9); n(-1); n(a_); n(ab); n(a); n(-10); n(a1); n(2147483648); n(-2147483648); n(0)")
	gives(t, l, "n(X)", "n(-2147483648)|n(-10)|n(-1)|n(0)|n(9)|n(10)|n(2147483648)|n(a)|n(a1)|n(a_)|n(ab)|n(b)")
	gives(t, l, "two(X, Y)", show(l.Facts("two")))
	gives(t, l, "two(9, Y)", "two(9, -2147483648)|two(9, -10)|two(9, -1)|two(9, 0)")
	gives(t, l, "two(X, a_)", "two(ab, a_)|two(b, a_)")
	gives(t, l, "two(X, X)", "")
}

// Of a text Rows' answer is told as it is, however the text is written.
func TestTextIsReadAsAQuestion(t *testing.T) {
	l := known(t)
	for text, want := range map[string]string{
		"e(a, b).":                      "e(a, b)",
		"e(X, X).":                      "e(b, b)",
		"z.":                            "z",
		" \t\r\ne ( X ,b ) . % all":     "e(a, b)|e(b, b)",
		"% first\ne(1,Y)":               "e(1, a)",
		"z" + strings.Repeat(" ", 3999): "z",
	} {
		gives(t, l, text, want)
	}
}

func TestTextErrors(t *testing.T) {
	long := strings.Repeat(" ", 3999)
	wrong := map[string]api.Errno{
		"":                           api.ErrSyntax,
		" ":                          api.ErrSyntax,
		".":                          api.ErrSyntax,
		"X":                          api.ErrSyntax,
		"1":                          api.ErrSyntax,
		"!z":                         api.ErrSyntax,
		"!e(a, b)":                   api.ErrSyntax,
		"z..":                        api.ErrSyntax,
		"z z":                        api.ErrSyntax,
		"z. z.":                      api.ErrSyntax,
		"z, z":                       api.ErrSyntax,
		"z :- flag.":                 api.ErrSyntax,
		"z()":                        api.ErrSyntax,
		"e(a, b":                     api.ErrSyntax,
		"e(a b)":                     api.ErrSyntax,
		"e(X, )":                     api.ErrSyntax,
		"e(X, Y) ?":                  api.ErrSyntax,
		"X = X":                      api.ErrSyntax,
		"a < b":                      api.ErrSyntax,
		"o(2147483649)":              api.ErrSyntax,
		"o(-2147483649)":             api.ErrSyntax,
		"o(01)":                      api.ErrSyntax,
		"o(-0)":                      api.ErrSyntax,
		"a2345678901234567":          api.ErrSyntax,
		"o(X2345678901234567)":       api.ErrSyntax,
		"z\x00":                      api.ErrSyntax,
		"\xff":                       api.ErrSyntax,
		"w(A, B, C, D, E)":           api.ErrLimit,
		"w(A, B, C, D, E":            api.ErrLimit,
		"w(A, B, C, D, ":             api.ErrSyntax,
		"z" + long + " ":             api.ErrLimit,
		"?" + long + " ":             api.ErrLimit,
		strings.Repeat("z", 1000000): api.ErrLimit,
	}
	for what, l := range map[string]*incr.Live{"a full one": known(t), "a zero one": {}, "a nil one": nil} {
		for text, want := range wrong {
			if rows, err := Text(l, text); len(rows) != 0 || err != want {
				t.Errorf("P16.1: %s: Text(%.50q): %d rows, %d; want error %d", what, text, len(rows), err, want)
			}
			if _, err := syntax.Query(text); err != want {
				t.Errorf("P16.1: syntax.Query(%.50q): %d; want error %d", text, err, want)
			}
		}
	}
}

// One that holds nothing answers nothing, and that is no error.
func TestNothingHeld(t *testing.T) {
	for _, l := range []*incr.Live{nil, {}, live(t, "", ""), live(t, "e(X, Y) :- z(X, Y).", "")} {
		for _, text := range []string{"z", "z(X)", "e(X, Y)", "e(a, b)", "e(X, X)."} {
			gives(t, l, text, "")
		}
		gets(t, l, api.Literal{}, "")
		gets(t, l, atom(""), "")
	}
}

// The chapter speaks of a question's predicate and terms: its Kind says nothing.
func TestKindSaysNothing(t *testing.T) {
	l := known(t)
	for _, kind := range []int{api.LAtom, api.LNot, api.LEq, api.LLe, 0, -1, 7, math.MinInt, math.MaxInt} {
		gets(t, l, api.Literal{Kind: kind, Name: "e", Args: []api.Term{vary("X"), word("b")}}, "e(a, b)|e(b, b)")
		gets(t, l, api.Literal{Kind: kind, Args: []api.Term{vary("X"), word("b")}}, "")
	}
}

// What is neither a constant that may be nor a variable fits nothing.
func TestTermsThatFitNothing(t *testing.T) {
	l := live(t, "", "n(0); n(5); n(a); n(2147483648); m(a, 5)")
	for _, bad := range []api.Term{
		{},
		{Kind: 4, Name: "a"},
		{Kind: -1, Num: 5},
		{Name: "a"},
		{Num: 5},
		{Name: "X"},
		{Kind: api.TInt, Name: "a"},
		{Kind: api.TInt, Name: "X", Num: 5},
		{Kind: api.TInt, Num: 6},
		{Kind: api.TInt, Num: math.MaxInt64},
		{Kind: api.TInt, Num: math.MinInt64},
		{Kind: api.TInt, Num: 5 + 1<<32},
		{Kind: api.TWord},
		{Kind: api.TWord, Name: "X"},
		{Kind: api.TWord, Name: "a", Num: 5},
		{Kind: api.TWord, Name: "5"},
		{Kind: api.TWord, Name: strings.Repeat("a", 1000000)},
		{Kind: math.MaxInt, Name: "a"},
	} {
		gets(t, l, atom("n", bad), "")
		gets(t, l, atom("m", bad, vary("X")), "")
		gets(t, l, atom("m", vary("X"), bad), "")
	}
}

// A variable is told from others by its Name, whatever that is, and is never a constant.
func TestVariablesOfAnyName(t *testing.T) {
	l := live(t, "", "m(a, a); m(a, b); m(b, a); m(5, 5)")
	for _, name := range []string{"", "a", "b", "5", "_", "\xff", strings.Repeat("X", 1000)} {
		gets(t, l, atom("m", vary(name), vary(name)), "m(5, 5)|m(a, a)")
		gets(t, l, atom("m", vary(name), vary(name+"x")), "m(5, 5)|m(a, a)|m(a, b)|m(b, a)")
		gets(t, l, atom("m", vary(name), word("a")), "m(a, a)|m(b, a)")
		gets(t, l, atom("m", word("a"), vary(name)), "m(a, a)|m(a, b)")
		gets(t, l, atom("m", num(5), vary(name)), "m(5, 5)")
	}
	gets(t, l, atom("m", api.Term{Kind: api.TVar, Name: "X", Num: 1}, vary("X")), "m(5, 5)|m(a, a)")
}

// Answers are of what holds at the moment.
func TestAnswersFollowTheFacts(t *testing.T) {
	l := live(t, "path(X, Y) :- e(X, Y). path(X, Z) :- path(X, Y), e(Y, Z). far(X) :- n(X), !path(a, X).", "n(b); n(c); e(b, c)")
	gives(t, l, "path(X, c)", "path(b, c)")
	gives(t, l, "far(X)", "far(b)|far(c)")
	l.Insert(fact(t, "e(a, b)"))
	gives(t, l, "path(X, c)", "path(a, c)|path(b, c)")
	gives(t, l, "path(a, X)", "path(a, b)|path(a, c)")
	gives(t, l, "far(X)", "")
	l.Insert(fact(t, "e(c, a)"))
	gives(t, l, "path(X, X)", "path(a, a)|path(b, b)|path(c, c)")
	l.Insert(fact(t, "far(q)"))
	gives(t, l, "far(q)", "")
	l.Retract(fact(t, "e(a, b)"))
	gives(t, l, "path(X, X)", "")
	gives(t, l, "far(c)", "far(c)")
	l.Install(rules(t, "path(X) :- n(X)."))
	gives(t, l, "path(X, Y)", "")
	gives(t, l, "path(X)", "path(b)|path(c)")
	gives(t, l, "far(X)", "")
	gives(t, l, "e(X, Y)", "e(b, c)|e(c, a)")
}

// A model with as many rows as go is told whole.
func TestFullModel(t *testing.T) {
	var base []string
	for i := range 31 {
		base = append(base, fmt.Sprintf("n(%d)", i))
	}
	l := live(t, "two(X, Y) :- n(X), n(Y). w0(a2345678901234_5, -2147483648, a2345678901234_5, X) :- n(X), X < 8.", strings.Join(base, ";"))
	if len(l.All()) != api.MaxRows {
		t.Fatalf("%d rows", len(l.All()))
	}
	gives(t, l, "two(X, Y)", show(l.Facts("two")))
	for q, want := range map[string]int{"n(X)": 31, "two(X, Y)": 961, "two(X, X)": 31, "two(30, Y)": 31, "two(X, 0)": 31, "two(31, X)": 0, "w0(W, X, Y, Z)": 8, "w0(X, Y, X, Z)": 8, "w0(W, X, Y, 7)": 1} {
		if rows, err := Text(l, q); len(rows) != want || err != api.OK {
			t.Errorf("P16.1: %s: %d rows, %d; want %d", q, len(rows), err, want)
		}
	}
	gives(t, l, "w0(X, Y, X, 7)", "w0(a2345678901234_5, -2147483648, a2345678901234_5, 7)")
}
