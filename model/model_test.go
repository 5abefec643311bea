package model

import (
	"fmt"
	"strings"
	"testing"

	"delphi/api"
	"delphi/syntax"
	"delphi/value"
)

func num(n int64) api.Term { return api.Term{Kind: api.TInt, Num: n} }

func word(s string) api.Term { return api.Term{Kind: api.TWord, Name: s} }

func vary(s string) api.Term { return api.Term{Kind: api.TVar, Name: s} }

func literal(kind int, name string, args ...api.Term) api.Literal {
	return api.Literal{Kind: kind, Name: name, Args: args}
}

func atom(name string, args ...api.Term) api.Literal { return literal(api.LAtom, name, args...) }

func not(name string, args ...api.Term) api.Literal { return literal(api.LNot, name, args...) }

func rule(head api.Literal, body ...api.Literal) api.Rule { return api.Rule{Head: head, Body: body} }

func fact(name string, args ...api.Term) api.Fact { return api.Fact{Name: name, Args: args} }

func rules(t *testing.T, text string) []api.Rule {
	t.Helper()
	l, err := syntax.Program(text)
	if err != api.OK {
		t.Fatalf("%s: %d", text, err)
	}
	return l
}

// facts reads those of a text, with a semicolon between them.
func facts(t *testing.T, text string) []api.Fact {
	t.Helper()
	var l []api.Fact
	for s := range strings.SplitSeq(text, ";") {
		if strings.TrimSpace(s) == "" {
			continue
		}
		f, err := syntax.Fact(s)
		if err != api.OK {
			t.Fatalf("%s: %d", s, err)
		}
		l = append(l, f)
	}
	return l
}

// numbered gives the facts name(0), name(1), ..
func numbered(name string, n int) []api.Fact {
	var l []api.Fact
	for i := range n {
		l = append(l, fact(name, num(int64(i))))
	}
	return l
}

func show(l []api.Fact) string {
	texts := make([]string, len(l))
	for i, f := range l {
		texts[i] = value.Fact(f)
	}
	return strings.Join(texts, " ")
}

func showRules(l []api.Rule) string {
	texts := make([]string, len(l))
	for i, r := range l {
		texts[i] = syntax.Print(r)
	}
	return strings.Join(texts, " ")
}

func made(t *testing.T, l []api.Rule, base []api.Fact) *Model {
	t.Helper()
	m, err := Make(l, base)
	if m == nil || err != api.OK {
		t.Fatalf("P14.1: Make(%s; %s): %v, %d", showRules(l), show(base), m, err)
	}
	return m
}

// refused asks for an error, without a model.
func refused(t *testing.T, want api.Errno, l []api.Rule, base []api.Fact) {
	t.Helper()
	if m, err := Make(l, base); m != nil || err != want {
		t.Errorf("P14.1: Make(%.300v; %.300v): %t, %d; want error %d", l, base, m != nil, err, want)
	}
}

func checkModel(t *testing.T, text, base, want string) {
	t.Helper()
	m := made(t, rules(t, text), facts(t, base))
	if got := show(m.All()); got != want {
		t.Errorf("P14.1: Make(%s; %s): %s; want %s", text, base, got, want)
	}
}

func TestFactsAlone(t *testing.T) {
	checkModel(t, "", "", "")
	checkModel(t, "", "b", "b")
	checkModel(t, "", "b(1); a(x, y)", "a(x, y) b(1)")
	checkModel(t, "", "b(1); b(1); c; b(2); c; b(1)", "b(1) b(2) c")
	checkModel(t, "p(X) :- none(X).", "b(1)", "b(1)")
	if m := made(t, nil, []api.Fact{}); m.Len() != 0 {
		t.Errorf("P14.1: a model of nothing has %d rows", m.Len())
	}
}

func TestRulesWithoutFacts(t *testing.T) {
	checkModel(t, "p. q(a). q(5). r(X, X) :- q(X).", "", "p q(5) q(a) r(5, 5) r(a, a)")
	checkModel(t, "p. p. q(a). q(a).", "", "p q(a)")
	checkModel(t, "p :- p. q :- r. r :- q. s :- a = a. u :- a = b. v :- !p, !none(a).", "", "s v")
}

func TestRulesOverFacts(t *testing.T) {
	const base = "e(a, b); e(b, c); e(c, d); n(a); n(b); n(1); n(2)"
	const shown = "e(a, b) e(b, c) e(c, d) n(1) n(2) n(a) n(b)"
	for _, c := range []struct{ text, want string }{
		{"p(X) :- e(X, Y).", shown + " p(a) p(b) p(c)"},
		{"p(X, Z) :- e(X, Y), e(Y, Z).", shown + " p(a, c) p(b, d)"},
		{"p(X) :- n(X), !e(X, c).", shown + " p(1) p(2) p(a)"},
		{"p(X) :- n(X), 1 < X, X != b.", shown + " p(2) p(a)"},
		{"p(X) :- n(X), X <= a.", shown + " p(1) p(2) p(a)"},
		{"p(X, k, X) :- n(X), X = 2.", shown + " p(2, k, 2)"},
		{"p(k) :- n(X). p(X) :- n(X), !n(k).", shown + " p(1) p(2) p(a) p(b) p(k)"},
		{"p :- e(X, X). q :- n(X), e(X, Y), n(Y).", shown + " q"},
	} {
		checkModel(t, c.text, base, c.want)
	}
}

// What a stratum's rules lead to comes back to them, until nothing is new, in whatever order they stand.
func TestLeastSet(t *testing.T) {
	for _, text := range []string{
		"t(X, Y) :- e(X, Y). t(X, Z) :- t(X, Y), t(Y, Z).",
		"t(X, Z) :- t(X, Y), e(Y, Z). t(X, Y) :- e(X, Y).",
		"t(X, Z) :- e(X, Y), t(Y, Z). t(X, Y) :- e(X, Y).",
		"t(X, Z) :- t(X, Y), t(Y, Z). t(X, Y) :- e(X, Y).",
	} {
		checkModel(t, text, "e(a, b); e(b, c); e(c, d)", "e(a, b) e(b, c) e(c, d) t(a, b) t(a, c) t(a, d) t(b, c) t(b, d) t(c, d)")
		checkModel(t, text, "e(a, b); e(b, a)", "e(a, b) e(b, a) t(a, a) t(a, b) t(b, a) t(b, b)")
	}
	checkModel(t, "d(X) :- c(X). c(X) :- b(X). b(X) :- a(X).", "a(1)", "a(1) b(1) c(1) d(1)")
	checkModel(t, "even(0). even(Y) :- odd(X), s(X, Y). odd(Y) :- even(X), s(X, Y).", "s(0, 1); s(1, 2); s(2, 3)", "even(0) even(2) odd(1) odd(3) s(0, 1) s(1, 2) s(2, 3)")
	checkModel(t, "p(a). p(b) :- p(a). p(c) :- p(a), p(b). p(d) :- p(e). p(e) :- p(d).", "", "p(a) p(b) p(c)")
	checkModel(t, "p(X, Y) :- p(Y, X). p(X, Y) :- e(X, Y).", "e(a, b); e(c, c)", "e(a, b) e(c, c) p(a, b) p(b, a) p(c, c)")
	checkModel(t, "p(X) :- q(X), r(X). q(X) :- p(X). q(a). r(a) :- q(a). r(b) :- p(a). q(b) :- r(b).", "", "p(a) p(b) q(a) q(b) r(a) r(b)")
}

// The heads' constants are there for rules behind them, wherever these stand.
func TestNewConstants(t *testing.T) {
	checkModel(t, "q(X, Y) :- p(X), p(Y), X < Y. p(z) :- p(5). p(5) :- b. p(-5) :- p(z).", "b", "b p(-5) p(5) p(z) q(-5, 5) q(-5, z) q(5, z)")
}

func TestNegationIsAskedOfWhatIsBelow(t *testing.T) {
	checkModel(t, "lone(X) :- n(X), !t(X, X). t(X, Z) :- t(X, Y), e(Y, Z). t(X, Y) :- e(X, Y).",
		"n(a); n(b); n(c); e(a, b); e(b, a)", "e(a, b) e(b, a) lone(c) n(a) n(b) n(c) t(a, a) t(a, b) t(b, a) t(b, b)")
	checkModel(t, "a :- !b. b :- !c. c :- !d. d :- !e. e :- !f.", "", "a c e")
	checkModel(t, "a :- !b. b :- !c. c :- !d. d :- !e. e :- !f.", "f", "b d f")
	checkModel(t, "e :- !f. d :- !e. c :- !d. b :- !c. a :- !b.", "", "a c e")
	checkModel(t, "p(X) :- n(X), !q(X). q(X) :- r(X). r(X) :- s(X). s(1).", "n(1); n(2)", "n(1) n(2) p(2) q(1) r(1) s(1)")
	// All that the lower stratum has comes ahead of the first negation, also what comes late there.
	checkModel(t, "out(X) :- n(X), !in(X). in(0). in(Y) :- in(X), s(X, Y).", "n(0); n(1); n(2); n(3); n(9); s(0, 1); s(1, 2); s(2, 3)",
		"in(0) in(1) in(2) in(3) n(0) n(1) n(2) n(3) n(9) out(9) s(0, 1) s(1, 2) s(2, 3)")
	// Within a stratum what is negated is below, while the rest comes back.
	checkModel(t, "safe(X, Y) :- e(X, Y), !bad(Y). safe(X, Z) :- safe(X, Y), safe(Y, Z). bad(X) :- mark(X), !good(X). good(b).",
		"e(a, b); e(b, c); e(c, d); mark(b); mark(d)", "bad(d) e(a, b) e(b, c) e(c, d) good(b) mark(b) mark(d) safe(a, b) safe(a, c) safe(b, c)")
	checkModel(t, "p(X) :- q(X), !q(X). r(X) :- q(X), !p(X).", "q(1)", "q(1) r(1)")
}

// The highest towers of strata: each of the rules is one.
func TestThirtyStrata(t *testing.T) {
	var l []api.Rule
	var want []string
	for i := range 30 {
		l = append(l, rule(atom(fmt.Sprintf("p%02d", i+1), vary("X")), atom("n", vary("X")), not(fmt.Sprintf("p%02d", i), vary("X"))))
	}
	m := made(t, l, append(facts(t, "p00(a)"), facts(t, "n(a); n(b)")...))
	for i := range 31 {
		want = append(want, fmt.Sprintf("p%02d(%c)", i, 'a'+i%2))
	}
	if got := show(m.All()); got != "n(a) n(b) "+strings.Join(want, " ") {
		t.Errorf("P14.1: thirty strata: %s", got)
	}
	l = append(l[1:], l[0])
	if got := show(made(t, l, facts(t, "n(a); n(b); p00(a)")).All()); got != show(m.All()) {
		t.Errorf("P14.1: thirty strata in another order: %s", got)
	}
}

// Rows, rules, literals and terms as many as may be.
func TestAllThatMayBe(t *testing.T) {
	checkModel(t, "p(X, Y, Z, W) :- q(X, Y, Z, W), !r(W, Z, Y, X), X != Y, Y < Z, Z <= W, q(X, Y, Z, W).", "q(2, 1, 3, 4); q(2, 1, 3, 3); r(4, 3, 1, 2)", "p(2, 1, 3, 3) q(2, 1, 3, 3) q(2, 1, 3, 4) r(4, 3, 1, 2)")
	long := strings.Repeat("n", api.MaxName)
	checkModel(t, long+"("+strings.ToUpper(long)+") :- q("+strings.ToUpper(long)+").", "q("+long+"); q(2147483648); q(-2147483648)",
		long+"(-2147483648) "+long+"(2147483648) "+long+"("+long+") q(-2147483648) q(2147483648) q("+long+")")
}

func TestFull(t *testing.T) {
	pairs := rules(t, "p(X, Y) :- b(X), b(Y).")
	if m := made(t, pairs, numbered("b", 31)); m.Len() != 31+961 {
		t.Errorf("P14.1: %d rows", m.Len())
	}
	refused(t, api.ErrFull, pairs, numbered("b", 32))
	// 961 rows, and 31 facts: eight more of others are the last ones that may be.
	if m := made(t, pairs, append(numbered("b", 31), numbered("c", 8)...)); m.Len() != 1000 {
		t.Errorf("P14.1: %d rows", m.Len())
	}
	refused(t, api.ErrFull, pairs, append(numbered("b", 31), numbered("c", 9)...))
	more := append(rules(t, "d. d2. d3. d4."), pairs...)
	if m := made(t, more, append(numbered("b", 31), numbered("c", 4)...)); m.Len() != 1000 {
		t.Errorf("P14.1: %d rows", m.Len())
	}
	refused(t, api.ErrFull, more, append(numbered("b", 31), numbered("c", 5)...))
	// Facts that come twice count once.
	twice := append(append(numbered("b", 31), numbered("c", 8)...), numbered("c", 8)...)
	if m := made(t, pairs, twice); m.Len() != 1000 {
		t.Errorf("P14.1: %d rows", m.Len())
	}
	// A row that two rules give counts once too.
	same := append(rules(t, "p(Y, X) :- b(X), b(Y). p(X, X) :- b(X)."), pairs...)
	if m := made(t, same, append(numbered("b", 31), numbered("c", 8)...)); m.Len() != 1000 {
		t.Errorf("P14.1: %d rows", m.Len())
	}
	// What the rules below a negation give may take rows away above: the model alone counts.
	if m := made(t, rules(t, "p(X, Y) :- b(X), b(Y), !q. q :- b(0)."), numbered("b", 99)); m.Len() != 100 {
		t.Errorf("P14.1: %d rows", m.Len())
	}
	refused(t, api.ErrFull, rules(t, "p(X, Y) :- b(X), b(Y), !q. q :- b(100)."), numbered("b", 99))
}

// The two halves of what is too much may stand in two rules of one predicate, in two predicates, in two strata.
func TestFullTogether(t *testing.T) {
	base := append(numbered("b", 22), numbered("c", 23)...)
	for _, text := range []string{
		"p(1, X, Y) :- b(X), b(Y). p(2, X, Y) :- c(X), c(Y).",
		"p(X, Y) :- b(X), b(Y). q(X, Y) :- c(X), c(Y).",
		"p(X, Y) :- b(X), b(Y). q(X, Y) :- c(X), c(Y), !p(X, z).",
		"q(X, Y) :- c(X), c(Y), !p(X, z). p(X, Y) :- b(X), b(Y).",
		"p(1, X, Y) :- b(X), b(Y). p(2, X, Y) :- p(1, A, B), c(X), c(Y).",
	} {
		refused(t, api.ErrFull, rules(t, text), base)
		if m := made(t, rules(t, text), append(base[:21:21], base[22:44]...)); m.Len() != 21+22+21*21+22*22 {
			t.Errorf("P14.1: %s: %d rows", text, m.Len())
		}
	}
}

// A row that comes with every round: as many rounds as there are rows.
func TestManyRounds(t *testing.T) {
	const count = " c(A, B, D) :- c(A, B, C), s(C, D). c(A, D, 0) :- c(A, B, 9), s(B, D). c(D, 0, 0) :- c(A, 9, 9), s(A, D)."
	var next []api.Fact
	for i := range int64(9) {
		next = append(next, fact("s", num(i), num(i+1)))
	}
	m := made(t, rules(t, "c(0, 0, 9)."+count), next)
	if m.Len() != 1000 || !m.Has(fact("c", num(9), num(9), num(9))) || !m.Has(fact("c", num(3), num(0), num(8))) || m.Has(fact("c", num(0), num(0), num(8))) {
		t.Errorf("P14.1: counting: %d rows", m.Len())
	}
	refused(t, api.ErrFull, rules(t, "c(0, 0, 8)."+count), next)
	refused(t, api.ErrFull, rules(t, "c(0, 0, 0)."+count), next)
}
