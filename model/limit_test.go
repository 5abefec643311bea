package model

import (
	"math"
	"slices"
	"strconv"
	"strings"
	"testing"

	"delphi/api"
)

// badTerms may stand nowhere.
func badTerms() []api.Term {
	return []api.Term{
		{}, {Kind: 4, Name: "a"}, {Kind: -1}, {Kind: math.MaxInt, Name: "X"}, {Kind: 0, Name: "X"}, {Kind: 0, Num: 5},
		word(""), word("A"), word("1"), word("_a"), word("a b"), word("a-b"), word("aB"), word("ä"), word("a\x00"), word("a."), word(strings.Repeat("a", 17)), word(strings.Repeat("a", 100000)),
		{Kind: api.TWord, Name: "a", Num: 1},
		num(1<<31 + 1), num(-1<<31 - 1), num(math.MaxInt64), num(math.MinInt64), {Kind: api.TInt, Name: "a", Num: 1},
		vary(""), vary("x"), vary("_X"), vary("1X"), vary("X Y"), vary("X "), vary(" X"), vary("X\n"), vary("X%"), vary("X%a"), vary("%X"), vary("X-"), vary("XÄ"), vary("Ä"), vary("X\xff"), vary("X,"), vary("X.Y"),
		vary(strings.Repeat("X", 17)), vary(strings.Repeat("X", 4001)), vary(strings.Repeat("X", 100000)), vary(strings.Repeat(" ", 5000)),
		{Kind: api.TVar, Name: "X", Num: 1}, {Kind: api.TVar, Name: "X", Num: -1}, {Kind: api.TVar, Name: "X", Num: math.MinInt64},
	}
}

// goodTerms may stand in rules.
func goodTerms() []api.Term {
	return []api.Term{
		word("a"), word("a_1"), word("z9__"), word(strings.Repeat("a", 16)), num(0), num(-1), num(1 << 31), num(-1 << 31),
		vary("X"), vary("A"), vary("Z"), vary("Xa_1Z"), vary("X_"), vary("XY"), vary(strings.Repeat("X", 16)),
	}
}

func badNames() []string {
	return []string{"", "P", "Pp", "1", "1p", "_p", "p q", " p", "p ", "pQ", "p-", "p(", "ä", "p\x00", "=", "!", strings.Repeat("p", 17), strings.Repeat("p", 100000)}
}

func comparisons() []int { return []int{api.LEq, api.LNe, api.LLt, api.LLe} }

// ErrLimit goes ahead of all other errors: so a rule needs nothing else to be good.
func limited(t *testing.T, r api.Rule) {
	t.Helper()
	refused(t, api.ErrLimit, []api.Rule{r}, nil)
	refused(t, api.ErrLimit, []api.Rule{rule(atom("first")), r, rule(atom("last"))}, []api.Fact{fact("f")})
}

func limitedFact(t *testing.T, f api.Fact) {
	t.Helper()
	refused(t, api.ErrLimit, nil, []api.Fact{f})
	refused(t, api.ErrLimit, []api.Rule{rule(atom("p"))}, []api.Fact{fact("first"), f, fact("last", num(1))})
}

func TestLimitOfRules(t *testing.T) {
	var l []api.Rule
	for i := range 31 {
		l = append(l, rule(atom("p", num(int64(i)))))
	}
	if m := made(t, l[:30], nil); m.Len() != 30 {
		t.Errorf("P14.1: %d rows of thirty rules", m.Len())
	}
	refused(t, api.ErrLimit, l, nil)
	refused(t, api.ErrLimit, slices.Repeat(l[:1], 31), nil)
	refused(t, api.ErrLimit, slices.Repeat(l, 10000), nil)
	refused(t, api.ErrLimit, make([]api.Rule, 1000000), nil)
}

func TestLimitOfFacts(t *testing.T) {
	l := numbered("b", 101)
	if m := made(t, nil, l[:100]); m.Len() != 100 {
		t.Errorf("P14.1: %d rows of a hundred facts", m.Len())
	}
	refused(t, api.ErrLimit, nil, l)
	refused(t, api.ErrLimit, nil, slices.Repeat(l[:1], 101))
	refused(t, api.ErrLimit, nil, slices.Repeat(l, 10000))
	refused(t, api.ErrLimit, nil, make([]api.Fact, 1000000))
	if m := made(t, nil, slices.Repeat(l[:1], 100)); m.Len() != 1 {
		t.Errorf("P14.1: %d rows of a fact that comes a hundred times", m.Len())
	}
}

func TestLimitOfLiterals(t *testing.T) {
	zero := literal(api.LEq, "", num(0), num(0))
	for _, l := range []api.Literal{atom("q"), not("r"), zero} {
		made(t, []api.Rule{rule(atom("p"), slices.Repeat([]api.Literal{l}, 6)...)}, nil)
		limited(t, rule(atom("p"), slices.Repeat([]api.Literal{l}, 7)...))
		limited(t, rule(atom("p"), slices.Repeat([]api.Literal{l}, 100000)...))
	}
	made(t, []api.Rule{rule(atom("p"), atom("q"), not("q"), zero, zero, atom("q"), not("q"))}, nil)
	limited(t, rule(atom("p"), atom("q"), not("q"), zero, zero, atom("q"), not("q"), atom("q")))
}

func TestLimitOfTerms(t *testing.T) {
	for _, n := range []int{0, 1, 2, 3, 4} {
		args := slices.Repeat([]api.Term{num(1)}, n)
		m := made(t, []api.Rule{rule(atom("p", args...), atom("q", args...), not("r", args...))}, []api.Fact{fact("q", args...)})
		if m.Len() != 2 {
			t.Errorf("P14.1: %d terms: %d rows", n, m.Len())
		}
	}
	for _, n := range []int{5, 6, 100000} {
		args := slices.Repeat([]api.Term{num(1)}, n)
		limited(t, rule(atom("p", args...)))
		limited(t, rule(atom("p"), atom("q", args...)))
		limited(t, rule(atom("p"), atom("r"), not("q", args...)))
		limitedFact(t, fact("b", args...))
	}
}

func TestLimitOfNames(t *testing.T) {
	for _, name := range []string{"p", "z", "p_1", "p__", "pq9", strings.Repeat("p", 16)} {
		if m := made(t, []api.Rule{rule(atom(name), atom("b"), not("none"))}, []api.Fact{fact("b")}); m.Len() != 2 {
			t.Errorf("P14.1: a head %q: %d rows", name, m.Len())
		}
		if m := made(t, []api.Rule{rule(atom("head"), atom(name))}, []api.Fact{fact(name)}); m.Len() != 2 {
			t.Errorf("P14.1: a fact %q: %d rows", name, m.Len())
		}
		made(t, []api.Rule{rule(atom("head"), not(name))}, nil)
	}
	for _, name := range badNames() {
		limited(t, rule(atom(name)))
		limited(t, rule(atom("p"), atom(name)))
		limited(t, rule(atom("p"), atom("q"), not(name)))
		limitedFact(t, fact(name))
		limitedFact(t, fact(name, num(1)))
	}
}

func TestLimitOfWhatTermsMayBe(t *testing.T) {
	for _, x := range goodTerms() {
		made(t, []api.Rule{rule(atom("p", x), atom("q", x), not("r", x), literal(api.LEq, "", x, x))}, nil)
	}
	for _, x := range badTerms() {
		for i := range 4 {
			args := slices.Repeat([]api.Term{num(1)}, 4)
			args[i] = x
			limited(t, rule(atom("p", args...)))
			limited(t, rule(atom("p"), atom("q", args...)))
			limited(t, rule(atom("p"), atom("q"), not("r", args...)))
			limitedFact(t, fact("b", args...))
		}
		for _, kind := range comparisons() {
			limited(t, rule(atom("p"), literal(kind, "", x, num(1))))
			limited(t, rule(atom("p"), atom("q"), literal(kind, "", num(1), x)))
			limited(t, rule(atom("p"), literal(kind, "", x, x)))
		}
	}
	limitedFact(t, fact("b", vary("X")))
	limitedFact(t, fact("b", num(1), num(2), num(3), vary("X")))
}

func TestLimitOfKinds(t *testing.T) {
	x := vary("X")
	for _, kind := range []int{0, 7, 8, -1, math.MaxInt, math.MinInt} {
		limited(t, rule(atom("p"), literal(kind, "")))
		limited(t, rule(atom("p"), literal(kind, "q")))
		limited(t, rule(atom("p"), atom("q", x), literal(kind, "q", x)))
		limited(t, rule(atom("p"), atom("q", x), literal(kind, "", x, x)))
		limited(t, rule(literal(kind, "p")))
	}
	limited(t, api.Rule{})
	for _, kind := range append(comparisons(), api.LNot) {
		limited(t, rule(literal(kind, "p")))
		limited(t, rule(literal(kind, "p", num(1), num(1))))
		limited(t, rule(literal(kind, "", num(1), num(1))))
	}
}

func TestLimitOfComparisons(t *testing.T) {
	for _, kind := range comparisons() {
		made(t, []api.Rule{rule(atom("p"), literal(kind, "", num(1), word("a")))}, nil)
		for _, n := range []int{0, 1, 3, 4, 5, 100000} {
			limited(t, rule(atom("p"), literal(kind, "", slices.Repeat([]api.Term{num(1)}, n)...)))
		}
		for _, name := range []string{"q", "p", "=", " ", "\x00", "X"} {
			limited(t, rule(atom("p"), literal(kind, name, num(1), num(1))))
		}
	}
}

func TestUnsafe(t *testing.T) {
	for _, text := range []string{"p(X).", "p(X) :- q.", "p(X) :- q(Y).", "p :- !q(X).", "p :- q(Y), X < Y.", "p(X) :- X = 1.", "q(1). p(X, Y) :- q(X), !q(Y). r."} {
		refused(t, api.ErrUnsafe, rules(t, text), nil)
	}
}

func TestArity(t *testing.T) {
	for _, c := range []struct{ text, base string }{
		{"p. p(a).", ""}, {"p :- p(a).", ""}, {"p :- q, q(a).", ""}, {"p :- q, !q(a).", ""}, {"p :- !q(a). r :- q.", ""}, {"p :- b.", "b(1)"}, {"p :- !b(1, 2).", "b(1)"}, {"", "b; b(1)"}, {"", "b(1); c; b(1, 2)"}, {"b(1).", "b"},
	} {
		refused(t, api.ErrArity, rules(t, c.text), facts(t, c.base))
	}
}

func TestBase(t *testing.T) {
	for _, c := range []struct{ text, base string }{
		{"b(1).", "b(1)"}, {"b(1).", "b(2)"}, {"p. b(X) :- c(X).", "c(1); b(1); d"}, {"b :- !c.", "c; b"}, {"b :- b.", "b"},
	} {
		refused(t, api.ErrBase, rules(t, c.text), facts(t, c.base))
	}
	checkModel(t, "p(X) :- b(X), !c(X).", "b(1); c(2)", "b(1) c(2) p(1)")
}

func TestStrata(t *testing.T) {
	for _, text := range []string{"p :- !p.", "p :- !q. q :- p.", "p :- !q. q :- !p.", "p :- q. q :- r. r :- e, !p.", "w(X) :- m(X, Y), !w(Y)."} {
		refused(t, api.ErrStrata, rules(t, text), facts(t, "m(1, 2)"))
	}
}

// Of several errors the first in the chapter's order is told, wherever each of them stands.
func TestOrderOfErrors(t *testing.T) {
	faults := []struct {
		rules []api.Rule
		facts []api.Fact
		err   api.Errno
	}{
		{[]api.Rule{rule(atom("Limit"))}, nil, api.ErrLimit},
		{rules(t, "u(X) :- !v(X)."), nil, api.ErrUnsafe},
		{rules(t, "a. a(k)."), nil, api.ErrArity},
		{rules(t, "d(k)."), facts(t, "d(z)"), api.ErrBase},
		{rules(t, "s :- !s."), nil, api.ErrStrata},
		{rules(t, "f(X, Y) :- g(X), g(Y)."), numbered("g", 32), api.ErrFull},
	}
	for set := 1; set < 1<<len(faults); set++ {
		var l []api.Rule
		var base []api.Fact
		want := api.OK
		for i, f := range faults {
			if set>>i&1 == 0 {
				continue
			}
			l, base = append(l, f.rules...), append(base, f.facts...)
			if want == api.OK {
				want = f.err
			}
		}
		refused(t, want, l, base)
		slices.Reverse(l)
		slices.Reverse(base)
		refused(t, want, l, base)
	}
	// Limits that lie in facts, or in numbers of things, go ahead as well.
	for _, text := range []string{"u(X).", "a. a(k).", "b(k).", "s :- !s."} {
		refused(t, api.ErrLimit, rules(t, text), numbered("b", 101))
		refused(t, api.ErrLimit, rules(t, text), []api.Fact{fact("b", vary("X"))})
		var many []api.Rule
		for i := range 30 {
			many = append(many, rule(atom("p"+strconv.Itoa(i))))
		}
		refused(t, api.ErrLimit, append(many, rules(t, text)...), nil)
	}
}
