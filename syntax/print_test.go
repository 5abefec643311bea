package syntax

import (
	"math"
	"math/rand"
	"slices"
	"strings"
	"testing"

	"delphi/api"
)

func checkPrint(t *testing.T, r api.Rule, want string) {
	t.Helper()
	got := Print(r)
	if got != want {
		t.Errorf("P8.2: Print(%v): %q, want %q", r, got, want)
	}
	if again, err := Program(got); err != api.OK || len(again) != 1 || !sameRule(again[0], r) {
		t.Errorf("P8.2: Program(%q): %v, %d; want %v", got, again, err, r)
	}
}

func TestPrint(t *testing.T) {
	x, a, b := vary("X"), word("a"), word("b")
	p, q := atom("p"), atom("q")
	checkPrint(t, rule(p), "p.")
	checkPrint(t, api.Rule{Head: p, Body: []api.Literal{}}, "p.")
	checkPrint(t, rule(atom("p", a)), "p(a).")
	checkPrint(t, rule(atom("p", a, num(-3), x, num(0))), "p(a, -3, X, 0).")
	checkPrint(t, rule(atom("p", num(1<<31), num(-1<<31))), "p(2147483648, -2147483648).")
	checkPrint(t, rule(p, q), "p :- q.")
	checkPrint(t, rule(p, atom("q", x, a)), "p :- q(X, a).")
	checkPrint(t, rule(p, not("q")), "p :- !q.")
	checkPrint(t, rule(p, not("q", x, a)), "p :- !q(X, a).")
	checkPrint(t, rule(p, compare(api.LEq, x, a)), "p :- X = a.")
	checkPrint(t, rule(p, compare(api.LNe, a, x)), "p :- a != X.")
	checkPrint(t, rule(p, compare(api.LLt, x, num(3))), "p :- X < 3.")
	checkPrint(t, rule(p, compare(api.LLe, num(-3), b)), "p :- -3 <= b.")
	checkPrint(t, rule(p, compare(api.LEq, a, b), atom("a", b)), "p :- a = b, a(b).")
	checkPrint(t, rule(atom("head"), atom("a"), not("b"), compare(api.LLt, x, num(3))), "head :- a, !b, X < 3.")
	checkPrint(t, rule(p, not("a"), not("b", x), atom("c"), compare(api.LEq, x, x), compare(api.LNe, x, x), atom("d", x)), "p :- !a, !b(X), c, X = X, X != X, d(X).")
}

func TestPrintLeavesItsListsAsTheyAre(t *testing.T) {
	args := []api.Term{vary("X"), num(3), word("a")}
	body := []api.Literal{{Kind: api.LLt, Args: args[:2]}, atom("q"), atom("r")}
	argsBefore, bodyBefore := slices.Clone(args), slices.Clone(body)
	if got := Print(api.Rule{Head: api.Literal{Kind: api.LAtom, Name: "p", Args: args[:1]}, Body: body[:2]}); got != "p(X) :- X < 3, q." {
		t.Errorf("P8.2: %q", got)
	}
	if !slices.Equal(args, argsBefore) || !slices.EqualFunc(body, bodyBefore, sameAtom) {
		t.Errorf("P0.3: %v, %v", args, body)
	}
}

// Rules that no text makes are printed as far as that goes, and nothing panics.
func TestPrintOfAnyRules(t *testing.T) {
	x := vary("X")
	for _, c := range []struct {
		rule api.Rule
		want string
	}{
		{api.Rule{}, "."},
		{api.Rule{Head: api.Literal{Name: "p"}}, "p."},
		{api.Rule{Head: api.Literal{Kind: 7, Name: "p", Args: []api.Term{x}}}, "p(X)."},
		{api.Rule{Head: api.Literal{Kind: math.MinInt, Name: "p"}, Body: []api.Literal{{}}}, "p :- ."},
		{rule(atom("p"), api.Literal{Kind: api.LEq}), "p :-  = ."},
		{rule(atom("p"), api.Literal{Kind: api.LLt, Args: []api.Term{x}}), "p :- X < ."},
		{rule(atom("p"), api.Literal{Kind: api.LLe, Name: "q", Args: []api.Term{x, num(3), num(4)}}), "p :- X <= 3."},
		{rule(atom("p", num(math.MinInt64), num(1), num(2), num(3), num(4))), "p(-9223372036854775808, 1, 2, 3, 4)."},
	} {
		if got := Print(c.rule); got != c.want {
			t.Errorf("P0.1: Print(%v): %q, want %q", c.rule, got, c.want)
		}
	}
	long := rule(atom("p"), slices.Repeat([]api.Literal{atom("q")}, 100000)...)
	if got, want := Print(long), "p :- "+strings.Repeat("q, ", 99999)+"q."; got != want {
		t.Errorf("P8.2: Print of a long rule has %d bytes, want %d", len(got), len(want))
	}
}

func randomTerm(r *rand.Rand) api.Term {
	switch r.Intn(3) {
	case 0:
		return vary([]string{"X", "Y", "Long_name_9", "ABCDEFGHIJKLMNOP"}[r.Intn(4)])
	case 1:
		return word([]string{"a", "b", "p", "abcdefghijklmnop"}[r.Intn(4)])
	}
	return num([]int64{0, 1, -1, 1 << 31, -1 << 31, int64(r.Intn(1 << 30)), -int64(r.Intn(1 << 30))}[r.Intn(7)])
}

func randomAtom(r *rand.Rand) api.Literal {
	l := atom([]string{"p", "q", "a", "long_name_9", "abcdefghijklmnop"}[r.Intn(5)])
	for range r.Intn(api.MaxArity + 1) {
		l.Args = append(l.Args, randomTerm(r))
	}
	return l
}

func randomRule(r *rand.Rand) api.Rule {
	one := rule(randomAtom(r))
	for range r.Intn(api.MaxBody + 1) {
		l := randomAtom(r)
		if kind := api.LAtom + r.Intn(6); kind >= api.LEq {
			l = compare(kind, randomTerm(r), randomTerm(r))
		} else {
			l.Kind = kind
		}
		one.Body = append(one.Body, l)
	}
	return one
}

func TestPrintAndBack(t *testing.T) {
	r := rand.New(rand.NewSource(1))
	for range 3000 {
		var rules []api.Rule
		var texts []string
		for range r.Intn(api.MaxRules + 1) {
			one := randomRule(r)
			if size := len(strings.Join(texts, "\n")) + len(Print(one)) + 1; size > api.MaxText {
				break
			}
			rules, texts = append(rules, one), append(texts, Print(one))
		}
		text := strings.Join(texts, "\n")
		got, err := Program(text)
		if err != api.OK || !slices.EqualFunc(got, rules, sameRule) {
			t.Fatalf("P8.2: Program(%q): %v, %d; want %v", text, got, err, rules)
		}
		for i, one := range got {
			if Print(one) != texts[i] {
				t.Fatalf("P8.2: Print(%v): %q, was %q", one, Print(one), texts[i])
			}
		}
		if joined, err := Program(strings.Join(strings.Fields(text), "")); err != api.OK || !slices.EqualFunc(joined, rules, sameRule) {
			t.Fatalf("P8.1: without blanks: %v, %d; want %v", joined, err, rules)
		}
	}
}
