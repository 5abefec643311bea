package incr

import (
	"fmt"
	"math"
	"slices"
	"strings"
	"testing"

	"delphi/api"
	"delphi/model"
	"delphi/syntax"
	"delphi/value"
)

func num(n int64) api.Term { return api.Term{Kind: api.TInt, Num: n} }

func word(s string) api.Term { return api.Term{Kind: api.TWord, Name: s} }

func vary(s string) api.Term { return api.Term{Kind: api.TVar, Name: s} }

func literal(kind int, name string, args ...api.Term) api.Literal {
	return api.Literal{Kind: kind, Name: name, Args: args}
}

func fact(name string, args ...api.Term) api.Fact { return api.Fact{Name: name, Args: args} }

func rules(t *testing.T, text string) []api.Rule {
	t.Helper()
	l, err := syntax.Program(text)
	if err != api.OK {
		t.Fatalf("%s: %d", text, err)
	}
	return l
}

func factOf(t *testing.T, text string) api.Fact {
	t.Helper()
	f, err := syntax.Fact(text)
	if err != api.OK {
		t.Fatalf("%s: %d", text, err)
	}
	return f
}

// facts reads those of a text, with a semicolon between them.
func facts(t *testing.T, text string) []api.Fact {
	t.Helper()
	var l []api.Fact
	for s := range strings.SplitSeq(text, ";") {
		if strings.TrimSpace(s) != "" {
			l = append(l, factOf(t, s))
		}
	}
	return l
}

// numbered gives the facts name(0), name(1), ..
func numbered(name string, n int) []api.Fact {
	var l []api.Fact
	for i := range n {
		l = append(l, fact(name, num(int64(i))))
	}
	return l
}

func show(l []api.Fact) string {
	texts := make([]string, len(l))
	for i, f := range l {
		texts[i] = value.Fact(f)
	}
	return strings.Join(texts, " ")
}

func showRules(l []api.Rule) string {
	texts := make([]string, len(l))
	for i, r := range l {
		texts[i] = syntax.Print(r)
	}
	return strings.Join(texts, " ")
}

// state tells all that a live one tells of itself.
func state(l *Live) string {
	return showRules(l.Rules()) + " | " + show(l.Base()) + " | " + show(l.All())
}

func live(t *testing.T, l []api.Rule, base []api.Fact) *Live {
	t.Helper()
	made, err := New(l, base)
	if made == nil || err != api.OK {
		t.Fatalf("P15.1: New(%s; %s): %v, %d", showRules(l), show(base), made, err)
	}
	current(t, made)
	return made
}

// current holds all that is told against the model of the rules and base facts that are told.
func current(t *testing.T, l *Live) {
	t.Helper()
	m, err := model.Make(l.Rules(), l.Base())
	if err != api.OK {
		t.Fatalf("P15.1: %s: the model has the error %d", state(l), err)
	}
	want := m.All()
	if got := show(l.All()); got != show(want) {
		t.Fatalf("P15.1: %s; %s: All: %s; want %s", showRules(l.Rules()), show(l.Base()), got, show(want))
	}
	names := m.Names()
	for _, r := range l.Rules() {
		names = append(names, r.Head.Name)
	}
	for _, name := range append(names, "", "zzz", "Z") {
		if got := show(l.Facts(name)); got != show(m.Facts(name)) {
			t.Fatalf("P15.1: %s; %s: Facts(%q): %s; want %s", showRules(l.Rules()), show(l.Base()), name, got, show(m.Facts(name)))
		}
	}
	for _, f := range want {
		other := fact(f.Name, append(slices.Clone(f.Args), num(1))...)
		if !l.Has(f) || l.Has(other) || l.Has(fact(f.Name+"_", f.Args...)) {
			t.Fatalf("P15.1: %s; %s: Has(%v): %t", showRules(l.Rules()), show(l.Base()), f, l.Has(f))
		}
	}
}

// inserts asks for the answer of an Insert; if nothing changes, all must be as it was.
func inserts(t *testing.T, l *Live, f api.Fact, want bool, wantErr api.Errno) {
	t.Helper()
	answers(t, l, "Insert", l.Insert, f, want, wantErr)
}

func retracts(t *testing.T, l *Live, f api.Fact, want bool, wantErr api.Errno) {
	t.Helper()
	answers(t, l, "Retract", l.Retract, f, want, wantErr)
}

func answers(t *testing.T, l *Live, what string, do func(api.Fact) (bool, api.Errno), f api.Fact, want bool, wantErr api.Errno) {
	t.Helper()
	before := state(l)
	changed, err := do(f)
	if changed != want || err != wantErr {
		t.Fatalf("P15.1: %.500s: %s(%.100v): %t, %d; want %t, %d", before, what, f, changed, err, want, wantErr)
	}
	if after := state(l); !want && after != before {
		t.Fatalf("P15.1: %s(%.100v), which changes nothing, made %.500s of %.500s", what, f, after, before)
	}
	if isThere := slices.ContainsFunc(l.Base(), func(b api.Fact) bool { return sameFact(b, f) }); want && isThere != (what == "Insert") {
		t.Fatalf("P15.1: %s(%v): behind it the base facts are %s", what, f, show(l.Base()))
	}
	current(t, l)
}

func installs(t *testing.T, l *Live, r []api.Rule, want api.Errno) {
	t.Helper()
	before, base := state(l), show(l.Base())
	if err := l.Install(r); err != want {
		t.Fatalf("P15.1: %.500s: Install(%.500v): %d; want %d", before, r, err, want)
	}
	if after := state(l); want != api.OK && after != before {
		t.Fatalf("P15.1: Install(%.500v), which is an error, made %.500s of %.500s", r, after, before)
	}
	if want == api.OK && !slices.EqualFunc(l.Rules(), r, sameRule) {
		t.Fatalf("P15.1: Rules: %s; want those that were installed: %s", showRules(l.Rules()), showRules(r))
	}
	if got := show(l.Base()); got != base {
		t.Fatalf("P15.1: Install(%s): the base facts became %s; they were %s", showRules(r), got, base)
	}
	current(t, l)
}

func sameFact(a, b api.Fact) bool { return a.Name == b.Name && slices.Equal(a.Args, b.Args) }

func sameLiteral(a, b api.Literal) bool {
	return a.Kind == b.Kind && a.Name == b.Name && slices.Equal(a.Args, b.Args)
}

func sameRule(a, b api.Rule) bool {
	return sameLiteral(a.Head, b.Head) && slices.EqualFunc(a.Body, b.Body, sameLiteral)
}

// run does what a text says, step by step: + a fact, - a fact; and asks at the end for the facts that are not base facts.
func run(t *testing.T, text, base, steps, want string) {
	t.Helper()
	l := live(t, rules(t, text), facts(t, base))
	for s := range strings.SplitSeq(steps, ";") {
		s = strings.TrimSpace(s)
		if f := factOf(t, s[1:]); s[0] == '+' {
			inserts(t, l, f, true, api.OK)
		} else {
			retracts(t, l, f, true, api.OK)
		}
	}
	var got []api.Fact
	for _, f := range l.All() {
		if !slices.ContainsFunc(l.Base(), func(b api.Fact) bool { return sameFact(b, f) }) {
			got = append(got, f)
		}
	}
	if show(got) != want {
		t.Errorf("P15.1: %s; %s; %s: %s; want %s", text, base, steps, show(got), want)
	}
}

const paths = "t(X, Y) :- e(X, Y). t(X, Z) :- t(X, Y), e(Y, Z)."

func TestFactsComeAndGo(t *testing.T) {
	run(t, "", "", "+b; -b; +b(1); -b(1); +b(1, 2)", "")
	run(t, "p(X) :- q(X).", "", "+q(1)", "p(1)")
	run(t, "p(X) :- q(X).", "q(1); q(2)", "-q(1)", "p(2)")
	run(t, "p(X) :- q(X).", "q(1)", "-q(1)", "")
	run(t, "p(X) :- q(X).", "q(1)", "-q(1); +q(2); +q(3); -q(2); +q(1)", "p(1) p(3)")
	run(t, "p(X) :- q(X), r(X).", "q(1); r(2)", "+r(1); +q(2); -q(1)", "p(2)")
	run(t, "p(X, Y) :- q(X), q(Y), X < Y.", "q(1); q(2)", "+q(a); -q(1); +q(0)", "p(0, 2) p(0, a) p(2, a)")
	run(t, "p :- q(X), r(X).", "q(1); q(2); r(1)", "+r(2); -r(1)", "p")
	run(t, "p :- q(X), r(X).", "q(1); q(2); r(1)", "+r(2); -r(1); -q(2)", "")
	run(t, "p(X, Y) :- q(X, Z), q(Z, Y).", "q(a, a); q(a, b)", "-q(a, a); +q(b, b)", "p(a, b) p(b, b)")
}

// A row that has several reasons stays as long as one of them is left.
func TestOtherReasons(t *testing.T) {
	run(t, "p(X) :- q(X). p(X) :- r(X).", "q(1); r(1)", "-q(1)", "p(1)")
	run(t, "p(X) :- q(X). p(X) :- r(X).", "q(1); r(1)", "-r(1); -q(1)", "")
	run(t, "p(1). p(X) :- q(X).", "q(1); q(2)", "-q(1); -q(2)", "p(1)")
	run(t, "p(1) :- a = a. p(X) :- q(X).", "q(1); q(2)", "-q(1); -q(2)", "p(1)")
	run(t, "p(X) :- q(X, Y).", "q(1, a); q(1, b); q(2, a)", "-q(1, a); -q(2, a)", "p(1)")
	run(t, "p(k, X) :- q(X). p(X, X) :- r(X). s(X) :- p(Y, X).", "q(k); r(k); q(m)", "-q(k); -q(m)", "p(k, k) s(k)")
	run(t, "p(X) :- q(X). p(X) :- n(X), !r(X).", "q(1); n(1)", "-q(1)", "p(1)")
	run(t, "p(X) :- q(X). p(X) :- n(X), !r(X).", "q(1); n(1)", "-q(1); +r(1)", "")
	run(t, "p(X) :- q(X). p(X) :- n(X), !r(X).", "q(1); n(1)", "+r(1)", "p(1)")
	// What is lost by one reason comes by another in the same change.
	run(t, "p(X) :- n(X), q. p(X) :- n(X), !q.", "n(1); n(2)", "+q; -q; +q", "p(1) p(2)")
	run(t, "p(X) :- n(X), !low. p(X) :- n(X), low. low :- q.", "n(1); n(2)", "+q; -q; +q", "low p(1) p(2)")
}

// Rows that are one another's only reasons go together.
func TestCircles(t *testing.T) {
	run(t, paths, "e(a, b); e(b, c)", "+e(c, a)", "t(a, a) t(a, b) t(a, c) t(b, a) t(b, b) t(b, c) t(c, a) t(c, b) t(c, c)")
	run(t, paths, "e(a, b); e(b, c); e(c, a)", "-e(b, c)", "t(a, b) t(c, a) t(c, b)")
	run(t, paths, "e(a, b); e(b, a); e(b, c)", "-e(a, b); -e(b, a)", "t(b, c)")
	run(t, paths, "e(a, b); e(b, d); e(a, c); e(c, d); e(d, f)", "-e(a, b)", "t(a, c) t(a, d) t(a, f) t(b, d) t(b, f) t(c, d) t(c, f) t(d, f)")
	run(t, "p :- q. q :- p. p :- b.", "b", "-b", "")
	run(t, "p :- q. q :- p. p :- b.", "b", "-b; +b", "p q")
	run(t, "p :- q. q :- r. r :- p. p :- b. r :- c.", "b; c", "-b", "p q r")
	run(t, "p :- q. q :- r. r :- p. p :- b. r :- c.", "b; c", "-b; -c", "")
	run(t, "p(X) :- p(X). p(X) :- b(X).", "b(1); b(2)", "-b(1)", "p(2)")
	run(t, "p(X, Y) :- p(Y, X). p(X, Y) :- b(X, Y).", "b(1, 2); b(2, 1); b(3, 4)", "-b(1, 2); -b(3, 4)", "p(1, 2) p(2, 1)")
	run(t, "even(0). even(Y) :- odd(X), s(X, Y). odd(Y) :- even(X), s(X, Y).", "s(0, 1); s(1, 2); s(2, 3); s(3, 4)", "-s(1, 2); +s(1, 3)", "even(0) even(3) odd(1) odd(4)")
	run(t, "t(X, Y) :- e(X, Y). t(X, Z) :- t(X, Y), t(Y, Z).", "e(a, b); e(b, c); e(c, d)", "-e(b, c); +e(b, d); -e(a, b)", "t(b, d) t(c, d)")
}

func TestNegation(t *testing.T) {
	run(t, "p(X) :- n(X), !q(X).", "n(1); n(2)", "+q(1)", "p(2)")
	run(t, "p(X) :- n(X), !q(X).", "n(1); n(2); q(1); q(2)", "-q(1)", "p(1)")
	run(t, "p(X) :- n(X), !q(X).", "n(1); q(2)", "+n(2); -n(1)", "")
	run(t, "p :- !q.", "", "+q; -q", "p")
	run(t, "p :- !q.", "", "+q", "")
	run(t, "p(X) :- n(X), !q(X), !r(X).", "n(1); q(1); r(1)", "-q(1); -r(1)", "p(1)")
	run(t, "p(X) :- n(X), !q(X), !r(X).", "n(1)", "+q(1); +r(1); -q(1)", "")
	run(t, "p(X, Y) :- n(X), n(Y), !q(X), !q(Y).", "n(1); n(2); q(1); q(2)", "-q(1)", "p(1, 1)")
	run(t, "p(X, Y) :- n(X), n(Y), !q(X), !q(Y).", "n(1); n(2)", "+q(2)", "p(1, 1)")
	run(t, "p(X) :- q(X), !q(X). r(X) :- q(X), !p(X).", "q(1)", "+q(2); -q(1)", "r(2)")
	run(t, "p(X) :- n(X), !q(X, X), !q(X, k).", "n(k); n(m); q(m, m)", "-q(m, m); +q(m, k); -q(m, k); +q(k, k)", "p(m)")
	run(t, "p(c) :- !q(c, 5). r(X) :- p(X).", "", "+q(c, 5); -q(c, 5); +q(c, 6)", "p(c) r(c)")
}

// Through towers of negations a change becomes its contrary again and again.
func TestTowers(t *testing.T) {
	const tower = "a :- !b. b :- !c. c :- !d. d :- !e. e :- !f."
	run(t, tower, "", "+f", "b d")
	run(t, tower, "f", "-f", "a c e")
	const lone = paths + " lone(X) :- n(X), !t(X, X). pair(X, Y) :- lone(X), lone(Y), X < Y. single(X) :- lone(X), !some(X). some(X) :- pair(X, Y). some(X) :- pair(Y, X)."
	run(t, lone, "n(a); n(b); n(c); e(a, b)", "+e(b, a)", "lone(c) single(c) t(a, a) t(a, b) t(b, a) t(b, b)")
	run(t, lone, "n(a); n(b); n(c); e(a, b); e(b, a)", "-e(a, b); -n(b)", "lone(a) lone(c) pair(a, c) some(a) some(c) t(b, a)")
	var l []api.Rule
	for i := range 30 {
		l = append(l, rules(t, fmt.Sprintf("p%02d(X) :- n(X), !p%02d(X).", i+1, i))...)
	}
	made := live(t, l, facts(t, "n(a); n(b)"))
	for range 2 {
		inserts(t, made, factOf(t, "p00(a)"), true, api.OK)
		if made.Has(factOf(t, "p01(a)")) || !made.Has(factOf(t, "p30(a)")) || made.Has(factOf(t, "p30(b)")) {
			t.Errorf("P15.1: thirty strata: %s", show(made.All()))
		}
		retracts(t, made, factOf(t, "p00(a)"), true, api.OK)
		if made.Has(factOf(t, "p30(a)")) || !made.Has(factOf(t, "p29(a)")) {
			t.Errorf("P15.1: thirty strata: %s", show(made.All()))
		}
	}
}

// A fact that is there already, or is not there, is no error, whatever else would be wrong with it.
func TestNothingToDo(t *testing.T) {
	l := live(t, rules(t, paths+" p(X) :- q(X), !r(X, X)."), facts(t, "e(a, b); q(1); q(1); c"))
	for _, text := range []string{"e(a, b)", "q(1)", "c"} {
		inserts(t, l, factOf(t, text), false, api.OK)
		retracts(t, l, factOf(t, text), true, api.OK)
		retracts(t, l, factOf(t, text), false, api.OK)
		inserts(t, l, factOf(t, text), true, api.OK)
		inserts(t, l, factOf(t, text), false, api.OK)
	}
	// Rows that rules give, facts of defined predicates and of other widths are no base facts.
	for _, text := range []string{"t(a, b)", "p(1)", "t(z, z)", "t(a)", "t", "e(a)", "e(b, a)", "e", "q", "q(2)", "q(1, 1)", "c(1)", "zzz", "zzz(1, 2, 3, 4)", "r(1, 1)", "r"} {
		retracts(t, l, factOf(t, text), false, api.OK)
	}
}

func badTerms() []api.Term {
	return []api.Term{
		{}, {Kind: 4, Name: "a"}, {Kind: -1}, {Kind: math.MaxInt, Name: "a"}, {Name: "a"}, {Num: 5}, vary("X"), vary("x"), vary(""),
		word(""), word("A"), word("1"), word("_a"), word("a b"), word("ä"), word("a\x00"), word(strings.Repeat("a", 17)), word(strings.Repeat("a", 100000)), {Kind: api.TWord, Name: "a", Num: 1},
		num(1<<31 + 1), num(-1<<31 - 1), num(math.MaxInt64), num(math.MinInt64), {Kind: api.TInt, Name: "a", Num: 1},
	}
}

func badNames() []string {
	return []string{"", "P", "1", "_p", "p q", " p", "p ", "pQ", "p(", "ä", "p\x00", "=", strings.Repeat("p", 17), strings.Repeat("p", 100000)}
}

// A fact that may not be is ErrLimit, of Insert and of Retract, and ahead of all other errors.
func TestFactThatMayNotBe(t *testing.T) {
	empty, full := live(t, nil, nil), live(t, rules(t, paths+" p :- b(X), none(X)."), numbered("b", 100))
	both := func(f api.Fact) {
		t.Helper()
		for _, l := range []*Live{empty, full, {}} {
			inserts(t, l, f, false, api.ErrLimit)
			retracts(t, l, f, false, api.ErrLimit)
			if l.Has(f) {
				t.Errorf("P15.1: Has(%.100v)", f)
			}
		}
	}
	for _, name := range badNames() {
		both(fact(name))
		both(fact(name, num(1)))
	}
	for _, x := range badTerms() {
		for _, name := range []string{"b", "t", "p", "e", "new"} {
			both(fact(name, x))
			both(fact(name, num(1), x))
			both(fact(name, x, num(1), num(1), num(1)))
			both(fact(name, num(1), num(1), num(1), x))
		}
	}
	for _, n := range []int{5, 6, 100000} {
		both(fact("b", slices.Repeat([]api.Term{num(1)}, n)...))
		both(fact("new", slices.Repeat([]api.Term{{}}, n)...))
	}
	both(api.Fact{})
}

// All that may be comes and goes.
func TestFactsThatMayBe(t *testing.T) {
	l := live(t, rules(t, "p(X) :- q(X, Y, Z, W), !r(W)."), nil)
	long := strings.Repeat("n", 16)
	good := []api.Fact{fact("new"), fact(long, word(long)), fact("z_9", num(0), num(-1)), fact("m", num(1<<31), num(-1<<31), word("a")), fact("q", word("a_1"), num(1<<31), word(long), num(-1<<31)), {Name: "x", Args: []api.Term{}}}
	for _, f := range good {
		inserts(t, l, f, true, api.OK)
	}
	for _, f := range good {
		inserts(t, l, f, false, api.OK)
		retracts(t, l, f, true, api.OK)
	}
	if got := state(l); got != showRules(l.Rules())+" |  | " {
		t.Errorf("P15.1: %s", got)
	}
}

func TestInsertArityAndBase(t *testing.T) {
	l := live(t, rules(t, paths+" p :- q(X, k), !r(X), !s."), facts(t, "e(a, b); c(1); d"))
	for _, text := range []string{"e", "e(a)", "e(a, b, c)", "c", "c(1, 2)", "d(1)", "t", "t(a)", "t(a, b, c)", "p(1)", "q(1)", "q", "r", "r(1, 2)", "s(1)"} {
		inserts(t, l, factOf(t, text), false, api.ErrArity)
	}
	for _, text := range []string{"t(a, b)", "t(z, z)", "p"} {
		inserts(t, l, factOf(t, text), false, api.ErrBase)
	}
	for _, text := range []string{"q(1, 2)", "r(1)", "s", "c(2)", "new(1)"} {
		inserts(t, l, factOf(t, text), true, api.OK)
	}
	inserts(t, l, factOf(t, "new"), false, api.ErrArity)
	// A predicate without facts, of which no rule speaks, has no width.
	retracts(t, l, factOf(t, "new(1)"), true, api.OK)
	inserts(t, l, factOf(t, "new"), true, api.OK)
	retracts(t, l, factOf(t, "c(1)"), true, api.OK)
	inserts(t, l, factOf(t, "c"), false, api.ErrArity)
	retracts(t, l, factOf(t, "c(2)"), true, api.OK)
	inserts(t, l, factOf(t, "c"), true, api.OK)
	retracts(t, l, factOf(t, "q(1, 2)"), true, api.OK)
	inserts(t, l, factOf(t, "q(1)"), false, api.ErrArity)
}

// The hundredth fact is the last that may be; it is counted ahead of all that else may be wrong with it.
func TestManyFacts(t *testing.T) {
	l := live(t, rules(t, paths), numbered("b", 99))
	inserts(t, l, factOf(t, "b(-1)"), true, api.OK)
	for _, text := range []string{"b(-2)", "b", "new", "e(a, b)", "t(a, b)", "t"} {
		inserts(t, l, factOf(t, text), false, api.ErrLimit)
	}
	inserts(t, l, factOf(t, "b(-1)"), false, api.OK)
	retracts(t, l, factOf(t, "t(a, b)"), false, api.OK)
	retracts(t, l, factOf(t, "b(5)"), true, api.OK)
	inserts(t, l, factOf(t, "t(a, b)"), false, api.ErrBase)
	inserts(t, l, factOf(t, "t"), false, api.ErrArity)
	inserts(t, l, factOf(t, "e(a, b)"), true, api.OK)
	inserts(t, l, factOf(t, "b(5)"), false, api.ErrLimit)
	if n := len(l.Base()); n != 100 {
		t.Errorf("P15.1: %d base facts", n)
	}
	installs(t, l, nil, api.OK)
}
