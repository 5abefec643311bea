package check

import (
	"maps"
	"math"
	"slices"
	"strconv"
	"strings"
	"testing"
	"unsafe"

	"delphi/api"
	"delphi/syntax"
)

func num(n int64) api.Term { return api.Term{Kind: api.TInt, Num: n} }

func word(s string) api.Term { return api.Term{Kind: api.TWord, Name: s} }

func vary(s string) api.Term { return api.Term{Kind: api.TVar, Name: s} }

func literal(kind int, name string, args ...api.Term) api.Literal {
	return api.Literal{Kind: kind, Name: name, Args: args}
}

func atom(name string, args ...api.Term) api.Literal { return literal(api.LAtom, name, args...) }

func rule(head api.Literal, body ...api.Literal) api.Rule { return api.Rule{Head: head, Body: body} }

// wide gives a fact of that width.
func wide(name string, width int) api.Fact {
	return api.Fact{Name: name, Args: slices.Repeat([]api.Term{word("a")}, width)}
}

func rules(t *testing.T, text string) []api.Rule {
	t.Helper()
	l, err := syntax.Program(text)
	if err != api.OK {
		t.Fatalf("%s: %d", text, err)
	}
	return l
}

func checkSafe(t *testing.T, want bool, texts ...string) {
	t.Helper()
	for _, text := range texts {
		l := rules(t, text)
		if len(l) != 1 {
			t.Fatalf("%s: %d rules", text, len(l))
		}
		checkRule(t, want, l[0])
	}
}

func checkRule(t *testing.T, want bool, r api.Rule) {
	t.Helper()
	if got := Safe(r); got != want {
		t.Errorf("P9.1: Safe(%v), %s: %t", r, syntax.Print(r), got)
	}
}

func checkArities(t *testing.T, l []api.Rule, facts []api.Fact, want map[string]int) {
	t.Helper()
	got, err := Arities(l, facts)
	if !maps.Equal(got, want) || err != api.OK {
		t.Errorf("P9.1: Arities(%v, %v): %v, %d; want %v", l, facts, got, err, want)
	}
}

func badArities(t *testing.T, l []api.Rule, facts ...api.Fact) {
	t.Helper()
	if got, err := Arities(l, facts); got != nil || err != api.ErrArity {
		t.Errorf("P9.1: Arities(%v, %v): %v, %d; want nil, ErrArity", l, facts, got, err)
	}
}

func TestSafeOrdinary(t *testing.T) {
	checkSafe(t, true,
		"path(X, Y) :- edge(X, Y).",
		"path(X, Z) :- path(X, Y), edge(Y, Z).",
		"old(P) :- age(P, N), 65 <= N, !young(P).",
		"lone(X) :- node(X), !linked(X).",
		"pair(X, Y) :- node(X), node(Y), X != Y, X < Y, X <= Y.",
		"p(X, X) :- q(a, X, X, 3).",
		"p :- q(X, Y).")
	checkSafe(t, false,
		"path(X, Y) :- edge(X, Z).",
		"old(P) :- age(Q, N), 65 <= N.",
		"lone(X) :- node(Y), !linked(X).",
		"pair(X, Y) :- node(X), X != Y.")
}

func TestSafeWithoutBody(t *testing.T) {
	checkSafe(t, true, "p.", "p(a).", "p(a, 3, -1, x).")
	checkSafe(t, false, "p(X).", "p(a, X).", "p(X, a).", "p(a, b, c, X).")
	checkRule(t, true, rule(atom("p", word("a"))))
	checkRule(t, true, api.Rule{Head: atom("p"), Body: []api.Literal{}})
	checkRule(t, false, api.Rule{Head: atom("p", vary("X")), Body: []api.Literal{}})
}

func TestSafeHead(t *testing.T) {
	checkSafe(t, true, "p(X) :- q(X).", "p(a, X) :- q(X, b).", "p(X, Y) :- q(X), r(Y).", "p(X, Y) :- r(Y), q(X).", "p(a) :- q(X).", "p(X) :- p(X).", "p(X, Y, Z, W) :- q(W, Z, Y, X).")
	checkSafe(t, false, "p(X) :- q.", "p(X) :- q(Y).", "p(X, Y) :- q(X).", "p(X, Y) :- q(Y).", "p(X) :- q(a).", "p(X) :- X = X.", "p(X) :- !q(X).", "p(X) :- !p(X).", "p(X, Y, Z, W) :- q(X, Y, Z).")
}

func TestSafeNegated(t *testing.T) {
	checkSafe(t, true, "p :- !q.", "p :- !q(a).", "p :- q(X), !r(X).", "p :- !r(X), q(X).", "p :- q(X), q(Y), !r(X, Y).", "p :- !r(X, Y), q(X), s, q(Y).", "p :- q(X), !q(X).", "p :- !r(X), !s(X), q(X).")
	checkSafe(t, false, "p :- !q(X).", "p :- !q(X), q(Y).", "p :- q(Y), !q(X).", "p :- q(X), !r(X, Y).", "p :- q(X), !r(Y, X).", "p :- !q(X), !r(X).", "p :- q(X), !r(X), !r(Y).", "p :- !r(Y), !r(X), q(X).", "p :- !q(a, b, c, X).")
}

// Each comparison, its variable on either side, with the atom ahead of it, behind it, and without one.
func TestSafeComparisons(t *testing.T) {
	for _, sign := range []string{"=", "!=", "<", "<="} {
		for _, sides := range []string{"X # 3", "3 # X", "X # a", "a # X", "X # X"} {
			text := strings.Replace(sides, "#", sign, 1)
			checkSafe(t, true, "p :- q(X), "+text+".", "p :- "+text+", q(X).", "p(X) :- r, "+text+", q(a, X), r.")
			checkSafe(t, false, "p :- "+text+".", "p :- q(Y), "+text+".", "p :- "+text+", !q(X).", "p(X) :- "+text+".", "p :- q(x), "+text+", r.")
		}
		checkSafe(t, true, "p :- 3 "+sign+" 2.", "p :- a "+sign+" 2.", "p :- q(X), r(Y), X "+sign+" Y.", "p :- X "+sign+" Y, q(Y, X).")
		checkSafe(t, false, "p :- q(X), X "+sign+" Y.", "p :- q(X), Y "+sign+" X.", "p :- X "+sign+" Y, q(X).", "p :- Y "+sign+" X, q(X).")
	}
}

// An = between a variable and a constant, or a bound one, binds nothing.
func TestSafeEqualityBindsNothing(t *testing.T) {
	checkSafe(t, false, "p(X) :- X = a.", "p(X) :- a = X.", "p(X) :- X = 3.", "p :- X = 3.", "p(Y) :- q(X), X = Y.", "p(Y) :- q(X), Y = X.", "p :- X = a, !q(X).", "p :- X = 1, X < 2.", "p(X) :- r, X = a.")
	checkSafe(t, true, "p(X) :- q(X), X = a.", "p(Y) :- q(X), Y = X, q(Y).")
}

// A name, or a predicate, of a variable's letters is none.
func TestSafeNamesAreNoVariables(t *testing.T) {
	x := "X"
	checkRule(t, true, rule(atom("p", word(x))))
	checkRule(t, false, rule(atom("p", vary(x)), atom("q", word(x))))
	checkRule(t, false, rule(atom("p", vary(x)), atom(x)))
	checkRule(t, false, rule(atom("p", vary(x)), atom("q", api.Term{Kind: api.TInt, Name: x})))
	checkRule(t, false, rule(atom("p"), atom("q", word(x)), literal(api.LNot, "r", vary(x))))
	checkRule(t, true, rule(atom("p"), atom("q"), literal(api.LNot, "r", word(x)), literal(api.LLt, "", word(x), api.Term{Kind: api.TInt, Name: x})))
	checkRule(t, true, rule(atom("p", word(x)), atom("q", word(x))))
	checkRule(t, true, rule(atom("p", vary(x)), atom("q", word(x), vary(x))))
	checkRule(t, false, rule(atom("p", vary("x")), atom("q", vary(x))))
	checkRule(t, false, rule(atom("p", vary("X1")), atom("q", vary(x))))
	checkRule(t, false, rule(atom("p", vary(x)), atom("q", vary("X1"))))
	checkRule(t, false, rule(atom("p", vary("")), atom("q", vary(x))))
	checkRule(t, true, rule(atom("p", vary("")), atom("q", vary(""))))
	checkRule(t, true, rule(atom("p", api.Term{Kind: api.TVar, Name: x, Num: 1}), atom("q", vary(x))))
}

// What was made elsewhere: heads of any kind, literals of no known kind, terms of no known kind, any number of terms.
func TestSafeMadeElsewhere(t *testing.T) {
	x, y := vary("X"), vary("Y")
	for _, kind := range []int{0, 7, -1, 8, math.MaxInt, math.MinInt} {
		checkRule(t, true, rule(atom("p"), literal(kind, "q", x)))
		checkRule(t, false, rule(atom("p", x), literal(kind, "q", x)))
		checkRule(t, false, rule(atom("p"), literal(kind, "q", x), literal(api.LNot, "q", x)))
		checkRule(t, true, rule(atom("p", x), literal(kind, "q", y), atom("q", x)))
		checkRule(t, true, rule(literal(kind, "p", x), atom("q", x)))
		checkRule(t, false, rule(literal(kind, "p", x), atom("q", y)))
		checkRule(t, true, rule(atom("p", api.Term{Kind: kind, Name: "X"})))
	}
	for _, kind := range []int{api.LNot, api.LEq, api.LNe, api.LLt, api.LLe} {
		checkRule(t, true, rule(atom("p"), literal(kind, "")))
		checkRule(t, false, rule(atom("p"), literal(kind, "", x)))
		checkRule(t, false, rule(atom("p"), literal(kind, "", x, x, y), atom("q", x)))
		checkRule(t, true, rule(atom("p"), literal(kind, "", x, x, y), atom("q", x, y)))
		checkRule(t, false, rule(literal(kind, "p", x)))
	}
	checkRule(t, true, api.Rule{})
	checkRule(t, true, rule(atom("p"), make([]api.Literal, 100)...))
}

func TestSafeLong(t *testing.T) {
	const n = 100000
	terms := make([]api.Term, n)
	for i := range terms {
		terms[i] = vary("X" + strconv.Itoa(i))
	}
	body := make([]api.Literal, n)
	for i := range body {
		body[i] = atom("q", terms[n-1-i])
	}
	checkRule(t, true, rule(atom("p", terms...), append(body, literal(api.LNot, "r", terms...))...))
	checkRule(t, false, rule(atom("p", terms...), body[1:]...))
	checkRule(t, true, rule(atom("p"), body...))
}

func TestAritiesWhereTheyStand(t *testing.T) {
	checkArities(t, rules(t, "p(X) :- q(X, Y), !r, X < Y."), []api.Fact{wide("f", 3)}, map[string]int{"p": 1, "q": 2, "r": 0, "f": 3})
	checkArities(t, rules(t, "p(a, b)."), nil, map[string]int{"p": 2})
	checkArities(t, rules(t, "p(a, b, c, d). q :- !p(a, b, c, X)."), nil, map[string]int{"p": 4, "q": 0})
	checkArities(t, rules(t, "p :- q(a)."), nil, map[string]int{"p": 0, "q": 1})
	checkArities(t, rules(t, "p :- !q(a)."), nil, map[string]int{"p": 0, "q": 1})
	checkArities(t, rules(t, "p :- q, r(a), s(a, b). q :- t(a, b, c), !u."), nil, map[string]int{"p": 0, "q": 0, "r": 1, "s": 2, "t": 3, "u": 0})
	checkArities(t, nil, []api.Fact{wide("f", 2), wide("g", 0), wide("h", 4)}, map[string]int{"f": 2, "g": 0, "h": 4})
	checkArities(t, rules(t, "p(X) :- q(X), !p(X). p(a). q(X) :- p(X)."), []api.Fact{wide("p", 1), wide("q", 1), wide("p", 1)}, map[string]int{"p": 1, "q": 1})
}

func TestAritiesOfNothing(t *testing.T) {
	for _, l := range [][]api.Rule{nil, {}} {
		for _, facts := range [][]api.Fact{nil, {}} {
			checkArities(t, l, facts, map[string]int{})
		}
		checkArities(t, l, []api.Fact{wide("f", 1)}, map[string]int{"f": 1})
	}
	checkArities(t, rules(t, "p :- q(a)."), []api.Fact{}, map[string]int{"p": 0, "q": 1})
}

// Comparisons are no predicates, whatever they are made of.
func TestAritiesOfComparisons(t *testing.T) {
	for _, sign := range []string{"=", "!=", "<", "<="} {
		checkArities(t, rules(t, "p :- a "+sign+" b, 1 "+sign+" 2."), nil, map[string]int{"p": 0})
		checkArities(t, rules(t, "a(X) :- p(X), a "+sign+" X, X "+sign+" p."), nil, map[string]int{"a": 1, "p": 1})
	}
	for kind := api.LEq; kind <= api.LLe; kind++ {
		checkArities(t, []api.Rule{rule(atom("p"), literal(kind, "p", word("a"), word("b")), literal(kind, "q"), literal(kind, "q", num(1)))}, nil, map[string]int{"p": 0})
	}
}

// Terms are no predicates either.
func TestAritiesOfTerms(t *testing.T) {
	checkArities(t, rules(t, "p(p, q) :- q(p), !r(q, r, s)."), []api.Fact{{Name: "s", Args: []api.Term{word("t"), word("p")}}}, map[string]int{"p": 2, "q": 1, "r": 3, "s": 2})
}

func TestAritiesTwoWidths(t *testing.T) {
	for _, text := range []string{
		"p(a). p.",
		"p. p(a).",
		"p(a, b). q. p(a).",
		"p :- p(a).",
		"p(X) :- q(X), p.",
		"p(X) :- q(X), !p.",
		"p(X) :- q(X), !p(X, X).",
		"p(X) :- q(X), !q.",
		"p(X) :- q(X), q(X, X).",
		"p :- !q(a), !q(a, b).",
		"p :- q. q(a).",
		"p :- !q(a). q.",
		"p :- q(a). r :- q(a, b).",
		"p :- q(a). r :- !q.",
		"p :- a = b, q(a), a < b, r, q.",
		"a. b. c. d. e. a. b. c. d. e(a).",
	} {
		badArities(t, rules(t, text))
	}
	badArities(t, nil, wide("f", 1), wide("f", 2))
	badArities(t, nil, wide("f", 0), wide("g", 1), wide("f", 1))
	badArities(t, nil, wide("f", 3), wide("f", 3), wide("f", 0))
	badArities(t, rules(t, "p(a)."), wide("p", 0))
	badArities(t, rules(t, "p."), wide("p", 1))
	badArities(t, rules(t, "p :- q(a)."), wide("r", 0), wide("q", 2))
	badArities(t, rules(t, "p :- !q(a)."), wide("q", 0))
	badArities(t, rules(t, "p :- q. p(a)."), wide("r", 0))
}

func TestAritiesMadeElsewhere(t *testing.T) {
	a, x := word("a"), vary("X")
	for _, kind := range []int{0, 7, -1, math.MaxInt, math.MinInt} {
		checkArities(t, []api.Rule{rule(atom("p", a), literal(kind, "p"), literal(kind, "q", x))}, nil, map[string]int{"p": 1})
		checkArities(t, []api.Rule{rule(literal(kind, "p", a, x))}, nil, map[string]int{"p": 2})
		badArities(t, []api.Rule{rule(literal(kind, "p", a, x)), rule(atom("p"))})
	}
	checkArities(t, []api.Rule{{}}, []api.Fact{{}}, map[string]int{"": 0})
	badArities(t, []api.Rule{{}}, wide("", 1))
	checkArities(t, []api.Rule{rule(atom("P", a), atom("p"), atom("p ", a, a))}, []api.Fact{wide("\xff\x00", 5)}, map[string]int{"P": 1, "p": 0, "p ": 2, "\xff\x00": 5})
	const n = 100000
	checkArities(t, []api.Rule{rule(atom("p", make([]api.Term, n)...), literal(api.LNot, "q", make([]api.Term, 9)...))}, []api.Fact{wide("p", n)}, map[string]int{"p": n, "q": 9})
	badArities(t, []api.Rule{rule(atom("p", make([]api.Term, n)...))}, wide("p", n-1))
	checkArities(t, make([]api.Rule, n), make([]api.Fact, n), map[string]int{"": 0})
}

func TestDefined(t *testing.T) {
	l := rules(t, "p(X) :- q(X), !r(X), X != s. t(a). u :- p(b), a = b. p(c).")
	for name, want := range map[string]bool{"p": true, "t": true, "u": true, "q": false, "r": false, "s": false, "a": false, "b": false, "X": false, "": false, "P": false, "pp": false, "none": false} {
		if got := Defined(l, name); got != want {
			t.Errorf("P9.1: Defined(%q): %t", name, got)
		}
	}
	for i := range l {
		if one := l[i : i+1]; !Defined(one, l[i].Head.Name) || Defined(one, "q") {
			t.Errorf("P9.1: Defined of %s", syntax.Print(l[i]))
		}
	}
	if Defined(nil, "p") || Defined([]api.Rule{}, "p") || Defined(nil, "") {
		t.Error("P9.1: Defined of no rules")
	}
}

func TestDefinedMadeElsewhere(t *testing.T) {
	if !Defined([]api.Rule{{}}, "") || Defined([]api.Rule{{}}, "p") {
		t.Error("P9.1: Defined of a zero rule")
	}
	for _, kind := range []int{0, 7, -1, math.MaxInt, math.MinInt} {
		l := []api.Rule{rule(literal(kind, "p", vary("X")), literal(kind, "q", make([]api.Term, 9)...))}
		if !Defined(l, "p") || Defined(l, "q") {
			t.Errorf("P9.1: Defined with kind %d", kind)
		}
	}
	long := strings.Repeat("p", 100000)
	if l := []api.Rule{rule(atom(long))}; !Defined(l, strings.Clone(long)) || Defined(l, long[1:]) {
		t.Error("P9.1: Defined of a long name")
	}
}

// copied gives the rules once more, in memory of their own.
func copied(l []api.Rule) []api.Rule {
	m := slices.Clone(l)
	for i, r := range m {
		m[i].Head.Args = slices.Clone(r.Head.Args)
		m[i].Body = slices.Clone(r.Body)
		for k, b := range r.Body {
			m[i].Body[k].Args = slices.Clone(b.Args)
		}
	}
	return m
}

func sameLiteral(a, b api.Literal) bool {
	return a.Kind == b.Kind && a.Name == b.Name && slices.Equal(a.Args, b.Args)
}

func sameRule(a, b api.Rule) bool {
	return sameLiteral(a.Head, b.Head) && slices.EqualFunc(a.Body, b.Body, sameLiteral)
}

// What is handed in, its spare room too, stays as it was.
func TestNothingIsChanged(t *testing.T) {
	room := rules(t, "p(X, a) :- r(Y), !q(X), X < Y, q(X). q(a). s(b). s(a, b). s(X) :- q(X), r(X). spare(X) :- !q(Y), r(1, 2, 3).")
	for i := range room {
		room[i].Head.Args = append(slices.Clone(room[i].Head.Args), vary("Z"))[:len(room[i].Head.Args)]
	}
	before := copied(room)
	facts := []api.Fact{wide("r", 1), wide("q", 1), wide("spare", 3)}
	for n := range len(room) {
		if len(room[n].Body) > 1 {
			short := room[n]
			short.Body = short.Body[:1]
			Safe(short)
		}
		Safe(room[n])
		Arities(room[:n], facts[:2])
		Defined(room[:n], "spare")
	}
	if !slices.EqualFunc(room, before, sameRule) {
		t.Errorf("P0.3: the rules became %v", room)
	}
	for i, r := range room {
		if spare := r.Head.Args[:len(r.Head.Args)+1]; spare[len(spare)-1] != vary("Z") {
			t.Errorf("P0.3: the spare room of head %d became %v", i, spare)
		}
	}
	for i, want := range []api.Fact{wide("r", 1), wide("q", 1), wide("spare", 3)} {
		if facts[i].Name != want.Name || !slices.Equal(facts[i].Args, want.Args) {
			t.Errorf("P0.3: the facts became %v", facts)
		}
	}
}

// An answer is new memory, and hangs on nothing that another call was told.
func TestNothingIsKept(t *testing.T) {
	l, facts := rules(t, "p(X) :- q(X), !r(X)."), []api.Fact{wide("f", 2)}
	want := map[string]int{"p": 1, "q": 1, "r": 1, "f": 2}
	first, _ := Arities(l, facts)
	second, _ := Arities(l, facts)
	first["p"], first["x"] = 7, 8
	delete(first, "f")
	if !maps.Equal(second, want) {
		t.Errorf("P0.3: writing into one answer made another %v", second)
	}
	checkArities(t, l, facts, want)
	for name := range second {
		for _, given := range []string{l[0].Head.Name, l[0].Body[0].Name, l[0].Body[1].Name, facts[0].Name} {
			if unsafe.StringData(name) == unsafe.StringData(given) {
				t.Errorf("P0.3: the answer's %s is the argument's own", name)
			}
		}
	}
	l[0].Head.Name, l[0].Body[0].Args, facts[0].Name = "z", nil, "g"
	if !maps.Equal(second, want) {
		t.Errorf("P0.3: writing into the rules made the answer %v", second)
	}
	checkArities(t, l, facts, map[string]int{"z": 1, "q": 0, "r": 1, "g": 2})
	checkRule(t, false, l[0])
	if Defined(l, "p") || !Defined(l, "z") {
		t.Error("P0.5: Defined of rules that were changed between")
	}
	checkArities(t, nil, nil, map[string]int{})
	checkSafe(t, false, "p(X) :- q(Y).")
}
