package plan

import (
	"fmt"
	"math"
	"slices"
	"strconv"
	"strings"
	"testing"
	"unsafe"

	"delphi/api"
	"delphi/syntax"
)

func num(n int64) api.Term { return api.Term{Kind: api.TInt, Num: n} }

func word(s string) api.Term { return api.Term{Kind: api.TWord, Name: s} }

func vary(s string) api.Term { return api.Term{Kind: api.TVar, Name: s} }

func literal(kind int, name string, args ...api.Term) api.Literal {
	return api.Literal{Kind: kind, Name: name, Args: args}
}

func atom(name string, args ...api.Term) api.Literal { return literal(api.LAtom, name, args...) }

func not(name string, args ...api.Term) api.Literal { return literal(api.LNot, name, args...) }

func rule(head api.Literal, body ...api.Literal) api.Rule { return api.Rule{Head: head, Body: body} }

// read gives the text's one rule.
func read(t *testing.T, text string) api.Rule {
	t.Helper()
	l, err := syntax.Program(text)
	if err != api.OK || len(l) != 1 {
		t.Fatalf("%s: %d rules, %d", text, len(l), err)
	}
	return l[0]
}

func same(a, b Plan) bool { return slices.Equal(a.Order, b.Order) && slices.Equal(a.Vars, b.Vars) }

func checkRule(t *testing.T, r api.Rule, first int, want Plan) {
	t.Helper()
	if got, ok := Make(r, first); !same(got, want) || !ok {
		t.Errorf("P12.1: Make(%s, %d): %v, %t; want %v", syntax.Print(r), first, got, ok, want)
	}
}

// checkText holds the plan of a text's rule against one that is written as its places and variables: "2 0 1: X Y".
func checkText(t *testing.T, text string, first int, want string) {
	t.Helper()
	got, ok := Make(read(t, text), first)
	places := strings.Trim(fmt.Sprint(got.Order), "[]")
	if shown := places + ": " + strings.Join(got.Vars, " "); shown != want || !ok {
		t.Errorf("P12.1: Make(%s, %d): %s, %t; want %s", text, first, shown, ok, want)
	}
}

func bad(t *testing.T, r api.Rule, firsts ...int) {
	t.Helper()
	for _, first := range firsts {
		if got, ok := Make(r, first); got.Order != nil || got.Vars != nil || ok {
			t.Errorf("P12.1: Make(%s, %d): %v, %t; want a zero Plan, false", syntax.Print(r), first, got, ok)
		}
	}
}

func TestWithoutBody(t *testing.T) {
	checkText(t, "p.", -1, ": ")
	checkText(t, "p(a, 3).", -1, ": ")
	checkRule(t, api.Rule{}, -1, Plan{})
	checkRule(t, api.Rule{Head: atom("p"), Body: []api.Literal{}}, -1, Plan{})
	for _, text := range []string{"p.", "p(a, 3)."} {
		bad(t, read(t, text), 0, 1, -2)
	}
	bad(t, read(t, "p(X)."), -1, 0)
}

func TestOrdinary(t *testing.T) {
	checkText(t, "path(X, Y) :- edge(X, Y).", -1, "0: X Y")
	checkText(t, "path(X, Z) :- path(X, Y), edge(Y, Z).", -1, "0 1: X Y Z")
	checkText(t, "path(X, Z) :- path(X, Y), edge(Y, Z).", 0, "0 1: X Y Z")
	checkText(t, "path(X, Z) :- path(X, Y), edge(Y, Z).", 1, "1 0: Y Z X")
	checkText(t, "old(P) :- age(P, N), 65 <= N, !young(P).", -1, "0 1 2: P N")
	checkText(t, "old(P) :- !young(P), 65 <= N, age(P, N).", -1, "2 0 1: P N")
	checkText(t, "lone(X) :- node(X), !linked(X), red(X).", -1, "0 1 2: X")
}

// The literal of first goes ahead of what would be taken else: what is ready, and what has more bound terms.
func TestFirstIsAhead(t *testing.T) {
	text := "p :- 1 < 2, !q, r(a, b), s(X), t(X, c), !u(X)."
	checkText(t, text, -1, "0 1 2 4 5 3: X")
	checkText(t, text, 2, "2 0 1 4 5 3: X")
	checkText(t, text, 3, "3 0 1 5 2 4: X")
	checkText(t, text, 4, "4 0 1 5 2 3: X")
	checkText(t, "p :- q(X), r(X), s(X).", 0, "0 1 2: X")
	checkText(t, "p :- q(X), r(X), s(X).", 1, "1 0 2: X")
	checkText(t, "p :- q(X), r(X), s(X).", 2, "2 0 1: X")
	checkText(t, "p :- q(a, b), r.", 1, "1 0: ")
	checkText(t, "p :- q.", 0, "0: ")
}

// A comparison or negated atom without variables is ready at the very beginning.
func TestReadyAtTheBeginning(t *testing.T) {
	for _, ready := range []string{"3 < 2", "a = b", "1 != a", "b <= 1", "!r", "!r(a)", "!r(a, 1, b, 2)"} {
		checkText(t, "p :- "+ready+".", -1, "0: ")
		checkText(t, "p :- q(X), "+ready+".", -1, "1 0: X")
		checkText(t, "p :- q(a, b, c, d), "+ready+".", -1, "1 0: ")
		checkText(t, "p :- q(X), X < 2, "+ready+", !s(X).", -1, "2 0 1 3: X")
		checkText(t, "p :- q(X), X < 2, "+ready+", !s(X).", 0, "0 1 2 3: X")
	}
	checkText(t, "p :- q, !r, 1 < 2, !s(a), s.", -1, "1 2 3 0 4: ")
}

// What is ready is taken at once, ahead of every atom, however many of its terms are bound.
func TestReadyAsSoonAsBound(t *testing.T) {
	for _, sign := range []string{"=", "!=", "<", "<="} {
		checkText(t, "p :- q(X), r(a, b, X), X "+sign+" 1, s(a, b).", -1, "1 2 3 0: X")
		checkText(t, "p :- q(X), r(X, a), 1 "+sign+" X.", 0, "0 2 1: X")
		checkText(t, "p :- X "+sign+" Y, q(X), r(X, Y), s(Y).", 1, "1 2 0 3: X Y")
		checkText(t, "p :- X "+sign+" X, q(Y), r(X), s(X, Y, a).", 1, "1 3 0 2: Y X")
	}
	checkText(t, "p :- !r(X, a, Y), q(X), s(Y, b), t(X, Y).", -1, "2 3 0 1: Y X")
	checkText(t, "p :- q(X, Y), s(X, Y), !r(X, Y).", -1, "0 2 1: X Y")
}

// With one of two variables bound, a literal is not ready.
func TestNotReady(t *testing.T) {
	checkText(t, "p :- X < Y, q(X), r(Z), s(Z), t(Y).", -1, "1 2 3 4 0: X Z Y")
	checkText(t, "p :- !u(Y, X), q(X), r(Z), s(Z), t(Y).", -1, "1 2 3 4 0: X Z Y")
	checkText(t, "p :- !u(X, X, Y), q(X), r(Y).", -1, "1 2 0: X Y")
	checkText(t, "p :- !u(X, a, b, c), q(Y), r(X).", -1, "1 2 0: Y X")
}

func TestFirstOfSeveralReady(t *testing.T) {
	checkText(t, "p :- !r(X), X < 1, !s(X), 1 < X, q(X).", -1, "4 0 1 2 3: X")
	checkText(t, "p :- q(X), 1 < X, !s(X, X, X), X < 1, !r(X).", -1, "0 1 2 3 4: X")
	checkText(t, "p :- !r(Y), X = 1, q(X), Y = 1, t(Y).", -1, "2 1 4 0 3: X Y")
	checkText(t, "p :- 1 < 2, q(X), !r(X), 2 < 1.", 1, "1 0 2 3: X")
}

// Constants count, words and numbers.
func TestMostConstants(t *testing.T) {
	checkText(t, "p :- q(X), r(a, X).", -1, "1 0: X")
	checkText(t, "p :- q(X), r(X, 0).", -1, "1 0: X")
	checkText(t, "p :- q(X, a), r(X, b, 1), s(-1, b, 2).", -1, "2 1 0: X")
	checkText(t, "p :- q, r(a), s(a, b), t(a, b, c), u(a, b, c, d).", -1, "4 3 2 1 0: ")
	checkText(t, "p :- q(X, Y, Z, W), r(a).", -1, "1 0: X Y Z W")
}

// Variables count as soon as a literal ahead has them, each time that they stand in an atom.
func TestMostVariablesAhead(t *testing.T) {
	checkText(t, "p :- q(X), r(Y), s(X).", -1, "0 2 1: X Y")
	checkText(t, "p :- q(X, Y), r(Z), s(Y), t(X, Y).", -1, "0 3 2 1: X Y Z")
	checkText(t, "p :- q(X), r(a), s(X, X).", 0, "0 2 1: X")
	checkText(t, "p :- q(X), r(X, Y), s(Z, W, V, a), t(X, a).", 0, "0 3 1 2: X Y Z W V")
	checkText(t, "p :- q(X, Y, Z), r(Z, W), s(X, b, W).", -1, "2 0 1: X W Y Z")
	checkText(t, "p :- q(Z), r(Y, Z), s(X, Y), t(a, X).", -1, "3 2 1 0: X Y Z")
}

// A variable that only stands ahead in the atom itself is not bound when the atom is chosen.
func TestOwnVariablesAreNotBound(t *testing.T) {
	checkText(t, "p :- q(X, X), r(Y, a).", -1, "1 0: Y X")
	checkText(t, "p :- q(X, X, X, X), r(a).", -1, "1 0: X")
	checkText(t, "p :- q(X), r(Y, Y), s(Z, Z, Z).", -1, "0 1 2: X Y Z")
	checkText(t, "p :- q(X), r(Y, Y, Y), s(Y, X).", 0, "0 2 1: X Y")
}

// How many terms count, not which share of an atom's terms, and not how many are left.
func TestCountsNotShares(t *testing.T) {
	checkText(t, "p :- q(a), r(X, Y, b, c).", -1, "1 0: X Y")
	checkText(t, "p :- q(X, Y, Z, a), r(b).", -1, "0 1: X Y Z")
}

func TestFirstOfEqualAtoms(t *testing.T) {
	checkText(t, "p :- q, r, s, t, u, v.", -1, "0 1 2 3 4 5: ")
	checkText(t, "p :- q(X), r(Y), s(Z).", -1, "0 1 2: X Y Z")
	checkText(t, "p :- q(X, a), r(1, Y), s(Z, b).", -1, "0 1 2: X Y Z")
	checkText(t, "p :- q(A), r(X, a), s(X, B), t(b, X), u(C).", 4, "4 1 3 2 0: C X B A")
	checkText(t, "p :- q(X), r(a, Y), s(Y, X), t(Y, b), u(X, c).", 0, "0 4 1 2 3: X Y")
}

// Within a literal from the left; each variable once; negated atoms, comparisons and the head bind none.
func TestVars(t *testing.T) {
	checkText(t, "p(D, C, B, A) :- q(B, D, A, C).", -1, "0: B D A C")
	checkText(t, "p :- q(Y, X, Y), r(X, Z, Y, Z).", -1, "0 1: Y X Z")
	checkText(t, "p(Y) :- q(X), !s(Y, X), Y < X, r(Y).", -1, "0 3 1 2: X Y")
	checkText(t, "p :- q(Y, X), r(W, Z).", 1, "1 0: W Z Y X")
	checkText(t, "p :- q(x, 1, X, y).", -1, "0: X")
	checkText(t, "p(a) :- q(b), r.", -1, "0 1: ")
}

func TestUnsafe(t *testing.T) {
	for _, text := range []string{"p(X) :- q(Y).", "p(X, Y) :- q(X).", "p :- q(X), !r(Y).", "p :- q(X), r(X), X < Y.", "p(Y) :- q(X), X = Y.", "p(X) :- q, !r(X)."} {
		bad(t, read(t, text), -1, 0, 1, 2, 3, -2)
	}
	bad(t, read(t, "p :- !q(X)."), -1, 0)
	bad(t, read(t, "p(X) :- X = a."), -1, 0)
}

func TestWrongFirst(t *testing.T) {
	r := read(t, "p(X) :- q(X), !r(X), X = 1, X != 2, X < 3, X <= 4.")
	bad(t, r, -2, -3, 1, 2, 3, 4, 5, 6, 7, 100, math.MaxInt, math.MinInt, math.MaxInt-1, math.MinInt+1, 1<<32, -1<<32)
	checkRule(t, r, -1, Plan{Order: []int{0, 1, 2, 3, 4, 5}, Vars: []string{"X"}})
	checkRule(t, r, 0, Plan{Order: []int{0, 1, 2, 3, 4, 5}, Vars: []string{"X"}})
	bad(t, read(t, "p :- !q."), 0)
	bad(t, read(t, "p :- 1 < 2."), 0)
	bad(t, read(t, "p :- q, r."), 2)
	r.Body = r.Body[:1]
	bad(t, r, 1)
}

// Literals of no known kind stand behind all others; they bind nothing and are no place to begin with.
func TestUnknownLiterals(t *testing.T) {
	x, y, a := vary("X"), vary("Y"), word("a")
	for _, kind := range []int{0, 7, -1, 8, math.MaxInt, math.MinInt} {
		r := rule(atom("p", x), literal(kind, "q", a, a), literal(kind, "", y), not("r", x), atom("s", x), literal(kind, "q"))
		checkRule(t, r, -1, Plan{Order: []int{3, 2, 0, 1, 4}, Vars: []string{"X"}})
		checkRule(t, r, 3, Plan{Order: []int{3, 2, 0, 1, 4}, Vars: []string{"X"}})
		bad(t, r, 0, 1, 2, 4, 5)
		bad(t, rule(atom("p", x), literal(kind, "q", x)), -1, 0)
		checkRule(t, rule(literal(kind, "p", x), atom("q", x)), -1, Plan{Order: []int{0}, Vars: []string{"X"}})
	}
	checkRule(t, rule(atom("p"), make([]api.Literal, 3)...), -1, Plan{Order: []int{0, 1, 2}})
}

// A term of no known kind is neither a constant nor a variable: it is never bound, and nobody waits for it.
func TestUnknownTerms(t *testing.T) {
	x, a := vary("X"), word("a")
	for _, kind := range []int{0, 4, -1, math.MaxInt, math.MinInt} {
		odd := api.Term{Kind: kind, Name: "X", Num: 1}
		checkRule(t, rule(atom("p", odd), atom("q", odd, odd), atom("r", a)), -1, Plan{Order: []int{1, 0}})
		checkRule(t, rule(atom("p"), atom("q", x), not("r", odd), literal(api.LLt, "", odd, odd)), -1, Plan{Order: []int{1, 2, 0}, Vars: []string{"X"}})
		checkRule(t, rule(atom("p"), atom("q", odd, odd), atom("r", x), atom("s", x)), 1, Plan{Order: []int{1, 2, 0}, Vars: []string{"X"}})
	}
}

// Words and variables of any bytes, numbers of any worth, other fields than the kind's own.
func TestTermsThatNoTextMakes(t *testing.T) {
	long := strings.Repeat("X", 100000)
	for _, name := range []string{"", "x", "\xff\x00", "X Y", long} {
		r := rule(atom("p", vary(name)), atom("q", vary("Z")), atom("r", word(name), vary(name)), not("s", vary(name)))
		checkRule(t, r, -1, Plan{Order: []int{1, 2, 0}, Vars: []string{name, "Z"}})
		bad(t, rule(atom("p", vary(name)), atom("q", word(name))), -1)
	}
	for _, n := range []int64{math.MaxInt64, math.MinInt64, 1<<31 + 1} {
		checkRule(t, rule(atom("p"), atom("q", vary("X")), atom("r", num(n))), -1, Plan{Order: []int{1, 0}, Vars: []string{"X"}})
	}
	odd := api.Term{Kind: api.TVar, Name: "X", Num: 5}
	checkRule(t, rule(atom("p", odd), atom("q", vary("Y")), atom("r", vary("X")), atom("s", odd)), 1, Plan{Order: []int{1, 2, 0}, Vars: []string{"X", "Y"}})
	checkRule(t, rule(atom("p"), atom("q", vary("X")), atom("r", vary("x")), atom("s", vary("X"))), 0, Plan{Order: []int{0, 2, 1}, Vars: []string{"X", "x"}})
	checkRule(t, rule(atom("p"), atom("q", vary("X")), atom("r", vary("Y")), atom("s", word("X"), num(1))), 0, Plan{Order: []int{0, 2, 1}, Vars: []string{"X", "Y"}})
}

// Comparisons of any number of terms.
func TestWidthsThatNoTextMakes(t *testing.T) {
	x, y := vary("X"), vary("Y")
	for kind := api.LNot; kind <= api.LLe; kind++ {
		checkRule(t, rule(atom("p"), atom("q", x), literal(kind, "")), -1, Plan{Order: []int{1, 0}, Vars: []string{"X"}})
		checkRule(t, rule(atom("p"), literal(kind, "", x, x, y), atom("q", x), atom("r", y)), -1, Plan{Order: []int{1, 2, 0}, Vars: []string{"X", "Y"}})
		bad(t, rule(atom("p"), literal(kind, "", x, x, y), atom("q", x)), -1, 0, 1)
	}
}

// A chain whose links wait for one another, each with a comparison, in a body of very many literals.
func TestLongBody(t *testing.T) {
	const n = 50000
	link := func(i int) api.Term { return vary("X" + strconv.Itoa(i)) }
	var body []api.Literal
	var want Plan
	for i := n - 1; i >= 0; i-- {
		body = append(body, atom("q", link(i), link(i+1)), literal(api.LLt, "", link(i+1), link(i)))
	}
	for i := range n {
		want.Order = append(want.Order, 2*(n-1-i), 2*(n-1-i)+1)
		want.Vars = append(want.Vars, link(i).Name)
	}
	want.Vars = append(want.Vars, link(n).Name)
	if got, ok := Make(rule(atom("p", link(n)), body...), 2*(n-1)); !same(got, want) || !ok {
		t.Errorf("P12.1: Make of a long chain: %t, %d literals, %d variables", ok, len(got.Order), len(got.Vars))
	}
	bad(t, api.Rule{Head: atom("p", vary("Y"))}, -1)
	if got, ok := Make(rule(atom("p", vary("Y")), body...), 0); !same(got, Plan{}) || ok {
		t.Error("P12.1: Make of a long chain that is not safe")
	}
}

func TestWideLiterals(t *testing.T) {
	const n = 100000
	terms := make([]api.Term, n)
	names := make([]string, n)
	for i := range terms {
		names[i] = "X" + strconv.Itoa(n-i)
		terms[i] = vary(names[i])
	}
	r := rule(atom("p", terms...), not("r", terms...), atom("q", word("a")), atom("s", terms...), atom("t", slices.Repeat([]api.Term{vary("X1")}, n)...))
	checkLong := func(first int, want Plan) {
		t.Helper()
		if got, ok := Make(r, first); !same(got, want) || !ok {
			t.Errorf("P12.1: Make of wide literals, %d: %v, %d variables, %t", first, got.Order, len(got.Vars), ok)
		}
	}
	checkLong(-1, Plan{Order: []int{1, 2, 0, 3}, Vars: names})
	checkLong(3, Plan{Order: []int{3, 1, 2, 0}, Vars: append([]string{"X1"}, names[:n-1]...)})
}

// copied gives the rule once more, in memory of its own.
func copied(r api.Rule) api.Rule {
	c := api.Rule{Head: r.Head, Body: slices.Clone(r.Body)}
	c.Head.Args = slices.Clone(r.Head.Args)
	for i, l := range r.Body {
		c.Body[i].Args = slices.Clone(l.Args)
	}
	return c
}

func sameLiteral(a, b api.Literal) bool {
	return a.Kind == b.Kind && a.Name == b.Name && slices.Equal(a.Args, b.Args)
}

func sameRule(a, b api.Rule) bool {
	return sameLiteral(a.Head, b.Head) && slices.EqualFunc(a.Body, b.Body, sameLiteral)
}

// What is handed in, its spare room too, stays as it was.
func TestNothingIsChanged(t *testing.T) {
	room := read(t, "p(X, a, Y, b) :- X < Y, !q(X, Y, c, d), r(X, e, Y, f), s(Y, X, g, h), 3 < 2, t(a, b, c, d).")
	before := copied(room)
	for n := range len(room.Body) + 1 {
		for width := range 5 {
			r := rule(room.Head, room.Body[:n]...)
			r.Head.Args = room.Head.Args[:width]
			for first := -2; first <= n; first++ {
				Make(r, first)
			}
		}
		short := copied(room).Body
		for i, l := range room.Body {
			short[i].Args = l.Args[:len(l.Args)/2]
		}
		for first := -2; first <= n; first++ {
			Make(rule(atom("p"), short[:n]...), first)
		}
	}
	if !sameRule(room, before) {
		t.Errorf("P0.3: the rule became %s", syntax.Print(room))
	}
}

// An answer is new memory, its spare room too: none of the rule's, no other answer's.
func TestAnswersAreNew(t *testing.T) {
	r := read(t, "p(Z) :- q(X), !s(Y), r(X, Y, Z), X < Z, t(Y).")
	want := Plan{Order: []int{0, 2, 1, 3, 4}, Vars: []string{"X", "Y", "Z"}}
	first, _ := Make(r, -1)
	second, _ := Make(r, -1)
	for _, p := range []Plan{first, second} {
		for _, name := range p.Vars {
			for _, l := range append(slices.Clone(r.Body), r.Head) {
				for _, term := range l.Args {
					if unsafe.StringData(name) == unsafe.StringData(term.Name) {
						t.Errorf("P0.3: the answer's %s is the argument's own", name)
					}
				}
			}
		}
	}
	order, vars := first.Order[:cap(first.Order)], first.Vars[:cap(first.Vars)]
	for i := range order {
		order[i] = 9
	}
	for i := range vars {
		vars[i] = "x"
	}
	if !same(second, want) {
		t.Errorf("P0.3: writing into one answer made another %v", second)
	}
	checkRule(t, r, -1, want)
	r.Body[0].Args[0].Name, r.Body[2].Kind, r.Head.Args = "W", api.LEq, nil
	if !same(second, want) {
		t.Errorf("P0.3: writing into the rule made the answer %v", second)
	}
	bad(t, r, -1)
}

// What is told hangs on nothing that another call was told.
func TestNothingIsKept(t *testing.T) {
	for range 3 {
		checkText(t, "p(X, Y) :- q(X), r(Y).", 1, "1 0: Y X")
		checkText(t, "p(X, Y) :- q(X), r(Y).", -1, "0 1: X Y")
		bad(t, read(t, "p(X, Y) :- q(X)."), -1)
		checkText(t, "p.", -1, ": ")
	}
}
