package strata

import (
	"maps"
	"math"
	"slices"
	"strconv"
	"strings"
	"testing"
	"unsafe"

	"delphi/api"
	"delphi/syntax"
)

func literal(kind int, name string, args ...api.Term) api.Literal {
	return api.Literal{Kind: kind, Name: name, Args: args}
}

func atom(name string) api.Literal { return literal(api.LAtom, name) }

func not(name string) api.Literal { return literal(api.LNot, name) }

func word(s string) api.Term { return api.Term{Kind: api.TWord, Name: s} }

func rule(head api.Literal, body ...api.Literal) api.Rule { return api.Rule{Head: head, Body: body} }

func rules(t *testing.T, text string) []api.Rule {
	t.Helper()
	l, err := syntax.Program(text)
	if err != api.OK {
		t.Fatalf("%s: %d", text, err)
	}
	return l
}

// show writes rules that may be of any kinds; of very many the first ones.
func show(l []api.Rule) string {
	var b strings.Builder
	for _, r := range l[:min(len(l), 40)] {
		b.WriteString(strconv.Quote(r.Head.Name) + " :-")
		for _, x := range r.Body[:min(len(r.Body), 40)] {
			b.WriteString(" " + strconv.Itoa(x.Kind) + ":" + strconv.Quote(x.Name))
		}
		b.WriteString(". ")
	}
	return b.String()
}

// orderOf gives the order that the strata ask for, in another way than the program: stratum by stratum.
func orderOf(of map[string]int) [][]string {
	var order [][]string
	for told := 0; told < len(of); {
		var names []string
		for name, stratum := range of {
			if stratum == len(order) {
				names = append(names, name)
			}
		}
		slices.Sort(names)
		order = append(order, names)
		told += len(names)
	}
	return order
}

func sameOrder(a, b [][]string) bool {
	return slices.EqualFunc(a, b, func(x, y []string) bool { return slices.Equal(x, y) })
}

// checkOf holds Of against the strata, and Order against what they say.
func checkOf(t *testing.T, l []api.Rule, want map[string]int) {
	t.Helper()
	if got, err := Of(l); !maps.Equal(got, want) || got == nil || err != api.OK {
		t.Errorf("P10.1: Of(%s): %v, %d; want %v", show(l), got, err, want)
	}
	if got, err := Order(l); !sameOrder(got, orderOf(want)) || err != api.OK {
		t.Errorf("P10.1: Order(%s): %q, %d; want %q", show(l), got, err, orderOf(want))
	}
}

// checkText reads the strata as one digit a predicate: "p0 q1".
func checkText(t *testing.T, text, strata string) {
	t.Helper()
	want := map[string]int{}
	for _, f := range strings.Fields(strata) {
		want[f[:len(f)-1]] = int(f[len(f)-1] - '0')
	}
	l := rules(t, text)
	checkOf(t, l, want)
	slices.Reverse(l)
	checkOf(t, l, want)
}

func bad(t *testing.T, l []api.Rule) {
	t.Helper()
	if got, err := Of(l); got != nil || err != api.ErrStrata {
		t.Errorf("P10.1: Of(%s): %v, %d; want nil, ErrStrata", show(l), got, err)
	}
	if got, err := Order(l); got != nil || err != api.ErrStrata {
		t.Errorf("P10.1: Order(%s): %q, %d; want nil, ErrStrata", show(l), got, err)
	}
}

func badTexts(t *testing.T, texts ...string) {
	t.Helper()
	for _, text := range texts {
		l := rules(t, text)
		bad(t, l)
		slices.Reverse(l)
		bad(t, l)
	}
}

// checkRecursive asks for the names that come back, and for those that do not; none but these is asked for.
func checkRecursive(t *testing.T, l []api.Rule, yes, no string) {
	t.Helper()
	for _, name := range strings.Fields(yes) {
		if !Recursive(l, name) {
			t.Errorf("P10.1: Recursive(%s, %q): false", show(l), name)
		}
	}
	for _, name := range strings.Fields(no) {
		if Recursive(l, name) {
			t.Errorf("P10.1: Recursive(%s, %q): true", show(l), name)
		}
	}
}

func TestOfNothing(t *testing.T) {
	for _, l := range [][]api.Rule{nil, {}} {
		checkOf(t, l, map[string]int{})
		if order, err := Order(l); len(order) != 0 || err != api.OK {
			t.Errorf("P10.1: Order of no rules: %q, %d", order, err)
		}
		if Recursive(l, "p") || Recursive(l, "") {
			t.Error("P10.1: Recursive of no rules")
		}
	}
}

func TestOfPredicatesAlone(t *testing.T) {
	checkText(t, "p.", "p0")
	checkText(t, "p(a). q(X) :- e(X). r.", "p0 q0 r0")
	checkText(t, "p. p. p(a).", "p0")
	checkOf(t, []api.Rule{{Head: atom("p"), Body: []api.Literal{}}}, map[string]int{"p": 0})
	checkText(t, "path(X, Y) :- edge(X, Y). path(X, Z) :- path(X, Y), edge(Y, Z). lone(X) :- node(X), !path(X, X).", "path0 lone1")
}

// A predicate that no rule defines asks for nothing, and has no stratum.
func TestOfWhatIsNotDefined(t *testing.T) {
	checkText(t, "p :- e.", "p0")
	checkText(t, "p :- !e.", "p0")
	checkText(t, "p :- !e, f, !g(a), h(X), !e.", "p0")
	checkText(t, "p :- !q. q :- !e.", "p1 q0")
	checkText(t, "p :- q, !e. q :- e, !f.", "p0 q0")
	checkText(t, "p :- p, !e. q :- !e, p.", "p0 q0")
}

func TestOfPlainChains(t *testing.T) {
	checkText(t, "p :- q. q :- r. r :- s. s :- e.", "p0 q0 r0 s0")
	checkText(t, "r :- s. p :- q. s. q :- r.", "p0 q0 r0 s0")
	checkText(t, "a :- b, c. b :- d. c :- d, b. d.", "a0 b0 c0 d0")
}

func TestOfNegatedChains(t *testing.T) {
	checkText(t, "p :- !q. q.", "p1 q0")
	checkText(t, "a :- !b. b :- !c. c :- !d. d :- !e. e :- !f.", "a4 b3 c2 d1 e0")
	checkText(t, "d :- !e. b :- !c. e. a :- !b. c :- !d.", "a4 b3 c2 d1 e0")
	checkText(t, "a :- b. b :- !c. c :- d. d :- e. e :- !f. f :- g. g.", "a2 b2 c1 d1 e1 f0 g0")
	checkText(t, "a :- !b. b :- c. c :- !d. d.", "a2 b1 c1 d0")
	checkText(t, "p :- q, !q. q.", "p1 q0")
	checkText(t, "p :- !q, q. q.", "p1 q0")
	checkText(t, "p :- !q, !q. q. p :- !q.", "p1 q0")
}

// Of what the bodies ask for the highest counts, wherever it stands.
func TestOfTheHighestCounts(t *testing.T) {
	base := " a :- e. b :- !a. c :- !b. d :- !c."
	checkText(t, "p :- a. p :- !b. p :- c. p :- !a."+base, "a0 b1 c2 d3 p2")
	checkText(t, "p :- !c. p :- a. p."+base, "a0 b1 c2 d3 p3")
	checkText(t, "p. p :- a. p :- !d."+base, "a0 b1 c2 d3 p4")
	checkText(t, "p :- d, !a, b, !c."+base, "a0 b1 c2 d3 p3")
	checkText(t, "p :- !a, d, !d."+base, "a0 b1 c2 d3 p4")
	checkText(t, "p :- d. p :- !b."+base, "a0 b1 c2 d3 p3")
	checkText(t, "p :- !e, a, !f. p :- e. q :- p, !p."+base, "a0 b1 c2 d3 p0 q1")
	checkText(t, "p :- q, r. q :- !a. r :- !b. s :- !q, !r, p."+base, "a0 b1 c2 d3 p2 q1 r2 s3")
	checkText(t, "p :- c. q :- p, !a. a :- !z. z :- y. y."+base, "a1 b2 c3 d4 p3 q3 y0 z0")
}

// A short way and a long one to the same predicate: the one with the most negations counts.
func TestOfWaysThatMeet(t *testing.T) {
	checkText(t, "a :- b, c. b :- !d. c :- !e. e :- !d. d.", "a2 b1 c2 d0 e1")
	checkText(t, "a :- !d, b. b :- c. c :- d. d.", "a1 b0 c0 d0")
	checkText(t, "a :- d, b. b :- !c. c :- !d. d.", "a2 b2 c1 d0")
}

func TestOfCirclesThatGo(t *testing.T) {
	checkText(t, "p :- p.", "p0")
	checkText(t, "p :- p. p. p :- e, p, p, !e.", "p0")
	checkText(t, "p :- q. q :- p.", "p0 q0")
	checkText(t, "p :- q. q :- r. r :- s. s :- p.", "p0 q0 r0 s0")
	checkText(t, "p :- !a, p. a.", "a0 p1")
	checkText(t, "p :- q. q :- r, !a. r :- p. a.", "a0 p1 q1 r1")
	checkText(t, "p :- q. q :- r, !a. r :- p, !b. a. b :- !a. s :- !q. t :- s, r.", "a0 b1 p2 q2 r2 s3 t3")
	checkText(t, "p :- q. q :- p. r :- s, !p. s :- r. t :- t, !s, q. u :- !t, u.", "p0 q0 r1 s1 t2 u3")
	checkText(t, "p :- q, r. q :- p. r :- p, !a. a :- b. b :- a, !c. c :- c.", "a1 b1 c0 p2 q2 r2")
	checkText(t, "a :- b. b :- c. c :- a. c :- d. d :- e. e :- c. f :- !a. g :- !d, !f.", "a0 b0 c0 d0 e0 f1 g2")
}

func TestOfCirclesThatDoNot(t *testing.T) {
	badTexts(t,
		"p :- !p.",
		"p :- p, !p.",
		"p :- !p, p.",
		"p. p :- e. p :- e, !f, !p.",
		"p :- !q. q :- !p.",
		"p :- q. q :- !p.",
		"p :- !q. q :- p.",
		"p :- q. q :- p. q :- e, !p.",
		"p :- !q. q :- r. r :- p.",
		"p :- q. q :- !r. r :- p.",
		"p :- q. q :- r. r :- !p.",
		"a :- b. b :- c. c :- d. d :- e. e :- f. f :- !a.",
		"a :- b. b :- c. c :- d. d :- !b.",
		"a :- !b. b :- !c. c :- !d. d :- !a.",
		"a :- b. b :- a. b :- c. c :- d. d :- c. d :- !a.",
		"a :- b. b :- c. c :- a. c :- d. d :- e. e :- !c.",
	)
}

// Predicates outside the circle go: ahead of it, behind it, leading into it, needed by it.
func TestOfCirclesBesideOthers(t *testing.T) {
	badTexts(t,
		"a. b. c. p :- q. q :- !p.",
		"p :- !p. a. b :- !a. c :- c.",
		"a. b :- !a. p :- b, !p.",
		"a :- !b. b :- !p. p :- q. q :- !p.",
		"a :- b. b :- p. p :- q, !c. q :- !p. c.",
		"a :- a. b :- !a, b. c :- b, p. p :- !p.",
		"a :- !b. b :- c. c :- d. d :- c. e :- !f. f :- e.",
	)
	checkText(t, "a :- !b. b :- c. c :- d. d :- c. e :- f. f :- e.", "a1 b0 c0 d0 e0 f0")
}

func TestOfComparisons(t *testing.T) {
	for _, sign := range []string{"=", "!=", "<", "<="} {
		checkText(t, "p :- p "+sign+" q, q(X), X "+sign+" p. q(a) :- p "+sign+" q.", "p0 q0")
		checkRecursive(t, rules(t, "p :- p "+sign+" p. q :- r, r "+sign+" q. r :- q "+sign+" q."), "", "p q r")
	}
	for kind := api.LEq; kind <= api.LLe; kind++ {
		l := []api.Rule{rule(atom("p"), literal(kind, "p", word("p"), word("q")), literal(kind, "q")), rule(atom("q"), literal(kind, "p"))}
		checkOf(t, l, map[string]int{"p": 0, "q": 0})
		checkRecursive(t, l, "", "p q")
	}
}

// Terms are no predicates either; widths and terms make no two predicates of a name.
func TestOfTerms(t *testing.T) {
	checkText(t, "p(p, q) :- e(p, q). q(p) :- !e(p, q).", "p0 q0")
	checkText(t, "p(X) :- e(X), !q(X, X). q(a).", "p1 q0")
	badTexts(t, "p(X) :- e(X), !p(a).", "p(a) :- !p(b).")
	checkRecursive(t, rules(t, "p(p) :- q(p). q(p). r(a) :- r(b)."), "r", "p q")
}

// Names rise by their bytes, whatever the order of the rules is.
func TestOrderNames(t *testing.T) {
	l := rules(t, "zz :- e. b :- !zz. a10 :- e. a9 :- !a10. a :- !b. ab. a_b. aa :- !b, !zz. z :- !zz. zz. b.")
	want := [][]string{{"a10", "a_b", "ab", "zz"}, {"a9", "b", "z"}, {"a", "aa"}}
	for range 50 {
		if got, err := Order(l); !sameOrder(got, want) || err != api.OK {
			t.Fatalf("P10.1: Order: %q, %d", got, err)
		}
		l = append(l[1:], l[0])
	}
	odd := []api.Rule{rule(atom("\xff")), rule(atom("a"), atom("\xff")), rule(atom("")), rule(atom("é")), rule(atom("a\x00")), rule(atom("B"))}
	if got, err := Order(odd); !sameOrder(got, [][]string{{"", "B", "a", "a\x00", "é", "\xff"}}) || err != api.OK {
		t.Errorf("P10.1: Order of odd names: %q, %d", got, err)
	}
}

func TestRecursive(t *testing.T) {
	checkRecursive(t, rules(t, "p :- p."), "p", "q")
	checkRecursive(t, rules(t, "p :- e, f, p. q :- e. q :- e, q. r."), "p q", "r e f")
	checkRecursive(t, rules(t, "p :- q. q :- p."), "p q", "")
	checkRecursive(t, rules(t, "p :- e, q. q :- e. q :- f, r. r :- s. r. s :- e, p, f."), "p q r s", "e f")
	checkRecursive(t, rules(t, "path(X, Y) :- edge(X, Y). path(X, Z) :- path(X, Y), edge(Y, Z). far(X, Y) :- path(X, Y)."), "path", "edge far")
}

// A negated atom leads on as well; so Recursive has an answer where Of has none.
func TestRecursiveNegated(t *testing.T) {
	checkRecursive(t, rules(t, "p :- !p."), "p", "")
	checkRecursive(t, rules(t, "p :- !q. q :- p. r :- !p."), "p q", "r")
	checkRecursive(t, rules(t, "p :- !q. q :- !r. r :- !p. s :- !e."), "p q r", "s e")
	checkRecursive(t, rules(t, "p :- !q. q :- !r. r :- !e."), "", "p q r e")
}

// What leads into a circle, or is led to by one, is not in it.
func TestRecursiveBesideCircles(t *testing.T) {
	l := rules(t, "a :- b. b :- c. c :- d. d :- c. d :- e. e :- f. f :- g. g :- g. h :- !a, c, g. i :- h.")
	checkRecursive(t, l, "c d g", "a b e f h i")
	slices.Reverse(l)
	checkRecursive(t, l, "c d g", "a b e f h i")
}

// A diamond comes together, not back.
func TestRecursiveDiamonds(t *testing.T) {
	checkRecursive(t, rules(t, "a :- b, c, b. b :- d. c :- d, !d. d :- e, e."), "", "a b c d e")
}

func TestRecursiveOfOtherNames(t *testing.T) {
	l := rules(t, "p :- q, e, !f. q :- p, X = x, e(X).")
	checkRecursive(t, l, "p q", "e f x X P pp none")
	if Recursive(l, "") || Recursive(l, "\xff") || Recursive(l, strings.Repeat("p", 100000)) {
		t.Error("P10.1: Recursive of a name that is not defined")
	}
}

// What was made elsewhere: heads of any kind count by their names; literals of no known kind have no predicate.
func TestMadeElsewhere(t *testing.T) {
	for _, kind := range []int{0, 7, -1, 8, math.MaxInt, math.MinInt} {
		l := []api.Rule{rule(atom("p"), literal(kind, "p"), literal(kind, "q")), rule(literal(kind, "q"), literal(kind, "p"), not("p"))}
		checkOf(t, l, map[string]int{"p": 0, "q": 1})
		checkRecursive(t, l, "", "p q")
		bad(t, []api.Rule{rule(literal(kind, "p"), atom("q")), rule(literal(kind, "q"), not("p"))})
		checkRecursive(t, []api.Rule{rule(literal(kind, "p"), atom("q")), rule(literal(kind, "q"), not("p"))}, "p q", "")
	}
	for kind := api.LNot; kind <= api.LLe; kind++ {
		checkOf(t, []api.Rule{rule(literal(kind, "p")), rule(atom("q"), not("p"))}, map[string]int{"p": 0, "q": 1})
		bad(t, []api.Rule{rule(literal(kind, "p"), not("p"))})
	}
}

func TestNamesOfAnyBytes(t *testing.T) {
	checkOf(t, make([]api.Rule, 3), map[string]int{"": 0})
	bad(t, []api.Rule{rule(api.Literal{}, not(""))})
	if l := []api.Rule{rule(api.Literal{}, atom(""))}; !Recursive(l, "") || Recursive(l[:0], "") || Recursive([]api.Rule{{}}, "") {
		t.Error("P10.1: Recursive of the empty name")
	}
	l := []api.Rule{rule(atom("\xff\x00"), not("p"), atom("P")), rule(atom("p"), atom("p ")), rule(atom("p "), not("\xff"), not("")), rule(atom("")), rule(atom("P"), not("p "))}
	checkOf(t, l, map[string]int{"\xff\x00": 2, "p": 1, "p ": 1, "": 0, "P": 2})
	long := strings.Repeat("p", 100000)
	l = []api.Rule{rule(atom(long), not(long[1:])), rule(atom(long[1:]), atom(long[1:]), not(long[2:]))}
	checkOf(t, l, map[string]int{long: 1, long[1:]: 0})
	if Recursive(l, long) || !Recursive(l, strings.Clone(long[1:])) || Recursive(l, long[2:]) {
		t.Error("P10.1: Recursive of long names")
	}
}

// Chains and circles of very many predicates, in either order of the rules.
func TestLong(t *testing.T) {
	const n = 150000
	name := func(i int) string { return "p" + strconv.Itoa(i) }
	l := make([]api.Rule, n)
	want := make(map[string]int, n)
	stratum := 0
	for i := n - 1; i >= 0; i-- {
		kind := api.LAtom
		if i%3 == 0 {
			kind = api.LNot
			stratum++
		}
		l[i] = rule(atom(name(i)), literal(kind, name(i+1)))
		want[name(i)] = stratum
	}
	for range 2 {
		if got, err := Of(l); !maps.Equal(got, want) || err != api.OK {
			t.Errorf("P10.1: Of a long chain: %d: %d of %s, %d of %s", err, got[name(0)], name(0), got[name(n-1)], name(n-1))
		}
		if got, err := Order(l); len(got) != stratum+1 || err != api.OK {
			t.Errorf("P10.1: Order of a long chain: %d strata, %d", len(got), err)
		}
		checkRecursive(t, l, "", name(0)+" "+name(n-1)+" "+name(n))
		slices.Reverse(l)
	}
	l[n-1].Body = []api.Literal{atom(name(0))}
	for range 2 {
		bad(t, l)
		checkRecursive(t, l, name(0)+" "+name(n/2)+" "+name(n-1), name(n))
		slices.Reverse(l)
	}
	for i := range l {
		l[i].Body[0].Kind = api.LAtom
		want[name(i)] = 0
	}
	if got, err := Of(l); !maps.Equal(got, want) || err != api.OK {
		t.Errorf("P10.1: Of a long circle: %d strata, %d", len(got), err)
	}
}

// One body of very many literals, one predicate of very many rules.
func TestWide(t *testing.T) {
	const n = 100000
	body := slices.Repeat([]api.Literal{atom("q"), not("e"), not("r")}, n)
	checkOf(t, []api.Rule{rule(atom("p"), body...), rule(atom("q")), rule(atom("r"), body[:2]...)}, map[string]int{"p": 1, "q": 0, "r": 0})
	l := slices.Repeat([]api.Rule{rule(atom("p"), atom("p"), not("q")), rule(atom("q"))}, n)
	checkOf(t, l, map[string]int{"p": 1, "q": 0})
	checkRecursive(t, l, "p", "q")
	bad(t, append(l, rule(atom("q"), atom("p"))))
	checkOf(t, make([]api.Rule, n), map[string]int{"": 0})
}

// copied gives the rules once more, in memory of their own.
func copied(l []api.Rule) []api.Rule {
	m := slices.Clone(l)
	for i, r := range m {
		m[i].Head.Args = slices.Clone(r.Head.Args)
		m[i].Body = slices.Clone(r.Body)
		for k, b := range r.Body {
			m[i].Body[k].Args = slices.Clone(b.Args)
		}
	}
	return m
}

func sameLiteral(a, b api.Literal) bool {
	return a.Kind == b.Kind && a.Name == b.Name && slices.Equal(a.Args, b.Args)
}

func sameRule(a, b api.Rule) bool {
	return sameLiteral(a.Head, b.Head) && slices.EqualFunc(a.Body, b.Body, sameLiteral)
}

// What is handed in, its spare room too, stays as it was.
func TestNothingIsChanged(t *testing.T) {
	room := rules(t, "p(X) :- q(X), !r(X), X < 3. r(X) :- q(X), !s(X). q(b). q(a) :- q(b). s(X) :- s(X), e(X). z :- !p(a), q(a). a :- !z. spare :- !spare.")
	before := copied(room)
	short := copied(room)
	for i, r := range short {
		short[i].Head.Args, short[i].Body = room[i].Head.Args, room[i].Body[:len(r.Body)/2]
	}
	for n := range len(room) + 1 {
		for _, l := range [][]api.Rule{room[:n], short[:n]} {
			Of(l)
			Order(l)
			Recursive(l, "q")
			Recursive(l, "spare")
		}
	}
	if !slices.EqualFunc(room, before, sameRule) {
		t.Errorf("P0.3: the rules became %s", show(room))
	}
}

// An answer is new memory: no other answer's, none of the rules'.
func TestAnswersAreNew(t *testing.T) {
	l := rules(t, "p :- q, !r. q :- q. r :- q. s :- !p.")
	want := map[string]int{"p": 1, "q": 0, "r": 0, "s": 2}
	of, _ := Of(l)
	order, _ := Order(l)
	second, _ := Of(l)
	secondOrder, _ := Order(l)
	of["p"], of["x"] = 7, 8
	delete(of, "q")
	for i := range order {
		row := order[i][:cap(order[i])]
		for k := range row {
			row[k] = "x"
		}
	}
	for i := range order[:cap(order)] {
		order[:cap(order)][i] = nil
	}
	if !maps.Equal(second, want) || !sameOrder(secondOrder, orderOf(want)) {
		t.Errorf("P0.3: writing into one answer made another %v, %q", second, secondOrder)
	}
	checkOf(t, l, want)
	names := slices.AppendSeq(slices.Concat(secondOrder...), maps.Keys(second))
	for _, name := range names {
		for _, r := range l {
			for _, given := range append(r.Body, r.Head) {
				if unsafe.StringData(name) == unsafe.StringData(given.Name) {
					t.Errorf("P0.3: the answer's %s is the argument's own", name)
				}
			}
		}
	}
}

// The rows of one order share no room.
func TestRowsAreApart(t *testing.T) {
	l := rules(t, "a. b. c. d :- !a. e :- !b. f :- !c. g :- !d. h :- !e. i :- !f.")
	order, _ := Order(l)
	want := [][]string{{"a", "b", "c"}, {"d", "e", "f"}, {"g", "h", "i"}}
	for i := range order {
		_ = append(order[i], "x", "y", "z")
	}
	if !sameOrder(order, want) {
		t.Errorf("P0.3: adding to one row made the order %q", order)
	}
}

// What is told hangs on nothing that another call was told.
func TestNothingIsKept(t *testing.T) {
	l := rules(t, "p :- q, !r. q :- q. r :- q.")
	of, _ := Of(l)
	order, _ := Order(l)
	if !Recursive(l, "q") {
		t.Error("P10.1: Recursive(q)")
	}
	l[0].Head.Name, l[1].Body[0].Name, l[2].Body[0].Kind = "z", "e", api.LNot
	want := map[string]int{"p": 1, "q": 0, "r": 0}
	if !maps.Equal(of, want) || !sameOrder(order, orderOf(want)) {
		t.Errorf("P0.3: writing into the rules made the answers %v, %q", of, order)
	}
	checkOf(t, l, map[string]int{"z": 2, "q": 0, "r": 1})
	checkRecursive(t, l, "", "q p z")
	badTexts(t, "p :- !p.")
	checkOf(t, nil, map[string]int{})
	checkText(t, "p :- p.", "p0")
}
