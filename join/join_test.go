package join

import (
	"fmt"
	"maps"
	"math"
	"slices"
	"strconv"
	"strings"
	"testing"

	"delphi/api"
	"delphi/relation"
	"delphi/syntax"
	"delphi/value"
)

func num(n int64) api.Term { return api.Term{Kind: api.TInt, Num: n} }

func word(s string) api.Term { return api.Term{Kind: api.TWord, Name: s} }

func vary(s string) api.Term { return api.Term{Kind: api.TVar, Name: s} }

func literal(kind int, name string, args ...api.Term) api.Literal {
	return api.Literal{Kind: kind, Name: name, Args: args}
}

func plain(name string, args ...api.Term) api.Literal { return literal(api.LAtom, name, args...) }

func not(name string, args ...api.Term) api.Literal { return literal(api.LNot, name, args...) }

func rule(head api.Literal, body ...api.Literal) api.Rule { return api.Rule{Head: head, Body: body} }

// read gives the text's one rule.
func read(t *testing.T, text string) api.Rule {
	t.Helper()
	l, err := syntax.Program(text)
	if err != api.OK || len(l) != 1 {
		t.Fatalf("%s: %d rules, %d", text, len(l), err)
	}
	return l[0]
}

// readLong gives a rule whose body may be longer than a program's: behind a '|' its text goes on.
func readLong(t *testing.T, text string) api.Rule {
	t.Helper()
	texts := strings.Split(text, " | ")
	r := read(t, texts[0])
	for _, more := range texts[1:] {
		r.Body = append(r.Body, read(t, "p :- "+more).Body...)
	}
	return r
}

type store map[string]*relation.Set

func (s store) Set(name string) *relation.Set { return s[name] }

func setOf(width int, rows ...relation.Row) *relation.Set {
	s := relation.New(width)
	for _, r := range rows {
		s.Add(r)
	}
	return s
}

// numbers gives a set of the rows of one number, from 1 to n.
func numbers(n int) *relation.Set {
	s := relation.New(1)
	for i := range n {
		s.Add(relation.Row{i + 1})
	}
	return s
}

// told gives a table of the constants of a text, numbered as they stand there, and a store of its facts.
func told(t *testing.T, facts string) (*value.Table, store) {
	t.Helper()
	x, s := value.New(), store{}
	if facts == "" {
		return x, s
	}
	for text := range strings.SplitSeq(facts, "; ") {
		f, err := syntax.Fact(text)
		if err != api.OK {
			t.Fatalf("%s: %d", text, err)
		}
		if s[f.Name] == nil {
			s[f.Name] = relation.New(len(f.Args))
		}
		row := make(relation.Row, len(f.Args))
		for i, c := range f.Args {
			row[i] = x.Id(c)
		}
		s[f.Name].Add(row)
	}
	return x, s
}

// words gives a table whose numbers 1, 2, .. are those of a, b, ..
func words(n int) *value.Table {
	x := value.New()
	for i := range n {
		x.Id(word(string(rune('a' + i))))
	}
	return x
}

func show(rows []relation.Row) string { return fmt.Sprint(rows) }

func checkRule(t *testing.T, facts, text, want string) {
	t.Helper()
	x, s := told(t, facts)
	if got := show(Rule(read(t, text), x, s)); got != want {
		t.Errorf("P13.1: Rule(%s) over %s: %s; want %s", text, facts, got, want)
	}
}

// constants shows those of a table from a number on.
func constants(x *value.Table, from int) string {
	var texts []string
	for id := from; id <= x.Len(); id++ {
		texts = append(texts, value.Print(x.Term(id)))
	}
	return strings.Join(texts, " ")
}

// Numbers: a 1, b 2, c 3, d 4.
const edges = "e(a, b); e(b, c); e(c, d); e(b, b); e(d, a); r(b); r(d)"

func TestRuleOrdinary(t *testing.T) {
	for _, c := range []struct{ text, want string }{
		{"p(X, Y) :- e(X, Y).", "[[1 2] [2 2] [2 3] [3 4] [4 1]]"},
		{"p(Y, X) :- e(X, Y).", "[[1 4] [2 1] [2 2] [3 2] [4 3]]"},
		{"p(X) :- e(X, Y).", "[[1] [2] [3] [4]]"},
		{"p(X, X) :- r(X).", "[[2 2] [4 4]]"},
		{"p(X, Z) :- e(X, Y), e(Y, Z).", "[[1 2] [1 3] [2 2] [2 3] [2 4] [3 1] [4 2]]"},
		{"p(Y) :- e(X, Y), e(Y, Z), r(X), r(Z).", "[[1] [2] [3]]"},
		{"p(X) :- e(X, b).", "[[1] [2]]"},
		{"p(X) :- e(b, X).", "[[2] [3]]"},
		{"p :- e(a, b).", "[[]]"},
		{"p :- e(b, a).", "[]"},
		{"p(X) :- e(X, X).", "[[2]]"},
		{"p(X) :- r(X), e(X, X).", "[[2]]"},
		{"p(X, Y) :- r(X), r(Y).", "[[2 2] [2 4] [4 2] [4 4]]"},
		{"p(X, Y, X, Y) :- r(Y), e(X, Y).", "[[1 2 1 2] [2 2 2 2] [3 4 3 4]]"},
		{"p(X) :- e(X, Y), e(Y, Z), e(Z, X).", "[[2]]"},
		{"p(X) :- e(X, Y), e(Y, Z), e(Z, W), e(W, X).", "[[1] [2] [3] [4]]"},
		{"p(X, b) :- r(X).", "[[2 2] [4 2]]"},
		{"p(b) :- r(X).", "[[2]]"},
		{"p :- r(X).", "[[]]"},
	} {
		checkRule(t, edges, c.text, c.want)
	}
}

func TestRuleWithoutBody(t *testing.T) {
	checkRule(t, "", "p.", "[[]]")
	checkRule(t, edges, "p(d, a, d).", "[[4 1 4]]")
	checkRule(t, "", "p(z, 5, z).", "[[1 2 1]]")
	checkRule(t, "", "p(X).", "[]")
}

func TestRuleNegated(t *testing.T) {
	for _, c := range []struct{ text, want string }{
		{"p(X) :- e(X, Y), !r(X).", "[[1] [3]]"},
		{"p(X, Y) :- e(X, Y), !e(Y, X).", "[[1 2] [2 3] [3 4] [4 1]]"},
		{"p(X) :- !r(X), e(X, Y), !r(Y).", "[]"},
		{"p(X) :- r(X), !e(X, X).", "[[4]]"},
		{"p(X) :- r(X), !e(X, a).", "[[2]]"},
		{"p(X) :- r(X), !e(a, b).", "[]"},
		{"p(X) :- r(X), !e(b, a).", "[[2] [4]]"},
		{"p :- !r(a), !r(c).", "[[]]"},
		{"p :- !r(a), !r(b).", "[]"},
		{"p(X) :- r(X), !r(z).", "[[2] [4]]"},
		{"p(X, Y) :- r(X), r(Y), !e(X, Y).", "[[2 4] [4 2] [4 4]]"},
	} {
		checkRule(t, edges, c.text, c.want)
	}
}

// Numbers: 3 is 1, b 2, -1 is 3, a 4, 20 is 5.
func TestRuleComparisons(t *testing.T) {
	const facts = "n(3); n(b); n(-1); n(a); n(20)"
	for _, c := range []struct{ text, want string }{
		{"p(X, Y) :- n(X), n(Y), X < Y.", "[[1 2] [1 4] [1 5] [3 1] [3 2] [3 4] [3 5] [4 2] [5 2] [5 4]]"},
		{"p(X, Y) :- n(X), n(Y), X <= Y, Y <= X.", "[[1 1] [2 2] [3 3] [4 4] [5 5]]"},
		{"p(X) :- n(X), X = Y, n(Y).", "[[1] [2] [3] [4] [5]]"},
		{"p(X) :- n(X), X != b.", "[[1] [3] [4] [5]]"},
		{"p(X) :- n(X), 3 = X.", "[[1]]"},
		{"p(X) :- n(X), X < 4.", "[[1] [3]]"},
		{"p(X) :- n(X), 3 <= X, X < b.", "[[1] [4] [5]]"},
		{"p(X) :- n(X), X <= 3.", "[[1] [3]]"},
		{"p(X) :- n(X), X < X.", "[]"},
		{"p(X) :- n(X), X = X.", "[[1] [2] [3] [4] [5]]"},
		{"p(X) :- n(X), 1 < 2.", "[[1] [2] [3] [4] [5]]"},
		{"p(X) :- n(X), 2 < 1.", "[]"},
		{"p(X) :- n(X), a != a.", "[]"},
		{"p :- 1 < a.", "[[]]"},
		{"p :- a < 1.", "[]"},
		{"p(Y) :- n(X), n(Y), X < Y, Y <= 3.", "[[1]]"},
	} {
		checkRule(t, facts, c.text, c.want)
	}
}

// Several comparisons that are no part of one another, each of which has to hold.
func TestPartsMustAllHold(t *testing.T) {
	checkRule(t, edges, "p(X) :- r(X), e(Y, Y).", "[[2] [4]]")
	checkRule(t, edges, "p(X) :- r(X), e(Y, Y), !r(Y).", "[]")
	checkRule(t, edges, "p(X) :- r(X), q(Y).", "[]")
	checkRule(t, edges, "p(X, Y) :- r(X), e(Y, Z), !r(Y), r(W), W < Z.", "[[2 3] [4 3]]")
	checkRule(t, edges, "p(Y, a, X, Y) :- r(X), e(Y, Z), r(Z).", "[[1 1 2 1] [1 1 4 1] [2 1 2 2] [2 1 4 2] [3 1 2 3] [3 1 4 3]]")
	checkRule(t, edges, "p(X, Y, Z) :- r(X), r(Y), e(Z, Z).", "[[2 2 2] [2 4 2] [4 2 2] [4 4 2]]")
}

// A predicate that has no set has no rows.
func TestNoSet(t *testing.T) {
	x := words(4)
	s := store{"r": setOf(1, relation.Row{2}), "none": nil}
	for _, c := range []struct{ text, want string }{
		{"p(X) :- q(X).", "[]"}, {"p(X) :- r(X), q(X).", "[]"}, {"p :- q.", "[]"}, {"p(X) :- none(X).", "[]"}, {"p(X) :- r(X), none.", "[]"},
		{"p(X) :- r(X), !q(X).", "[[2]]"}, {"p :- !q.", "[[]]"}, {"p :- !none(a).", "[[]]"}, {"p(X) :- r(X), !none(X, X).", "[[2]]"},
	} {
		if got := show(Rule(read(t, c.text), x, s)); got != c.want {
			t.Errorf("P13.1: Rule(%s): %s; want %s", c.text, got, c.want)
		}
	}
}

// A predicate whose set is of another width has no rows.
func TestOtherWidth(t *testing.T) {
	x := words(4)
	s := store{"r": setOf(1, relation.Row{2})}
	row := relation.Row{2, 2, 2, 2}
	for width := range 5 {
		s["e"] = setOf(width, row[:width])
		for asked := range 7 {
			args := slices.Repeat([]api.Term{vary("X")}, asked)
			fixed := slices.Repeat([]api.Term{word("b")}, asked)
			with, without := "[]", "[[2]]"
			if width == asked {
				with, without = without, with
			}
			for _, l := range [][]api.Term{args, fixed} {
				if got := show(Rule(rule(plain("p", vary("X")), plain("r", vary("X")), plain("e", l...)), x, s)); got != with {
					t.Errorf("P13.1: a set of width %d for an atom of width %d: %s", width, asked, got)
				}
				if got := show(Rule(rule(plain("p", vary("X")), plain("r", vary("X")), not("e", l...)), x, s)); got != without {
					t.Errorf("P13.1: a set of width %d for a negated atom of width %d: %s", width, asked, got)
				}
				if got := show(Delta(rule(plain("p", vary("X")), plain("r", vary("X")), plain("e", l...)), x, s, 1, s["e"])); got != with {
					t.Errorf("P13.1: a delta of width %d for an atom of width %d: %s", width, asked, got)
				}
			}
		}
	}
}

// Many ways lead to one row; it comes once, and the rows rise by their numbers, not by their constants.
func TestOnceAndRising(t *testing.T) {
	checkRule(t, "e(z, 1); e(y, 1); e(b, 1); e(b, z)", "p(X) :- e(X, Y).", "[[1] [3] [4]]")
	checkRule(t, "e(z, 1); e(y, 1); e(b, 1); e(b, z)", "p(Y) :- e(X, Y).", "[[1] [2]]")
	checkRule(t, "e(b, a); e(a, b); e(b, b)", "p(Y, c, X) :- e(X, Y).", "[[1 3 1] [1 3 2] [2 3 1]]")
	s := store{"n": numbers(300)}
	rows := Rule(read(t, "p(Y, X) :- n(X), n(Y)."), words(1), s)
	for i, r := range rows {
		if !slices.Equal(r, relation.Row{i/300 + 1, i%300 + 1}) {
			t.Fatalf("P13.1: row %d is %v", i, r)
		}
	}
	if len(rows) != 300*300 {
		t.Errorf("P13.1: %d rows", len(rows))
	}
}

func TestUnsafe(t *testing.T) {
	for _, text := range []string{"p(X).", "p(X) :- r(Y).", "p(X, Y) :- e(X, X), r(b).", "p :- r(X), !e(X, Y).", "p(X) :- e(X, Y), Z < Y.", "p(X) :- X = b.", "p(X) :- r(Y), X = Y.", "p(X) :- !r(X)."} {
		checkRule(t, edges, text, "[]")
		x, s := told(t, edges)
		for at := range 3 {
			if got := Delta(read(t, text), x, s, at, s["r"]); len(got) != 0 {
				t.Errorf("P13.1: Delta(%s, %d): %v", text, at, got)
			}
		}
		if x.Len() != 4 {
			t.Errorf("P13.1: %s: the table holds %s too", text, constants(x, 5))
		}
	}
}

// The body's constants come at the beginning, from the left as it is written, whether there are rows or not; the head's if there is one.
func TestConstantsCome(t *testing.T) {
	for _, c := range []struct{ text, want string }{
		{"p(z) :- r(X), e(y, X).", "y"},
		{"p(z, y) :- r(X), !e(w, v), X != 7, X < u.", "w v 7 u z y"},
		{"p(z, y) :- X != 7, !e(w, v), u != X, r(X), e(X, t).", "7 w v u t"},
		{"p(z) :- r(X).", "z"},
		{"p(z, X, y, z) :- r(X).", "z y"},
		{"p(z, y, a) :- r(X), z != y, y != x.", "z y x"},
		{"p(z, y, w) :- r(X), w != y.", "w y z"},
		{"p(z, y).", "z y"},
		{"p(z) :- q(X).", ""},
		{"p(z) :- r(X), r(Y), q(X).", ""},
		{"p(z) :- q(y), q(x).", "y x"},
		{"p(z) :- 1 = 2, !q(3), q(4).", "1 2 3 4"},
		{"p(b, a) :- r(d), e(a, b).", ""},
		{"p(b, z) :- r(d), e(b, a).", ""},
		{"p(9) :- r(X), 9 != X, 8 != 9.", "9 8"},
	} {
		x, s := told(t, edges)
		Rule(read(t, c.text), x, s)
		if got := constants(x, 5); got != c.want {
			t.Errorf("P13.1: Rule(%s): the constants %s come; want %s", c.text, got, c.want)
		}
		Rule(read(t, c.text), x, s)
		if got := constants(x, 5); got != c.want {
			t.Errorf("P13.1: Rule(%s) twice: the constants %s come; want %s", c.text, got, c.want)
		}
	}
}

// A constant that came with the rule is in no row yet; the rows hold the table's numbers.
func TestConstantsAreTheTablesNumbers(t *testing.T) {
	checkRule(t, edges, "p(X, z, y, z) :- r(X).", "[[2 5 6 5] [4 5 6 5]]")
	checkRule(t, edges, "p(z, X) :- r(X), X != y.", "[[6 2] [6 4]]")
	checkRule(t, edges, "p(X) :- e(X, z).", "[]")
	checkRule(t, edges, "p(X) :- r(X), !e(X, z).", "[[2] [4]]")
	checkRule(t, "n(1); n(2); n(-5)", "p(X, 3) :- n(X), X < 2.", "[[1 4] [3 4]]")
}

func TestConstantsOfDelta(t *testing.T) {
	r := read(t, "p(z, X) :- X != w, e(X, v), r(X), !r(u).")
	for _, c := range []struct {
		at    int
		delta *relation.Set
		want  string
	}{
		{2, setOf(1, relation.Row{1}), "w v u"},
		{1, nil, "w v u"},
		{2, relation.New(2), "w v u"},
		{1, setOf(2, relation.Row{2, 6}), "w v u z"},
		{0, setOf(2, relation.Row{2, 6}), ""},
		{3, setOf(1, relation.Row{2}), ""},
		{-1, setOf(2, relation.Row{2, 6}), ""},
		{4, setOf(2, relation.Row{2, 6}), ""},
	} {
		x, s := told(t, edges)
		Delta(r, x, s, c.at, c.delta)
		if got := constants(x, 5); got != c.want {
			t.Errorf("P13.1: Delta at %d: the constants %s come; want %s", c.at, got, c.want)
		}
	}
}

func TestDelta(t *testing.T) {
	delta := setOf(2, relation.Row{2, 3}, relation.Row{4, 4})
	for _, c := range []struct {
		text string
		at   int
		want string
	}{
		{"p(X, Y) :- e(X, Y).", 0, "[[2 3] [4 4]]"},
		{"p(X, Z) :- e(X, Y), e(Y, Z).", 0, "[[2 4] [4 1]]"},
		{"p(X, Z) :- e(X, Y), e(Y, Z).", 1, "[[1 3] [2 3] [3 4]]"},
		{"p(X) :- r(X), e(X, Y), X != Y.", 1, "[[2]]"},
		{"p(X) :- X < Y, !r(Y), e(X, Y).", 2, "[[2]]"},
		{"p(X) :- e(X, Y), !e(X, Y).", 0, "[[4]]"},
		{"p(X) :- new(X, Y), e(Y, Z).", 0, "[[2] [4]]"},
		{"p(X) :- e(X, Y), new(Y, Z).", 0, "[]"},
		{"p(X, Z) :- e(X, X), r(Z).", 0, "[[4 2] [4 4]]"},
		{"p(X, Z) :- e(X, b), r(Z).", 0, "[]"},
		{"p(X, Z) :- e(X, c), r(Z).", 0, "[[2 2] [2 4]]"},
		{"p(Z) :- r(Z), e(b, c).", 1, "[[2] [4]]"},
		{"p(Z) :- r(Z), e(a, b).", 1, "[]"},
		{"p(X, z) :- e(X, c).", 0, "[[2 5]]"},
	} {
		x, s := told(t, edges)
		if got := show(Delta(read(t, c.text), x, s, c.at, delta)); got != c.want {
			t.Errorf("P13.1: Delta(%s, %d): %s; want %s", c.text, c.at, got, c.want)
		}
	}
	if got := show(delta.All()); got != "[[2 3] [4 4]]" {
		t.Errorf("P0.3: delta became %s", got)
	}
}

func TestDeltaOfNoRows(t *testing.T) {
	x, s := told(t, edges)
	r := read(t, "p(X) :- e(X, Y), r(Y).")
	for at := range 2 {
		for width := -1; width < 6; width++ {
			if got := Delta(r, x, s, at, relation.New(width)); len(got) != 0 {
				t.Errorf("P13.1: Delta of an empty set of width %d: %v", width, got)
			}
		}
	}
	if got := show(Delta(r, x, nil, 0, setOf(2, relation.Row{1, 2}))); got != "[]" {
		t.Errorf("P13.1: Delta without a store: %s", got)
	}
	if got := show(Delta(read(t, "p(X) :- e(X, Y), !r(Y)."), x, nil, 0, setOf(2, relation.Row{1, 2}))); got != "[[1]]" {
		t.Errorf("P13.1: Delta without a store: %s", got)
	}
}

func TestDeltaAtNoAtom(t *testing.T) {
	r := read(t, "p(X) :- n(X), !m(X), X = X, X != x, X < y, X <= z.")
	for _, at := range []int{-1, -2, -3, 1, 2, 3, 4, 5, 6, 7, 1000, math.MaxInt, math.MinInt, math.MaxInt - 1, math.MinInt + 1, 1 << 32, -1 << 32} {
		x := words(3)
		if got := Delta(r, x, store{"n": numbers(3)}, at, numbers(3)); len(got) != 0 || x.Len() != 3 {
			t.Errorf("P13.1: Delta at %d: %v, %d constants", at, got, x.Len())
		}
	}
	if got := show(Delta(r, words(3), store{}, 0, numbers(3))); got != "[[1] [2] [3]]" {
		t.Errorf("P13.1: Delta at 0: %s", got)
	}
	for at := -2; at < 3; at++ {
		if got := Delta(read(t, "p(a)."), words(3), store{}, at, numbers(3)); len(got) != 0 {
			t.Errorf("P13.1: Delta at %d of no body: %v", at, got)
		}
	}
	for _, kind := range []int{0, 7, -1, math.MaxInt} {
		if got := Delta(rule(plain("p"), literal(kind, "n", word("a"))), words(3), store{"n": numbers(3)}, 0, numbers(3)); len(got) != 0 {
			t.Errorf("P13.1: Delta at a literal of kind %d: %v", kind, got)
		}
	}
}

// asked counts how often each set was asked for.
type asked struct {
	store
	times map[string]int
}

func (a asked) Set(name string) *relation.Set {
	a.times[name]++
	return a.store[name]
}

// What delta answers, the store is not asked for; the same predicate at another place it is.
func TestDeltaIsNotTheStores(t *testing.T) {
	a := asked{store{"n": numbers(3), "m": numbers(2)}, map[string]int{}}
	if got := show(Delta(read(t, "p(X) :- n(X), m(X)."), words(3), a, 0, numbers(5))); got != "[[1] [2]]" || a.times["n"] != 0 {
		t.Errorf("P13.1: Delta: %s; the store was asked %v", got, a.times)
	}
	if got := show(Delta(read(t, "p(X) :- n(X), !n(X)."), words(3), a, 0, numbers(5))); got != "[[4] [5]]" {
		t.Errorf("P13.1: Delta: %s", got)
	}
}

// rising are constants, each less than all behind it.
var rising = []api.Term{num(-1 << 31), num(-3), num(-1), num(0), num(1), num(20), num(1 << 31), word("a"), word("a1"), word("aa"), word("b"), word("z")}

func checkHolds(t *testing.T, l api.Literal, x *value.Table, row map[string]int, holds, known bool) {
	t.Helper()
	before := maps.Clone(row)
	size := x.Len()
	gotHolds, gotKnown := Holds(l, x, row)
	if gotHolds != holds || gotKnown != known {
		t.Errorf("P13.1: Holds(%v, %v): %t, %t; want %t, %t", l, row, gotHolds, gotKnown, holds, known)
	}
	if !maps.Equal(row, before) || x.Len() != size {
		t.Errorf("P0.3: Holds(%v, %v) made the row %v, %d constants", l, before, row, x.Len()-size)
	}
}

func TestHoldsOfAllPairs(t *testing.T) {
	x := value.New()
	for _, c := range slices.Backward(rising) {
		x.Id(c)
	}
	for i, a := range rising {
		for j, b := range rising {
			row := map[string]int{"X": x.Id(a), "Y": x.Id(b), "Z": 1}
			for _, sides := range [][]api.Term{{a, b}, {vary("X"), vary("Y")}, {vary("X"), b}, {a, vary("Y")}} {
				checkHolds(t, literal(api.LEq, "", sides...), x, row, i == j, true)
				checkHolds(t, literal(api.LNe, "", sides...), x, row, i != j, true)
				checkHolds(t, literal(api.LLt, "", sides...), x, row, i < j, true)
				checkHolds(t, literal(api.LLe, "", sides...), x, row, i <= j, true)
			}
		}
	}
}

// Constants that the table does not hold are compared as they are, and do not come.
func TestHoldsOfNewConstants(t *testing.T) {
	for _, x := range []*value.Table{nil, value.New(), words(2)} {
		checkHolds(t, literal(api.LEq, "", num(7), num(7)), x, nil, true, true)
		checkHolds(t, literal(api.LEq, "", num(7), num(8)), x, nil, false, true)
		checkHolds(t, literal(api.LNe, "", num(7), word("z")), x, nil, true, true)
		checkHolds(t, literal(api.LLt, "", num(7), num(8)), x, nil, true, true)
		checkHolds(t, literal(api.LLe, "", word("z"), word("y")), x, nil, false, true)
	}
	x := words(2)
	checkHolds(t, literal(api.LLt, "", vary("X"), word("z")), x, map[string]int{"X": 2}, true, true)
	checkHolds(t, literal(api.LEq, "", word("z"), vary("X")), x, map[string]int{"X": 2}, false, true)
}

func TestHoldsNotKnown(t *testing.T) {
	x := words(3)
	for _, kind := range []int{api.LEq, api.LNe, api.LLt, api.LLe} {
		for _, row := range []map[string]int{nil, {}, {"Y": 1}, {"x": 1, "": 2, "X ": 3}} {
			checkHolds(t, literal(kind, "", vary("X"), word("b")), x, row, false, false)
			checkHolds(t, literal(kind, "", word("b"), vary("X")), x, row, false, false)
			checkHolds(t, literal(kind, "", vary("X"), vary("X")), x, row, false, false)
			checkHolds(t, literal(kind, "", vary("X"), vary("Y")), x, row, false, false)
			checkHolds(t, literal(kind, "", vary("Y"), vary("X")), x, row, false, false)
		}
	}
	checkHolds(t, literal(api.LEq, "", vary("X"), vary("X")), x, map[string]int{"X": 2}, true, true)
	checkHolds(t, literal(api.LLt, "", vary("X"), vary("Y")), x, map[string]int{"X": 1, "Y": 3}, true, true)
	checkHolds(t, literal(api.LLt, "", vary(""), vary("\xff")), x, map[string]int{"": 1, "\xff": 3}, true, true)
}

func TestHoldsOfNoComparison(t *testing.T) {
	x, row := words(3), map[string]int{"X": 1, "Y": 1}
	a := word("a")
	for _, kind := range []int{api.LAtom, api.LNot, 0, 7, -1, math.MaxInt, math.MinInt} {
		checkHolds(t, literal(kind, "", vary("X"), vary("Y")), x, row, false, false)
		checkHolds(t, literal(kind, "p", a, a), x, row, false, false)
		checkHolds(t, literal(kind, "p"), x, nil, false, false)
	}
	for _, kind := range []int{api.LEq, api.LNe, api.LLt, api.LLe} {
		checkHolds(t, literal(kind, ""), x, row, false, false)
		checkHolds(t, literal(kind, "", a), x, row, false, false)
		checkHolds(t, literal(kind, "", a, a, a), x, row, false, false)
		checkHolds(t, literal(kind, "", vary("X"), vary("Y"), a), x, row, false, false)
	}
	checkHolds(t, api.Literal{}, nil, nil, false, false)
}

// A number that is no constant's stands for the zero term.
func TestHoldsOfOddNumbers(t *testing.T) {
	for _, n := range []int{0, -1, 4, math.MaxInt, math.MinInt} {
		row := map[string]int{"X": n, "Y": 1}
		x, y := vary("X"), vary("Y")
		checkHolds(t, literal(api.LEq, "", x, y), words(3), row, false, true)
		checkHolds(t, literal(api.LNe, "", x, y), words(3), row, true, true)
		checkHolds(t, literal(api.LLt, "", x, y), words(3), row, false, true)
		checkHolds(t, literal(api.LLt, "", y, x), words(3), row, false, true)
		checkHolds(t, literal(api.LEq, "", x, x), words(3), row, true, true)
		checkHolds(t, literal(api.LEq, "", x, y), nil, row, true, true)
	}
}

// absent is a store that is a nil pointer.
type absent struct{ sets store }

func (a *absent) Set(name string) *relation.Set { return a.sets[name] }

type angry struct{}

func (angry) Set(string) *relation.Set { panic("no sets") }

func TestNoStore(t *testing.T) {
	var nilStore *absent
	var nilMap store
	for _, s := range []Store{nil, nilStore, nilMap, angry{}, &absent{}, store{}} {
		for _, c := range []struct{ text, want string }{{"p(X) :- e(X, Y).", "[]"}, {"p.", "[[]]"}, {"p(b).", "[[2]]"}, {"p(b) :- !e(a, b), 1 < 2.", "[[2]]"}, {"p(b) :- !e(a, b), e(b, a).", "[]"}} {
			if got := show(Rule(read(t, c.text), words(4), s)); got != c.want {
				t.Errorf("P13.1: Rule(%s) of the store %T: %s; want %s", c.text, s, got, c.want)
			}
		}
		if got := show(Delta(read(t, "p(X) :- e(X, Y), !r(X)."), words(4), s, 0, setOf(2, relation.Row{3, 1}))); got != "[[3]]" {
			t.Errorf("P13.1: Delta of the store %T: %s", s, got)
		}
	}
}

// Without a table rules that have no constants work; constants are in no row, as their number is 0.
func TestNoTable(t *testing.T) {
	_, s := told(t, edges)
	for _, c := range []struct{ text, want string }{
		{"p(X, Z) :- e(X, Y), e(Y, Z), r(X).", "[[2 2] [2 3] [2 4] [4 2]]"},
		{"p(X) :- e(X, b).", "[]"}, {"p(X) :- e(X, X), !r(a).", "[[2]]"}, {"p(X) :- r(X), 1 < 2.", "[[2] [4]]"}, {"p(X) :- r(X), 2 < 1.", "[]"},
	} {
		if got := show(Rule(read(t, c.text), nil, s)); got != c.want {
			t.Errorf("P13.1: Rule(%s) without a table: %s; want %s", c.text, got, c.want)
		}
	}
	Rule(read(t, "p(a) :- e(X, Y), X < Y."), nil, s)
	Rule(read(t, "p(a)."), nil, nil)
	Delta(read(t, "p(a) :- e(X, Y), X < Y."), nil, nil, 0, nil)
	Delta(api.Rule{}, nil, nil, 0, nil)
	if got := show(Rule(api.Rule{}, nil, nil)); got != "[[]]" {
		t.Errorf("P13.1: Rule of a zero rule: %s", got)
	}
}

// Sets hold any numbers. Those below 1, which say nothing to Match, fit only themselves.
func TestOddNumbersInRows(t *testing.T) {
	odd := []int{math.MinInt, -1, 0, 1, 2, math.MaxInt}
	n, e := relation.New(1), relation.New(2)
	for i, a := range odd {
		n.Add(relation.Row{a})
		e.Add(relation.Row{a, odd[(i+1)%len(odd)]})
	}
	s := store{"n": n, "e": e}
	for _, c := range []struct{ text, want string }{
		{"p(X) :- n(X).", show(n.All())},
		{"p(X, Y) :- n(X), e(X, Y).", show(e.All())},
		{"p(X, Y) :- n(Y), e(X, Y).", show(e.All())},
		{"p(X, Y) :- n(Y), n(X), e(X, Y).", show(e.All())},
		{"p(X) :- n(X), !e(X, X).", show(n.All())},
		{"p(X, Y) :- e(X, Y), !e(X, Y).", "[]"},
		{"p(X) :- e(X, X).", "[]"},
		{"p(X) :- e(X, Y), e(Y, X).", "[]"},
		{"p(X) :- e(a, X).", "[[2]]"},
	} {
		if got := show(Rule(read(t, c.text), words(2), s)); got != c.want {
			t.Errorf("P13.1: Rule(%s) over odd numbers: %s; want %s", c.text, got, c.want)
		}
	}
	x := vary("X")
	for _, a := range odd {
		delta := setOf(1, relation.Row{a})
		if got, want := show(Delta(rule(plain("p", x), plain("n", x), plain("n", x)), words(2), s, 0, delta)), fmt.Sprintf("[[%d]]", a); got != want {
			t.Errorf("P13.1: Delta of %d: %s", a, got)
		}
	}
}

// A term that may not be a constant has the number 0, which is not that of a row; no constant comes.
func TestTermsThatMayNotBe(t *testing.T) {
	x, s := told(t, edges)
	for _, bad := range []api.Term{{}, word(""), word("B"), word(strings.Repeat("a", 17)), num(1<<31 + 1), num(math.MinInt64), {Kind: 4, Name: "b"}, {Kind: -1, Name: "X"}, {Kind: api.TWord, Name: "b", Num: 1}, {Kind: api.TInt, Name: "X"}} {
		r := rule(plain("p", vary("X")), plain("r", vary("X")), plain("e", vary("X"), bad))
		if got := show(Rule(r, x, s)); got != "[]" {
			t.Errorf("P13.1: Rule with %v in an atom: %s", bad, got)
		}
		if got := show(Rule(rule(plain("p"), plain("r", bad)), x, s)); got != "[]" {
			t.Errorf("P13.1: Rule with %v in an atom: %s", bad, got)
		}
		r.Body[1].Kind = api.LNot
		if got := show(Rule(r, x, s)); got != "[[2] [4]]" {
			t.Errorf("P13.1: Rule with %v in a negated atom: %s", bad, got)
		}
		r.Body[1] = literal(api.LNe, "", vary("X"), bad)
		if got := show(Rule(r, x, s)); got != "[[2] [4]]" {
			t.Errorf("P13.1: Rule with %v in a comparison: %s", bad, got)
		}
		Rule(rule(plain("p", bad, bad), r.Body...), x, s)
		if x.Len() != 4 {
			t.Errorf("P13.1: %v came as a constant", bad)
		}
	}
}

// A literal that is neither an atom nor a comparison of two terms never holds.
func TestLiteralsThatAreNone(t *testing.T) {
	_, s := told(t, edges)
	x, y := vary("X"), vary("Y")
	for _, kind := range []int{0, 7, -1, math.MaxInt, math.MinInt} {
		for _, l := range []api.Literal{literal(kind, "r", x), literal(kind, "r", y), literal(kind, "r"), literal(kind, "", x, x)} {
			if got := show(Rule(rule(plain("p", x), plain("r", x), l), words(4), s)); got != "[]" {
				t.Errorf("P13.1: a literal of kind %d: %s", kind, got)
			}
			if got := show(Delta(rule(plain("p", x), l, plain("r", x)), words(4), s, 1, s["r"])); got != "[]" {
				t.Errorf("P13.1: a literal of kind %d: %s", kind, got)
			}
		}
		if got := show(Rule(rule(literal(kind, "p", x), plain("r", x)), words(4), s)); got != "[[2] [4]]" {
			t.Errorf("P13.1: a head of kind %d: %s", kind, got)
		}
	}
	for _, kind := range []int{api.LEq, api.LNe, api.LLt, api.LLe} {
		for _, args := range [][]api.Term{nil, {x}, {x, x, x}, {word("a")}, {word("a"), word("b"), word("c")}} {
			if got := show(Rule(rule(plain("p", x), plain("r", x), literal(kind, "", args...)), words(4), s)); got != "[]" {
				t.Errorf("P13.1: a comparison of %d terms: %s", len(args), got)
			}
		}
	}
}

// Heads may be wider than sets; variables may have any name, and one with a number is the one of that name.
func TestHeadsThatNoTextMakes(t *testing.T) {
	_, s := told(t, edges)
	x := vary("X")
	if got := show(Rule(rule(plain("p", x, word("a"), x, x, word("b"), x), plain("r", x)), words(4), s)); got != "[[2 1 2 2 2 2] [4 1 4 4 2 4]]" {
		t.Errorf("P13.1: a head of six terms: %s", got)
	}
	for _, name := range []string{"", "b", "\xff\x00", "X Y", strings.Repeat("X", 100000)} {
		v := api.Term{Kind: api.TVar, Name: name, Num: 5}
		if got := show(Rule(rule(plain("p", vary(name), word("b")), plain("r", v), plain("e", v, v)), words(4), s)); got != "[[2 2]]" {
			t.Errorf("P13.1: a variable of %d bytes: %s", len(name), got)
		}
	}
}

func copied(r api.Rule) api.Rule {
	c := api.Rule{Head: r.Head, Body: slices.Clone(r.Body)}
	c.Head.Args = slices.Clone(r.Head.Args)
	for i, l := range r.Body {
		c.Body[i].Args = slices.Clone(l.Args)
	}
	return c
}

func sameLiteral(a, b api.Literal) bool {
	return a.Kind == b.Kind && a.Name == b.Name && slices.Equal(a.Args, b.Args)
}

// What is handed in, its spare room too, stays as it was; so do the sets.
func TestNothingIsChanged(t *testing.T) {
	room := read(t, "p(X, a, Y, b) :- e(X, Y), X != Y, !e(Y, X), r(X), e(a, b), !r(c).")
	before := copied(room)
	x, s := told(t, edges)
	delta := setOf(2, relation.Row{2, 3})
	for n := range len(room.Body) + 1 {
		for width := range 5 {
			r := rule(room.Head, room.Body[:n]...)
			r.Head.Args = room.Head.Args[:width]
			Rule(r, x, s)
			for at := -2; at <= n; at++ {
				Delta(r, x, s, at, delta)
			}
		}
	}
	if !sameLiteral(room.Head, before.Head) || !slices.EqualFunc(room.Body, before.Body, sameLiteral) {
		t.Errorf("P0.3: the rule became %s", syntax.Print(room))
	}
	_, same := told(t, edges)
	for name := range s {
		if show(s[name].All()) != show(same[name].All()) {
			t.Errorf("P0.3: the set of %s became %v", name, s[name].All())
		}
	}
	if len(s) != len(same) || show(delta.All()) != "[[2 3]]" {
		t.Error("P0.3: the store or delta was changed")
	}
}

// An answer is new memory, its spare room too: no other answer's, no set's, and no two rows of it share any.
func TestAnswersAreNew(t *testing.T) {
	x, s := told(t, edges)
	calls := map[string]func() []relation.Row{
		"Rule":          func() []relation.Row { return Rule(read(t, "p(X, Y) :- e(X, Y)."), x, s) },
		"Rule of parts": func() []relation.Row { return Rule(read(t, "p(X, Y) :- r(X), r(Y)."), x, s) },
		"Delta":         func() []relation.Row { return Delta(read(t, "p(X, Y) :- e(X, Y)."), x, s, 0, s["e"]) },
		"Rule of none":  func() []relation.Row { return Rule(read(t, "p(a, b)."), x, s) },
	}
	for name, call := range calls {
		first, second := call(), call()
		want := show(second)
		for i, row := range first {
			before := show(first[i+1:])
			whole := row[:cap(row)]
			for k := range whole {
				whole[k] = 77
			}
			if got := show(first[i+1:]); got != before {
				t.Errorf("P0.3: %s: writing into the row %d made those behind it %s", name, i, got)
			}
		}
		for i := range first[:cap(first)] {
			first[:cap(first)][i] = nil
		}
		if got, again := show(second), show(call()); got != want || again != want {
			t.Errorf("P0.3: %s: writing into one answer made others %s and %s", name, got, again)
		}
	}
	_, same := told(t, edges)
	if show(s["e"].All()) != show(same["e"].All()) || show(s["r"].All()) != show(same["r"].All()) {
		t.Error("P0.3: writing into an answer changed a set")
	}
}

// What a call tells hangs on its own arguments: sets that change between two calls are asked anew.
func TestNothingIsKept(t *testing.T) {
	r := read(t, "p(X, Y) :- e(X, Y), r(X).")
	x, s := told(t, edges)
	for _, c := range []struct {
		change func()
		want   string
	}{
		{func() {}, "[[2 2] [2 3] [4 1]]"},
		{func() { s["r"].Remove(relation.Row{4}) }, "[[2 2] [2 3]]"},
		{func() { s["e"].Add(relation.Row{2, 9}) }, "[[2 2] [2 3] [2 9]]"},
		{func() { delete(s, "r") }, "[]"},
		{func() { r.Body = r.Body[:1]; r.Head.Args = r.Head.Args[:1] }, "[[1] [2] [3] [4]]"},
	} {
		c.change()
		for range 2 {
			if got := show(Rule(r, x, s)); got != c.want {
				t.Errorf("P0.5: %s; want %s", got, c.want)
			}
		}
	}
}

// A body in which very many ways lead to few rows.
func TestManyWays(t *testing.T) {
	n := numbers(100)
	e := relation.New(2)
	for a := range 30 {
		for b := range 30 {
			e.Add(relation.Row{a + 1, b + 1})
		}
	}
	x := value.New()
	for i := range 100 {
		x.Id(num(int64(i)))
	}
	s := store{"n": n, "e": e}
	for _, c := range []struct {
		text string
		want int
	}{
		{"p(A) :- n(A), n(B), n(C), n(D), n(E), n(F).", 100},
		{"p :- n(A), n(B), n(C), n(D), n(E), n(F).", 1},
		{"p(F) :- n(A), n(B), n(C), n(D), n(E), n(F).", 100},
		{"p(A, D) :- n(A), n(B), n(C), n(D), n(E), n(F).", 10000},
		{"p(A) :- e(A, B), e(B, C), e(C, D), e(D, E), e(E, F), e(F, G).", 30},
		{"p(A, G) :- e(A, B), e(B, C), e(C, D), e(D, E), e(E, F), e(F, G).", 900},
		{"p :- e(A, B), e(C, D), e(E, F), e(G, H), e(I, J), e(K, L).", 1},
		{"p(A) :- n(A), n(B), n(C), n(D), n(E), n(F). | A < F, B < E, C < D.", 99},
		{"p :- n(A), n(B), n(C), n(D), n(E), n(F). | A < F, B < E, C < D.", 1},
		{"p :- n(A), n(B), n(C), A < B, B < C, C < A.", 0},
		{"p(F) :- n(A), n(B), A < B, n(C), B < C. | n(D), C < D, n(E), D < E, n(F), E < F.", 95},
		{"p(X) :- e(X, A), e(X, B), e(X, C), e(X, D), e(X, E), e(X, F).", 30},
		{"p(X) :- n(X), e(A, B), !e(B, A).", 0},
		{"p(X) :- n(X), e(A, B), e(C, D), e(E, F), !n(A).", 0},
	} {
		if got := len(Rule(readLong(t, c.text), x, s)); got != c.want {
			t.Errorf("P13.1: Rule(%s): %d rows; want %d", c.text, got, c.want)
		}
	}
}

// Sets of very many rows, asked where they are sorted and where they are not.
func TestLongSets(t *testing.T) {
	const n = 100000
	e := relation.New(2)
	for i := range n {
		e.Add(relation.Row{i + 1, (i+7)%n + 1})
	}
	x, s := words(20), store{"e": e, "n": numbers(n)}
	for _, c := range []struct {
		text string
		want int
	}{
		{"p(X, Z) :- e(X, Y), e(Y, Z).", n}, {"p(X, Z) :- e(X, Y), e(Z, Y).", n}, {"p(X) :- e(X, Y), n(Y), !e(Y, X).", n},
		{"p(X) :- e(X, a).", 1}, {"p(X) :- e(a, X), e(X, Y), e(Z, Y).", 1}, {"p(a) :- e(X, Y), X = b.", 1}, {"p :- e(X, Y), !n(X).", 0},
	} {
		if got := len(Rule(read(t, c.text), x, s)); got != c.want {
			t.Errorf("P13.1: Rule(%s): %d rows; want %d", c.text, got, c.want)
		}
	}
	one := setOf(2, relation.Row{3, 10})
	for range 1000 {
		if got := show(Delta(read(t, "p(X, Z) :- e(X, Y), e(Y, Z)."), x, s, 0, one)); got != "[[3 17]]" {
			t.Fatalf("P13.1: Delta: %s", got)
		}
	}
}

// A chain of very many atoms, with a comparison at each link.
func TestLongBody(t *testing.T) {
	const n = 30000
	x := words(2)
	e := setOf(2, relation.Row{1, 1}, relation.Row{1, 2}, relation.Row{2, 2})
	link := func(i int) api.Term { return vary("X" + strconv.Itoa(i)) }
	var body []api.Literal
	for i := range n {
		body = append(body, plain("e", link(i), link(i+1)), literal(api.LLe, "", link(i), link(i+1)))
	}
	r := rule(plain("p", link(0), link(n)), body...)
	if got := show(Rule(r, x, store{"e": e})); got != "[[1 1] [1 2] [2 2]]" {
		t.Errorf("P13.1: a long chain: %s", got)
	}
	if got := show(Delta(r, x, store{"e": e}, n, setOf(2, relation.Row{1, 2}))); got != "[[1 2]]" {
		t.Errorf("P13.1: Delta in a long chain: %s", got)
	}
	body = append(body, not("e", link(n/2), link(n/2)))
	if got := show(Rule(rule(r.Head, body...), x, store{"e": e})); got != "[]" {
		t.Errorf("P13.1: a long chain with what does not hold: %s", got)
	}
}

// Very many atoms that share no variable, all of which the head needs.
func TestManyParts(t *testing.T) {
	const n = 100000
	r := api.Rule{}
	for i := range n {
		v := vary("X" + strconv.Itoa(i))
		r.Head.Args = append(r.Head.Args, v)
		r.Body = append(r.Body, plain([]string{"a", "b"}[i%2], v))
	}
	rows := Rule(r, words(1), store{"a": setOf(1, relation.Row{7}), "b": setOf(1, relation.Row{8})})
	if len(rows) != 1 || !slices.Equal(rows[0], slices.Repeat(relation.Row{7, 8}, n/2)) {
		t.Errorf("P13.1: %d rows of very many parts", len(rows))
	}
	r.Head.Args = r.Head.Args[:3]
	if got := show(Rule(r, words(1), store{"a": numbers(2), "b": setOf(1, relation.Row{8})})); got != "[[1 8 1] [1 8 2] [2 8 1] [2 8 2]]" {
		t.Errorf("P13.1: very many parts: %s", got)
	}
}

func TestWideLiterals(t *testing.T) {
	const n = 100000
	x := vary("X")
	many := slices.Repeat([]api.Term{x}, n)
	s := store{"n": numbers(200), "wide": numbers(200)}
	if got := Rule(rule(plain("p", x), plain("n", x), plain("wide", many...)), words(1), s); len(got) != 0 {
		t.Errorf("P13.1: a wide atom: %d rows", len(got))
	}
	if got := Rule(rule(plain("p", x), plain("n", x), not("wide", many...)), words(1), s); len(got) != 200 {
		t.Errorf("P13.1: a wide negated atom: %d rows", len(got))
	}
	if got := Delta(rule(plain("p", x), plain("wide", many...)), words(1), s, 0, numbers(200)); len(got) != 0 {
		t.Errorf("P13.1: a wide atom of delta: %d rows", len(got))
	}
	if got := Rule(rule(plain("p", many...), plain("n", x)), words(1), s); len(got) != 200 || len(got[199]) != n || got[199][n-1] != 200 {
		t.Errorf("P13.1: a wide head: %d rows", len(got))
	}
}
