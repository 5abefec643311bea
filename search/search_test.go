package search

import (
	"fmt"
	"math"
	"math/rand"
	"slices"
	"testing"

	"delphi/api"
	"delphi/relation"
	"delphi/syntax"
	"delphi/value"
)

// All rows of a rule are tested by way of package join; here stands what happens where fewer are enough.

type store map[string]*relation.Set

func (s store) Set(name string) *relation.Set { return s[name] }

func read(t *testing.T, text string) api.Rule {
	t.Helper()
	l, err := syntax.Program(text)
	if err != api.OK || len(l) != 1 {
		t.Fatalf("%s: %d rules, %d", text, len(l), err)
	}
	return l[0]
}

// table gives the numbers 1, 2, .. to the constants 1, 2, ..
func table(n int) *value.Table {
	x := value.New()
	for i := range n {
		x.Id(api.Term{Kind: api.TInt, Num: int64(i + 1)})
	}
	return x
}

// numbers gives a set of the rows of one number, from 1 to n.
func numbers(n int) *relation.Set {
	s := relation.New(1)
	for i := range n {
		s.Add(relation.Row{i + 1})
	}
	return s
}

// pairs gives a set of so many rows of two numbers that are at most n.
func pairs(r *rand.Rand, n, rows int) *relation.Set {
	s := relation.New(2)
	for range rows {
		s.Add(relation.Row{1 + r.Intn(n), 1 + r.Intn(n)})
	}
	return s
}

func sameRow(a, b relation.Row) bool { return slices.Equal(a, b) }

// checkMost asks for fewer and for more rows than there are: they must be of all rows, each once, rising, and not fewer than they can be.
func checkMost(t *testing.T, q Question) int {
	t.Helper()
	q.Most = math.MaxInt
	all := Rows(q)
	for _, most := range []int{math.MinInt, -1, 0, 1, 2, 3, 7, len(all) - 1, len(all), len(all) + 1} {
		q.Most = most
		got := Rows(q)
		if want := max(0, min(most, len(all))); len(got) != want {
			t.Fatalf("%s: %d rows where %d are enough; want %d", syntax.Print(q.Rule), len(got), most, want)
		}
		rest := all
		for _, row := range got {
			at := slices.IndexFunc(rest, func(r relation.Row) bool { return sameRow(r, row) })
			if at < 0 {
				t.Fatalf("%s: where %d rows are enough, %v; all: %v", syntax.Print(q.Rule), most, got, all)
			}
			rest = rest[at+1:]
		}
	}
	return len(all)
}

func TestMost(t *testing.T) {
	source := rand.New(rand.NewSource(1))
	texts := []string{
		"p(X) :- n(X).", "p(X, Y) :- n(X), n(Y).", "p(X, Y, Z) :- n(X), n(Y), n(Z), X < Y.", "p(X, Z) :- e(X, Y), e(Y, Z).", "p(X) :- e(X, Y), e(Y, Z), e(Z, X).",
		"p(X) :- n(Y), n(Z), n(X), !e(X, Y), !e(X, Z).", "p(Z) :- e(X, Y), e(Y, Z), !f(X, Z).", "p(X, W) :- e(X, Y), f(Y, Z), e(Z, W), X != W.", "p(X, Y, Z, W) :- e(X, Y), f(Z, W).",
		"p :- e(X, Y), f(Y, X).", "p :- n(X).", "p(3, 4).", "p(X, 3) :- n(X), e(A, B), A < B.", "p(X) :- none(X).", "p(X) :- n(X), X < X.", "p(X, X) :- e(X, X), !none(X).",
		"p(Y) :- n(X), X = 1, e(X, Y).", "p(X) :- e(X, A), e(X, B), e(X, C), A < B, B < C.",
	}
	some := 0
	for range 60 {
		n := 2 + source.Intn(6)
		s := store{"n": numbers(n), "e": pairs(source, n, source.Intn(30)), "f": pairs(source, n, source.Intn(30))}
		for _, text := range texts {
			r := read(t, text)
			if checkMost(t, Question{Rule: r, Table: table(n), Store: s, At: None}) > 3 {
				some++
			}
			for at, l := range r.Body {
				if l.Kind == api.LAtom && len(l.Args) == 2 {
					checkMost(t, Question{Rule: r, Table: table(n), Store: s, At: at, Delta: pairs(source, n, 3)})
				}
			}
		}
	}
	if some < 300 {
		t.Errorf("the sets have too few rows: %d", some)
	}
}

// Where few rows are enough, rules of very many rows end soon; and so do those where one way is as good as many.
func TestEndsSoon(t *testing.T) {
	s := store{"n": numbers(1000), "f": relation.New(4), "one": numbers(1)}
	for i := range 1000 {
		s["f"].Add(relation.Row{i + 1, i + 1, i + 1, i + 1})
	}
	for _, c := range []struct {
		text string
		want int
	}{
		{"p(A, B, C, D) :- n(A), n(B), n(C), n(D).", 500},
		{"p(A, B, C, D) :- n(A), n(B), n(C), n(D), !f(A, B, C, D).", 500},
		{"p(A, B, C, D) :- n(A), n(B), n(C), n(D), !f(A, B, C, D), A < B.", 500},
		{"p(A, B, C, D) :- n(A), n(B), n(C), n(D), A < B, C < D.", 500},
		{"p(A) :- n(A), n(B), n(C), n(D), !f(A, B, C, D).", 500},
		{"p :- n(A), n(B), n(C), n(D), !f(A, B, C, D), !f(D, C, B, A).", 1},
		{"p(A) :- one(A), n(B), n(C), n(D), !f(A, B, C, D).", 1},
		{"p(A, B, C, D) :- n(A), n(B), n(C), n(D), n(E), E < E.", 0},
		{"p(A, B, C, D) :- n(A), n(B), n(C), n(D), none(D).", 0},
	} {
		if got := Rows(Question{Rule: read(t, c.text), Table: table(1000), Store: s, At: None, Most: 500}); len(got) != c.want {
			t.Errorf("%s: %d rows; want %d", c.text, len(got), c.want)
		}
	}
}

// The rows hang on the question alone, also where they are only some of all.
func TestSameAgain(t *testing.T) {
	s := store{"n": numbers(40), "e": pairs(rand.New(rand.NewSource(2)), 40, 300)}
	for _, text := range []string{"p(X, Y) :- n(X), n(Y).", "p(X, Z) :- e(X, Y), e(Y, Z), n(Z).", "p(X, Y, Z) :- e(X, Y), n(Z)."} {
		q := Question{Rule: read(t, text), Table: table(40), Store: s, At: None, Most: 50}
		want := fmt.Sprint(Rows(q))
		for range 20 {
			if got := fmt.Sprint(Rows(q)); got != want {
				t.Fatalf("%s: %s; want %s, as before", text, got, want)
			}
		}
	}
}
