package ask

import (
	"fmt"
	"math/rand"
	"slices"
	"strings"
	"testing"

	"delphi/api"
	"delphi/incr"
	"delphi/value"
)

// tried answers a question the long way round: every constant is given to every variable, and what comes of it is asked for. The found stand as Facts tells them.
func tried(l *incr.Live, q api.Literal, constants []api.Term) []string {
	found := make(map[string]int)
	var try func(args []api.Term)
	try = func(args []api.Term) {
		at := slices.IndexFunc(args, func(a api.Term) bool { return a.Kind == api.TVar })
		if at < 0 {
			if f := (api.Fact{Name: q.Name, Args: args}); l.Has(f) {
				found[value.Fact(f)]++
			}
			return
		}
		for _, c := range constants {
			given := slices.Clone(args)
			for i, a := range args {
				if a == args[at] {
					given[i] = c
				}
			}
			try(given)
		}
	}
	try(q.Args)
	var rows []string
	for _, f := range l.Facts(q.Name) {
		if text := value.Fact(f); found[text] > 0 {
			rows = append(rows, text)
		}
	}
	return rows
}

// drawnLive has predicates p0 to p4 of the widths 0 to 4, and r, which turns the rows of p2 round.
func drawnLive(t *testing.T, r *rand.Rand, constants []api.Term) *incr.Live {
	t.Helper()
	l, err := incr.New(rules(t, "r(Y, X) :- p2(X, Y). r(X, X) :- p1(X), !p0."), nil)
	if err != api.OK {
		t.Fatal(err)
	}
	for range r.Intn(60) {
		width := r.Intn(5)
		f := api.Fact{Name: fmt.Sprint("p", width)}
		for range width {
			f.Args = append(f.Args, constants[r.Intn(len(constants))])
		}
		if _, err := l.Insert(f); err != api.OK {
			t.Fatalf("Insert(%v): %d", f, err)
		}
	}
	return l
}

func drawnQuestion(r *rand.Rand, constants []api.Term) api.Literal {
	width := r.Intn(5)
	names := []string{fmt.Sprint("p", width), fmt.Sprint("p", width), fmt.Sprint("p", width), "r", "p2", "q"}
	q := atom(names[r.Intn(len(names))])
	for range width {
		if r.Intn(3) == 0 {
			q.Args = append(q.Args, constants[r.Intn(len(constants))])
		} else {
			q.Args = append(q.Args, vary([]string{"X", "Y", "Z", "W"}[r.Intn(4)]))
		}
	}
	return q
}

func TestRowsAgainstAllTries(t *testing.T) {
	constants := []api.Term{num(-3), num(10), num(9), word("a"), word("x")}
	r := rand.New(rand.NewSource(1))
	some := 0
	for range 200 {
		l := drawnLive(t, r, constants)
		for range 50 {
			q := drawnQuestion(r, constants)
			want := tried(l, q, constants)
			some += min(len(want), 1)
			gives(t, l, value.Fact(api.Fact{Name: q.Name, Args: q.Args}), strings.Join(want, "|"))
		}
	}
	if some < 1000 {
		t.Errorf("only %d questions had rows", some)
	}
}
