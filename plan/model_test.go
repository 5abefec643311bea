package plan

import (
	"math/rand"
	"slices"
	"testing"

	"delphi/api"
	"delphi/syntax"
)

// variables gives the names of the terms' variables, as often as they stand there.
func variables(terms []api.Term) []string {
	var names []string
	for _, t := range terms {
		if t.Kind == api.TVar {
			names = append(names, t.Name)
		}
	}
	return names
}

func within(names, all []string) bool {
	return !slices.ContainsFunc(names, func(name string) bool { return !slices.Contains(all, name) })
}

// boundTerms counts the constants and the variables that are among the bound ones.
func boundTerms(terms []api.Term, bound []string) int {
	n := 0
	for _, t := range terms {
		if t.Kind == api.TWord || t.Kind == api.TInt || t.Kind == api.TVar && slices.Contains(bound, t.Name) {
			n++
		}
	}
	return n
}

func asks(kind int) bool { return kind >= api.LNot && kind <= api.LLe }

// nextModel goes through all of the body anew for each literal.
func nextModel(body []api.Literal, taken []int, bound []string) int {
	for i, l := range body {
		if !slices.Contains(taken, i) && asks(l.Kind) && within(variables(l.Args), bound) {
			return i
		}
	}
	best, most := -1, -1
	for i, l := range body {
		if n := boundTerms(l.Args, bound); !slices.Contains(taken, i) && l.Kind == api.LAtom && n > most {
			best, most = i, n
		}
	}
	if best >= 0 {
		return best
	}
	for i := range body {
		if !slices.Contains(taken, i) {
			return i
		}
	}
	return -1
}

// safeModel says whether the atoms that are not negated have all variables that the others and the head ask for.
func safeModel(r api.Rule) bool {
	var has []string
	asked := variables(r.Head.Args)
	for _, l := range r.Body {
		if l.Kind == api.LAtom {
			has = append(has, variables(l.Args)...)
		} else if asks(l.Kind) {
			asked = append(asked, variables(l.Args)...)
		}
	}
	return within(asked, has)
}

func makeModel(r api.Rule, first int) (Plan, bool) {
	if first < -1 || first >= len(r.Body) || first >= 0 && r.Body[first].Kind != api.LAtom || !safeModel(r) {
		return Plan{}, false
	}
	var p Plan
	next := first
	if next == -1 {
		next = nextModel(r.Body, nil, nil)
	}
	for next != -1 {
		p.Order = append(p.Order, next)
		if l := r.Body[next]; l.Kind == api.LAtom {
			for _, name := range variables(l.Args) {
				if !slices.Contains(p.Vars, name) {
					p.Vars = append(p.Vars, name)
				}
			}
		}
		next = nextModel(r.Body, p.Order, p.Vars)
	}
	return p, true
}

type maker struct {
	*rand.Rand
	names []string
	plain int // of so many literals all but one are atoms
}

func newMaker(r *rand.Rand) maker {
	all := []string{"X", "Y", "Z", "W", "V", "U", "A", "a"}
	return maker{Rand: r, names: all[:1+r.Intn(len(all))], plain: 1 + r.Intn(4)}
}

func (m maker) term() api.Term {
	switch m.Intn(8) {
	case 0:
		return num(int64(m.Intn(3)))
	case 1:
		return word([]string{"X", "Y", "a"}[m.Intn(3)])
	}
	kind := api.TVar
	if m.Intn(40) == 0 {
		kind = m.Intn(6)
	}
	return api.Term{Kind: kind, Name: m.names[m.Intn(len(m.names))]}
}

func (m maker) literal(kind, width int) api.Literal {
	l := literal(kind, "q")
	for range width {
		l.Args = append(l.Args, m.term())
	}
	return l
}

func (m maker) rule() api.Rule {
	r := rule(m.literal(api.LAtom, m.Intn(3)))
	long := 7
	if m.Intn(4) == 0 {
		long = 25
	}
	for range m.Intn(long) {
		kind, width := api.LAtom, m.Intn(5)
		if m.Intn(m.plain) == 0 {
			kind, width = api.LNot+m.Intn(5), m.Intn(3)
		}
		if m.Intn(30) == 0 {
			kind = m.Intn(9) - 1
		}
		r.Body = append(r.Body, m.literal(kind, width))
	}
	return r
}

func TestModel(t *testing.T) {
	source := rand.New(rand.NewSource(12))
	const n = 40000
	made, asked, turned := 0, 0, 0
	for range n {
		r := newMaker(source).rule()
		for first := -2; first <= len(r.Body); first++ {
			want, wantOK := makeModel(r, first)
			got, ok := Make(r, first)
			if !same(got, want) || ok != wantOK {
				t.Fatalf("P12.1: Make(%s, %d): %v, %t; want %v, %t", syntax.Print(r), first, got, ok, want, wantOK)
			}
			asked++
			if ok {
				made++
			}
			if ok && !slices.IsSorted(got.Order) {
				turned++
			}
		}
	}
	if made < asked/5 || made > asked-asked/5 || turned < made/5 {
		t.Errorf("the rules are too much of one kind: %d of %d have plans, %d another order than the body's", made, asked, turned)
	}
}

// Each place of the body stands in the order once, each variable of its atoms in Vars once, whatever the rule is.
func TestAllPlacesOnce(t *testing.T) {
	source := rand.New(rand.NewSource(112))
	for range 20000 {
		r := newMaker(source).rule()
		p, ok := Make(r, -1)
		if !ok {
			continue
		}
		for i, place := range slices.Sorted(slices.Values(p.Order)) {
			if i != place {
				t.Fatalf("P12.1: Make(%s, -1): the places %v", syntax.Print(r), p.Order)
			}
		}
		var has []string
		for _, l := range r.Body {
			if l.Kind == api.LAtom {
				has = append(has, variables(l.Args)...)
			}
		}
		slices.Sort(has)
		if got := slices.Sorted(slices.Values(p.Vars)); len(p.Order) != len(r.Body) || !slices.Equal(got, slices.Compact(has)) {
			t.Fatalf("P12.1: Make(%s, -1): %v", syntax.Print(r), p)
		}
	}
}
