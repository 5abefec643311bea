package strata

import (
	"maps"
	"math/rand"
	"slices"
	"testing"

	"delphi/api"
)

func defines(l []api.Rule, name string) bool {
	return slices.ContainsFunc(l, func(r api.Rule) bool { return r.Head.Name == name })
}

// raise lifts each head to what its body asks for, and says whether one rose.
func raise(l []api.Rule, of map[string]int) bool {
	rose := false
	for _, r := range l {
		for _, b := range r.Body {
			least := of[b.Name]
			if b.Kind == api.LNot {
				least++
			}
			if (b.Kind == api.LAtom || b.Kind == api.LNot) && defines(l, b.Name) && of[r.Head.Name] < least {
				of[r.Head.Name] = least
				rose = true
			}
		}
	}
	return rose
}

// ofModel begins with 0 for all, and raises them until nobody rises any more, or somebody is above what so many predicates can need.
func ofModel(l []api.Rule) (map[string]int, api.Errno) {
	of := map[string]int{}
	for _, r := range l {
		of[r.Head.Name] = 0
	}
	for raise(l, of) {
		if slices.Max(slices.Collect(maps.Values(of))) >= len(of) {
			return nil, api.ErrStrata
		}
	}
	return of, api.OK
}

// recursiveModel gathers all that the name leads to, one body further at each turn.
func recursiveModel(l []api.Rule, name string) bool {
	reached := map[string]int{}
	for range len(l) + 1 {
		for _, r := range l {
			if _, ok := reached[r.Head.Name]; !ok && r.Head.Name != name {
				continue
			}
			for _, b := range r.Body {
				if b.Kind == api.LAtom || b.Kind == api.LNot {
					reached[b.Name] = 1
				}
			}
		}
	}
	return reached[name] == 1
}

type maker struct {
	*rand.Rand
	names   []string
	negated int // one of so many literals is negated
	upward  bool
}

func newMaker(r *rand.Rand) maker {
	all := []string{"p", "q", "r", "s", "t", "u", "v", "w", "x", ""}
	return maker{Rand: r, names: all[r.Intn(8):], negated: 1 + r.Intn(6), upward: r.Intn(2) == 0}
}

// rule draws a rule; upward, its body seldom leads back to names ahead of its head's.
func (m maker) rule() api.Rule {
	head := m.Intn(len(m.names))
	r := rule(atom(m.names[head]))
	for range m.Intn(4) {
		low := 0
		if m.upward && m.Intn(12) != 0 {
			low = head
		}
		name := m.names[low+m.Intn(len(m.names)-low)]
		kind := api.LAtom
		if m.Intn(m.negated) == 0 {
			kind = api.LNot
		}
		if m.Intn(8) == 0 {
			kind = m.Intn(9)
		}
		if name == r.Head.Name && kind == api.LNot && m.Intn(3) != 0 {
			kind = api.LAtom
		}
		r.Body = append(r.Body, literal(kind, name))
	}
	return r
}

func TestModel(t *testing.T) {
	source := rand.New(rand.NewSource(10))
	const n = 40000
	fit, back, asked := 0, 0, 0
	heights := map[int]int{}
	for range n {
		m := newMaker(source)
		var l []api.Rule
		for range m.Intn(14) {
			l = append(l, m.rule())
		}
		want, err := ofModel(l)
		if err == api.OK {
			checkOf(t, l, want)
			fit++
			heights[len(orderOf(want))]++
		} else {
			bad(t, l)
		}
		for _, name := range append(m.names, "none") {
			want := defines(l, name) && recursiveModel(l, name)
			if got := Recursive(l, name); got != want {
				t.Errorf("P10.1: Recursive(%s, %q): %t", show(l), name, got)
			}
			asked++
			if want {
				back++
			}
		}
		if t.Failed() {
			return
		}
	}
	if fit < n/5 || fit > n-n/5 || back < asked/10 || back > asked-asked/10 || heights[3] < n/50 || heights[4] < n/200 {
		t.Errorf("the rules are too much of one kind: %d fit, %d of %d come back, heights %v", fit, back, asked, heights)
	}
}
