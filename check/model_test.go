package check

import (
	"maps"
	"math/rand"
	"slices"
	"testing"

	"delphi/api"
)

// stands says whether the variable is a term of an atom of the body that is not negated.
func stands(x api.Term, body []api.Literal) bool {
	return slices.ContainsFunc(body, func(l api.Literal) bool {
		return l.Kind == api.LAtom && slices.Contains(l.Args, x)
	})
}

// safeModel goes through the variables one by one, each with the whole body.
func safeModel(r api.Rule) bool {
	asking := slices.Clone(r.Head.Args)
	for _, l := range r.Body {
		if l.Kind >= api.LNot && l.Kind <= api.LLe {
			asking = append(asking, l.Args...)
		}
	}
	return !slices.ContainsFunc(asking, func(x api.Term) bool { return x.Kind == api.TVar && !stands(x, r.Body) })
}

// aritiesModel gathers all widths of each predicate, and only then asks whether one has two.
func aritiesModel(l []api.Rule, facts []api.Fact) (map[string]int, api.Errno) {
	all := map[string][]int{}
	for _, r := range l {
		all[r.Head.Name] = append(all[r.Head.Name], len(r.Head.Args))
		for _, b := range r.Body {
			if b.Kind == api.LAtom || b.Kind == api.LNot {
				all[b.Name] = append(all[b.Name], len(b.Args))
			}
		}
	}
	for _, f := range facts {
		all[f.Name] = append(all[f.Name], len(f.Args))
	}
	one := map[string]int{}
	for name, widths := range all {
		if slices.Min(widths) != slices.Max(widths) {
			return nil, api.ErrArity
		}
		one[name] = widths[0]
	}
	return one, api.OK
}

type maker struct{ *rand.Rand }

func (m maker) name() string { return []string{"p", "q", "r", "s", "t", "X"}[m.Intn(6)] }

func (m maker) term() api.Term {
	switch m.Intn(5) {
	case 0:
		return num(int64(m.Intn(3)))
	case 1:
		return word([]string{"X", "Y", "a"}[m.Intn(3)])
	}
	return vary([]string{"X", "Y", "Z", "x"}[m.Intn(4)])
}

// terms gives as many terms as the name is wide, seldom another number of them.
func (m maker) terms(name string) []api.Term {
	n := int(name[0]) % 3
	if m.Intn(12) == 0 {
		n = m.Intn(4)
	}
	terms := make([]api.Term, n)
	for i := range terms {
		terms[i] = m.term()
	}
	return terms
}

func (m maker) literal(kind int) api.Literal {
	name := m.name()
	return literal(kind, name, m.terms(name)...)
}

func (m maker) rule() api.Rule {
	r := rule(m.literal(api.LAtom))
	for range m.Intn(6) {
		kind := api.LAtom
		if m.Intn(2) == 0 {
			kind = m.Intn(8)
		}
		r.Body = append(r.Body, m.literal(kind))
	}
	return r
}

func TestModel(t *testing.T) {
	m := maker{rand.New(rand.NewSource(9))}
	var safe, fit int
	const n = 20000
	for range n {
		var l []api.Rule
		for range m.Intn(5) {
			l = append(l, m.rule())
			r := l[len(l)-1]
			want := safeModel(r)
			checkRule(t, want, r)
			if want {
				safe++
			}
		}
		var facts []api.Fact
		for range m.Intn(4) {
			name := m.name()
			facts = append(facts, api.Fact{Name: name, Args: m.terms(name)})
		}
		want, wantErr := aritiesModel(l, facts)
		if got, err := Arities(l, facts); !maps.Equal(got, want) || (got == nil) != (want == nil) || err != wantErr {
			t.Fatalf("P9.1: Arities(%v, %v): %v, %d; want %v, %d", l, facts, got, err, want, wantErr)
		}
		if wantErr == api.OK {
			fit++
		}
		name := m.name()
		if got := Defined(l, name); got != slices.ContainsFunc(l, func(r api.Rule) bool { return r.Head.Name == name }) {
			t.Fatalf("P9.1: Defined(%v, %q): %t", l, name, got)
		}
	}
	if safe < n/5 || safe > 2*n-n/5 || fit < n/5 || fit > n-n/5 {
		t.Errorf("the rules are too much of one kind: %d safe ones, %d times one width", safe, fit)
	}
}
