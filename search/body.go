package search

import (
	"iter"

	"delphi/api"
	"delphi/relation"
	"delphi/value"
)

// body is a rule's, in its plan's order: places are those of this order.
type body struct {
	literals []api.Literal
	sets     []*relation.Set // what the atoms, negated or not, are asked of
	table    *value.Table
	last     map[string]int // the last place that needs the variable; the head's stands behind all
}

func newBody(r api.Rule, order []int, t *value.Table) *body {
	b := &body{table: t, sets: make([]*relation.Set, len(order)), last: make(map[string]int)}
	for place, from := range order {
		l := r.Body[from]
		b.literals = append(b.literals, l)
		b.need(l, place)
	}
	b.need(r.Head, len(order))
	return b
}

func (b *body) need(l api.Literal, place int) {
	for name := range variables(l.Args) {
		b.last[name] = place
	}
}

// variables goes through the names of the terms' variables.
func variables(terms []api.Term) iter.Seq[string] {
	return func(yield func(string) bool) {
		for _, t := range terms {
			if t.Kind == api.TVar && !yield(t.Name) {
				return
			}
		}
	}
}

// ask gets the sets. The atom that is asked of Delta, if there is one, is the plan's first.
func (b *body) ask(q Question) {
	for place, l := range b.literals {
		if q.At != None && place == 0 {
			b.sets[place] = fitting(l, q.Delta)
		} else if hasPredicate(l.Kind) {
			b.sets[place] = fitting(l, setOf(q.Store, l.Name))
		}
	}
}

func hasPredicate(kind int) bool { return kind == api.LAtom || kind == api.LNot }

// lacks says whether an atom has no rows at all: then nothing has to be gone through ahead of it.
func (b *body) lacks() bool {
	for place, l := range b.literals {
		if l.Kind == api.LAtom && b.sets[place].Len() == 0 {
			return true
		}
	}
	return false
}

// parts gives the literals' places in groups that share no variable. They are gone through one by one, as every binding of one goes with every one of the others.
func (b *body) parts() [][]int {
	g := newGroups(len(b.literals))
	seen := make(map[string]int)
	for place, l := range b.literals {
		for name := range variables(l.Args) {
			if elder, ok := seen[name]; ok {
				g.unite(elder, place)
			}
			seen[name] = place
		}
	}
	return g.lists()
}

// stages gives those of the literals at these places.
func (b *body) stages(places []int) []stage {
	var list []stage
	var vars []string
	for len(places) > 0 {
		n := b.stageEnd(places)
		s := b.stage(vars, places[:n])
		list = append(list, s)
		vars, places = s.vars, places[n:]
	}
	return list
}

// stageEnd tells how many literals are gone through at once: up to the next atom, as those between only test what stands there.
func (b *body) stageEnd(places []int) int {
	n := 1
	for n < len(places) && b.literals[places[n]].Kind != api.LAtom {
		n++
	}
	return n
}
