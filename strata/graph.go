package strata

import "delphi/api"

// need is a defined predicate that stands in a body.
type need struct {
	on      int
	negated bool
}

// graph numbers the defined predicates, from 0 on, and tells of each what the bodies of its rules need.
type graph struct {
	ids   map[string]int
	needs [][]need
}

// graphOf numbers all heads ahead of reading a body, as a predicate may be defined behind its use.
func graphOf(rules []api.Rule) graph {
	g := graph{ids: make(map[string]int)}
	for _, r := range rules {
		if _, ok := g.ids[r.Head.Name]; !ok {
			g.ids[r.Head.Name] = len(g.ids)
		}
	}
	g.needs = make([][]need, len(g.ids))
	for _, r := range rules {
		g.read(g.ids[r.Head.Name], r.Body)
	}
	return g
}

// read takes what a body of the predicate needs; literals that are no atoms, comparisons among them, have no predicate, whatever their Name is.
func (g graph) read(id int, body []api.Literal) {
	for _, l := range body {
		if l.Kind != api.LAtom && l.Kind != api.LNot {
			continue
		}
		if on, ok := g.ids[l.Name]; ok {
			g.needs[id] = append(g.needs[id], need{on: on, negated: l.Kind == api.LNot})
		}
	}
}

// comesBack says whether the predicate needs itself, at once or through others.
func (g graph) comesBack(id int) bool {
	seen := make([]bool, len(g.needs))
	waiting := []int{id}
	for len(waiting) > 0 {
		at := waiting[len(waiting)-1]
		waiting = waiting[:len(waiting)-1]
		for _, n := range g.needs[at] {
			if n.on == id {
				return true
			}
			if !seen[n.on] {
				seen[n.on] = true
				waiting = append(waiting, n.on)
			}
		}
	}
	return false
}
