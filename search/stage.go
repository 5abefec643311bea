package search

import (
	"delphi/api"
	"delphi/relation"
	"delphi/value"
)

// stage leads from the bindings of some variables to those of others: by an atom, if it begins with one, and by tests behind it.
type stage struct {
	atom  *atom
	tests []test
	vars  []string // those that are still needed behind the stage
	keep  []int    // their columns
	seen  *memory  // the bindings behind the stage that were there; nil: none can come twice
}

// columns are the variables that stand in a stage, and where.
type columns struct {
	names []string
	at    map[string]int
}

func (c *columns) add(name string) {
	c.at[name] = len(c.names)
	c.names = append(c.names, name)
}

// stage makes one of the literals at these places; vars are bound ahead of it.
func (b *body) stage(vars []string, places []int) stage {
	c := columns{at: make(map[string]int)}
	for _, name := range vars {
		c.add(name)
	}
	var s stage
	for _, place := range places {
		if b.literals[place].Kind == api.LAtom {
			s.atom = b.atom(place, &c)
		} else {
			s.tests = append(s.tests, b.test(place, &c))
		}
	}
	end := places[len(places)-1]
	for column, name := range c.names {
		if b.last[name] > end {
			s.vars = append(s.vars, name)
			s.keep = append(s.keep, column)
		}
	}
	// Bindings are different ahead of a stage, and lengthened in different ways: only where a column is dropped may two become the same.
	if len(s.keep) < len(c.names) {
		s.seen = newMemory()
	}
	return s
}

func (s *stage) passes(binding []int) bool {
	for _, t := range s.tests {
		if !t.holds(binding) {
			return false
		}
	}
	return true
}

// test is a literal that binds nothing.
type test interface {
	holds(binding []int) bool
}

func (b *body) test(place int, c *columns) test {
	l := b.literals[place]
	switch {
	case l.Kind == api.LNot:
		return b.absence(place, c)
	case IsComparison(l):
		return comparison{kind: l.Kind, left: sideOf(l.Args[0], c), right: sideOf(l.Args[1], c), table: b.table}
	}
	return never{}
}

// never is a literal that is neither an atom nor a comparison.
type never struct{}

func (never) holds([]int) bool { return false }

// absence is a negated atom.
type absence struct {
	set  *relation.Set
	from []source
}

func (b *body) absence(place int, c *columns) absence {
	a := absence{set: b.sets[place]}
	for _, term := range b.literals[place].Args {
		a.from = append(a.from, b.source(term, c))
	}
	return a
}

func (a absence) holds(binding []int) bool {
	if a.set == nil {
		return true
	}
	row := make(relation.Row, len(a.from))
	for i, s := range a.from {
		row[i] = s.number(binding)
	}
	return !a.set.Has(row)
}

// comparison is one of two sides.
type comparison struct {
	kind        int
	left, right side
	table       *value.Table
}

func (c comparison) holds(binding []int) bool {
	return Compare(c.kind, c.left.term(binding, c.table), c.right.term(binding, c.table))
}

// side is a constant, or the variable of a column.
type side struct {
	column   int
	constant api.Term
}

func sideOf(term api.Term, c *columns) side {
	if term.Kind != api.TVar {
		return side{column: None, constant: term}
	}
	return side{column: c.at[term.Name]}
}

func (s side) term(binding []int, t *value.Table) api.Term {
	if s.column == None {
		return s.constant
	}
	return t.Term(binding[s.column])
}

// source is a constant's number, or a column's.
type source struct {
	column   int
	constant int
}

func (b *body) source(term api.Term, c *columns) source {
	if term.Kind != api.TVar {
		return source{column: None, constant: b.table.Id(term)}
	}
	return source{column: c.at[term.Name]}
}

func (s source) number(binding []int) int {
	if s.column == None {
		return s.constant
	}
	return binding[s.column]
}
