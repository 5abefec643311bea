package search

import (
	"delphi/api"
	"delphi/relation"
)

// few bindings ask the set one by one; ahead of the next one all its rows are laid out once.
const few = 16

// key holds what is asked of a row, each number at its own place.
type key [api.MaxArity]int

// need is a number that a row must have at a place.
type need struct {
	at   int
	from source
}

// atom finds the rows of a set that go with a binding, and tells what they bind.
type atom struct {
	set   *relation.Set
	width int
	needs []need
	twins [][2]int // places with the same new variable
	fresh []int    // places whose variables are needed behind the atom
	asks  int      // how many bindings asked, as far as few
	whole map[key][][]int
}

func (b *body) atom(place int, c *columns) *atom {
	l := b.literals[place]
	a := &atom{set: b.sets[place], width: len(l.Args)}
	own := make(map[string]int)
	for i, term := range l.Args {
		if _, bound := c.at[term.Name]; bound || term.Kind != api.TVar {
			a.needs = append(a.needs, need{at: i, from: b.source(term, c)})
		} else if first, twice := own[term.Name]; twice {
			a.twins = append(a.twins, [2]int{first, i})
		} else {
			own[term.Name] = i
			a.fresh = append(a.fresh, i)
		}
	}
	a.fresh = b.needed(a.fresh, place)
	for _, i := range a.fresh {
		c.add(l.Args[i].Name)
	}
	return a
}

// needed gives those of the literal's terms whose variables are needed behind it.
func (b *body) needed(terms []int, place int) []int {
	var left []int
	for _, i := range terms {
		if b.last[b.literals[place].Args[i].Name] > place {
			left = append(left, i)
		}
	}
	return left
}

// tails tells what a binding is lengthened by, each way once. Without an atom that is nothing, in one way.
func (a *atom) tails(binding []int) [][]int {
	if a == nil {
		return [][]int{nil}
	}
	if a.asks < few {
		a.asks++
		return a.index(a.asked(binding))[a.keyOf(binding)]
	}
	if a.whole == nil {
		a.whole = a.index(a.constants())
	}
	return a.whole[a.keyOf(binding)]
}

// asked gives the row that goes with a binding. The set takes its numbers below 1 for no numbers: what it tells still has to be held against them.
func (a *atom) asked(binding []int) relation.Row {
	row := make(relation.Row, a.width)
	for _, n := range a.needs {
		row[n.at] = n.from.number(binding)
	}
	return row
}

// constants gives the row that goes with any binding.
func (a *atom) constants() relation.Row {
	row := make(relation.Row, a.width)
	for _, n := range a.needs {
		if n.from.column == None {
			row[n.at] = n.from.constant
		}
	}
	return row
}

func (a *atom) keyOf(binding []int) key {
	var k key
	for _, n := range a.needs {
		k[n.at] = n.from.number(binding)
	}
	return k
}

// index lays out what the set's rows bind, by what they need.
func (a *atom) index(asked relation.Row) map[key][][]int {
	index := make(map[key][][]int)
	seen := make(map[key]struct{})
	for _, row := range a.set.Match(asked) {
		if !a.agrees(row) {
			continue
		}
		needs, whole := a.keysOf(row)
		if _, ok := seen[whole]; !ok {
			seen[whole] = struct{}{}
			index[needs] = append(index[needs], pick(row, a.fresh))
		}
	}
	return index
}

func (a *atom) agrees(row relation.Row) bool {
	for _, t := range a.twins {
		if row[t[0]] != row[t[1]] {
			return false
		}
	}
	return true
}

// keysOf gives what the row needs, and that with what it binds.
func (a *atom) keysOf(row relation.Row) (needs, whole key) {
	for _, n := range a.needs {
		needs[n.at] = row[n.at]
	}
	whole = needs
	for _, i := range a.fresh {
		whole[i] = row[i]
	}
	return needs, whole
}

func pick(row []int, places []int) []int {
	picked := make([]int, len(places))
	for i, place := range places {
		picked[i] = row[place]
	}
	return picked
}
