package join

import (
	"maps"
	"math"
	"math/rand"
	"slices"
	"testing"

	"delphi/api"
	"delphi/relation"
	"delphi/syntax"
	"delphi/value"
)

// world is what a rule is asked of in a model: a plainer thing than the program's, which tries every number for every variable.
type world struct {
	table *value.Table
	sets  map[string][]relation.Row
	at    int
	delta []relation.Row
	all   []int // the numbers that stand in some row
}

func newWorld(x *value.Table, s store, at int, delta *relation.Set) *world {
	w := &world{table: x, sets: map[string][]relation.Row{}, at: at, delta: delta.All()}
	for name, set := range s {
		w.sets[name] = set.All()
	}
	for _, rows := range w.sets {
		w.all = append(w.all, slices.Concat(rows...)...)
	}
	w.all = append(w.all, slices.Concat(w.delta...)...)
	slices.Sort(w.all)
	w.all = slices.Compact(w.all)
	return w
}

// rowUnder gives the literal's row with the variables' numbers.
func (w *world) rowUnder(l api.Literal, row map[string]int) relation.Row {
	r := make(relation.Row, len(l.Args))
	for i, term := range l.Args {
		if n, ok := row[term.Name]; ok && term.Kind == api.TVar {
			r[i] = n
		} else {
			r[i] = w.table.Id(term)
		}
	}
	return r
}

func has(rows []relation.Row, r relation.Row) bool {
	return slices.ContainsFunc(rows, func(x relation.Row) bool { return slices.Equal(x, r) })
}

func (w *world) sideUnder(term api.Term, row map[string]int) api.Term {
	if term.Kind == api.TVar {
		return w.table.Term(row[term.Name])
	}
	return term
}

func (w *world) holds(place int, l api.Literal, row map[string]int) bool {
	switch {
	case l.Kind == api.LAtom && place == w.at:
		return has(w.delta, w.rowUnder(l, row))
	case l.Kind == api.LAtom:
		return has(w.sets[l.Name], w.rowUnder(l, row))
	case l.Kind == api.LNot:
		return !has(w.sets[l.Name], w.rowUnder(l, row))
	case len(l.Args) != 2:
		return false
	}
	a, b := w.sideUnder(l.Args[0], row), w.sideUnder(l.Args[1], row)
	switch l.Kind {
	case api.LEq:
		return a == b
	case api.LNe:
		return a != b
	case api.LLt:
		return value.Less(a, b)
	case api.LLe:
		return !value.Less(b, a)
	}
	return false
}

// namesOf gives the variables of literals of these kinds, each once.
func namesOf(literals []api.Literal, kinds ...int) []string {
	var names []string
	for _, l := range literals {
		for _, term := range l.Args {
			if slices.Contains(kinds, l.Kind) && term.Kind == api.TVar && !slices.Contains(names, term.Name) {
				names = append(names, term.Name)
			}
		}
	}
	return names
}

func safeModel(r api.Rule) bool {
	bound := namesOf(r.Body, api.LAtom)
	asked := append(namesOf(r.Body, api.LNot, api.LEq, api.LNe, api.LLt, api.LLe), namesOf([]api.Literal{r.Head}, r.Head.Kind)...)
	return !slices.ContainsFunc(asked, func(name string) bool { return !slices.Contains(bound, name) })
}

// try gives every number to every one of the names, and gathers the ways in which the body holds.
func (w *world) try(r api.Rule, names []string, row map[string]int, ways *[]map[string]int) {
	if len(names) > 0 {
		for _, n := range w.all {
			row[names[0]] = n
			w.try(r, names[1:], row, ways)
		}
		return
	}
	for place, l := range r.Body {
		if !w.holds(place, l, row) {
			return
		}
	}
	*ways = append(*ways, maps.Clone(row))
}

func (w *world) find(r api.Rule) []relation.Row {
	if !safeModel(r) {
		return nil
	}
	for _, l := range r.Body {
		for _, term := range l.Args {
			w.table.Id(term)
		}
	}
	var ways []map[string]int
	w.try(r, namesOf(r.Body, api.LAtom), map[string]int{}, &ways)
	var found []relation.Row
	for _, row := range ways {
		if h := w.rowUnder(r.Head, row); !has(found, h) {
			found = append(found, h)
		}
	}
	slices.SortFunc(found, func(a, b relation.Row) int { return slices.Compare(a, b) })
	return found
}

type maker struct {
	*rand.Rand
	names  []string
	domain int // numbers in rows go from 1 to this
	odd    int // one of so many things is an odd one
}

func newMaker(r *rand.Rand) maker {
	m := maker{Rand: r, names: []string{"X", "Y", "Z", "W"}[:1+r.Intn(4)], domain: 2 + r.Intn(4), odd: 40}
	if r.Intn(10) == 0 {
		m.odd = 5
	}
	return m
}

// newBroadMaker makes rules with so many bindings that the sets' rows are laid out for them.
func newBroadMaker(r *rand.Rand) maker {
	return maker{Rand: r, names: []string{"X", "Y"}, domain: 20 + r.Intn(20), odd: 60}
}

func (m maker) isOdd() bool { return m.Intn(m.odd) == 0 }

// tables gives two equal ones.
func (m maker) tables() (*value.Table, *value.Table) {
	a, b := value.New(), value.New()
	for range m.domain + m.Intn(3) - 1 {
		c := m.constant()
		a.Id(c)
		b.Id(c)
	}
	return a, b
}

func (m maker) constant() api.Term {
	if m.Intn(2) == 0 {
		return num(int64(m.Intn(m.domain) - 2))
	}
	return word(string(rune('a'+m.Intn(26))) + []string{"", "", "b", "1"}[m.Intn(4)])
}

func (m maker) number() int {
	if m.isOdd() && m.isOdd() {
		return []int{0, -1, -2, math.MinInt, math.MaxInt}[m.Intn(5)]
	}
	return 1 + m.Intn(m.domain)
}

func (m maker) set(width int) *relation.Set {
	if m.isOdd() {
		return nil
	}
	s := relation.New(width)
	// Sets of two are often dense: else few rows would be left behind several atoms.
	most := 3 * m.domain
	if width == 2 {
		most *= m.domain
	}
	for range m.Intn(most) {
		r := make(relation.Row, width)
		for i := range r {
			r[i] = m.number()
		}
		s.Add(r)
	}
	return s
}

// predicates are named by their widths, all but one, which has none of its own.
var predicates = []string{"o", "n", "e", "t", "f"}

func (m maker) store() store {
	s := store{}
	for width, name := range predicates {
		s[name] = m.set(width)
	}
	return s
}

func (m maker) term() api.Term {
	switch {
	case m.isOdd():
		return api.Term{Kind: m.Intn(6) - 1, Name: []string{"X", "a", "B"}[m.Intn(3)], Num: int64(m.Intn(2))}
	case m.Intn(6) == 0:
		return m.constant()
	}
	return vary(m.names[m.Intn(len(m.names))])
}

func (m maker) literal(kind, width int) api.Literal {
	name := predicates[width]
	if m.isOdd() {
		name = []string{"n", "e", "q"}[m.Intn(3)]
	}
	l := literal(kind, name)
	for range width {
		l.Args = append(l.Args, m.term())
	}
	return l
}

func (m maker) rule() api.Rule {
	var r api.Rule
	for range m.Intn(2 + m.Intn(5)) {
		kind, width := api.LAtom, []int{0, 1, 1, 1, 2, 2, 2, 3, 4}[m.Intn(9)]
		switch {
		case m.isOdd() && m.isOdd():
			kind = m.Intn(10) - 1
		case m.Intn(4) == 0:
			kind = api.LNot
		case m.Intn(4) == 0:
			kind, width = api.LEq+m.Intn(4), 2
		}
		r.Body = append(r.Body, m.literal(kind, width))
	}
	r.Head = m.literal(api.LAtom, m.Intn(4))
	// Most variables that nothing binds become constants, as else few rules would be safe.
	bound := namesOf(r.Body, api.LAtom)
	for _, l := range append(slices.Clone(r.Body), r.Head) {
		for i, term := range l.Args {
			if term.Kind == api.TVar && !slices.Contains(bound, term.Name) && !m.isOdd() {
				l.Args[i] = m.constant()
			}
		}
	}
	return r
}

func (m maker) delta(r api.Rule, at int) *relation.Set {
	width := m.Intn(5)
	if !m.isOdd() && at >= 0 && at < len(r.Body) {
		width = len(r.Body[at].Args)
	}
	return m.set(width)
}

func sameTables(a, b *value.Table) bool {
	for id := range max(a.Len(), b.Len()) {
		if a.Term(id+1) != b.Term(id+1) {
			return false
		}
	}
	return true
}

func (m maker) run(t *testing.T) (rows int) {
	t.Helper()
	r, s := m.rule(), m.store()
	at := m.Intn(len(r.Body)+4) - 2
	delta := m.delta(r, at)
	whole := m.Intn(2) == 0
	x, y := m.tables()
	var got, want []relation.Row
	if whole {
		got, want = Rule(r, x, s), newWorld(y, s, -1, nil).find(r)
	} else {
		got = Delta(r, x, s, at, delta)
		if at >= 0 && at < len(r.Body) && r.Body[at].Kind == api.LAtom {
			want = newWorld(y, s, at, delta).find(r)
		}
	}
	if show(got) != show(want) || !sameTables(x, y) {
		t.Fatalf("P13.1: %s, all %t, at %d of %v: %v; want %v; the tables hold %s and %s", syntax.Print(r), whole, at, delta.All(), got, want, constants(x, 1), constants(y, 1))
	}
	return len(want)
}

// checkModel runs many rules, and sees to it that not too few of them have rows, and many.
func checkModel(t *testing.T, next func() maker, n, leastSome, leastMany int) {
	t.Helper()
	some, many := 0, 0
	for range n {
		rows := next().run(t)
		if rows > 0 {
			some++
		}
		if rows > 16 {
			many++
		}
	}
	if some < leastSome || some > n-leastSome || many < leastMany {
		t.Errorf("the rules are too much of one kind: of %d %d have rows, %d many", n, some, many)
	}
}

func TestModel(t *testing.T) {
	source := rand.New(rand.NewSource(13))
	checkModel(t, func() maker { return newMaker(source) }, 20000, 4000, 0)
}

func TestBroadModel(t *testing.T) {
	source := rand.New(rand.NewSource(113))
	checkModel(t, func() maker { return newBroadMaker(source) }, 3000, 600, 100)
}
