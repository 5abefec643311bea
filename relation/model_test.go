package relation

import (
	"math"
	"math/rand"
	"slices"
	"testing"

	"delphi/api"
)

// plain is a set as a list of rows in the order in which they came: a plainer thing than the program's.
type plain struct {
	width int
	rows  []Row
}

func (p *plain) at(r Row) int {
	return slices.IndexFunc(p.rows, func(x Row) bool { return slices.Equal(x, r) })
}

func (p *plain) add(r Row) bool {
	if len(r) != p.width || p.at(r) >= 0 {
		return false
	}
	p.rows = append(p.rows, slices.Clone(r))
	return true
}

func (p *plain) remove(r Row) bool {
	at := p.at(r)
	if at < 0 {
		return false
	}
	p.rows = slices.Delete(slices.Clone(p.rows), at, at+1)
	return true
}

func (p *plain) match(r Row) []Row {
	if len(r) != p.width {
		return nil
	}
	var found []Row
	for _, x := range p.rows {
		if agrees(x, r) {
			found = append(found, x)
		}
	}
	slices.SortFunc(found, func(a, b Row) int { return slices.Compare(a, b) })
	return found
}

func agrees(x, asked Row) bool {
	for i, n := range asked {
		if n > 0 && x[i] != n {
			return false
		}
	}
	return true
}

func (p *plain) copied() *plain {
	return &plain{width: p.width, rows: slices.Clone(p.rows)}
}

// pair is a set, and what it should be.
type pair struct {
	set  *Set
	want *plain
}

type maker struct {
	*rand.Rand
	numbers int
	odd     int // one of so many numbers is an odd one
}

func (m maker) number() int {
	if m.Intn(m.odd) == 0 {
		return []int{math.MinInt, math.MaxInt, -1, 0, -2}[m.Intn(5)]
	}
	return 1 + m.Intn(m.numbers)
}

// row draws a row, seldom of another width.
func (m maker) row(width int) Row {
	if m.Intn(30) == 0 {
		width = m.Intn(api.MaxArity + 2)
	}
	r := make(Row, width)
	for i := range r {
		r[i] = m.number()
	}
	return r
}

// asked draws a row for Match: some of its numbers ask for nothing.
func (m maker) asked(width int) Row {
	r := m.row(width)
	for i := range r {
		if m.Intn(2) == 0 {
			r[i] = []int{0, -1, math.MinInt}[m.Intn(3)]
		}
	}
	return r
}

func (m maker) step(t *testing.T, p pair) {
	t.Helper()
	r := m.row(p.want.width)
	switch m.Intn(6) {
	case 0, 1:
		if got, want := p.set.Add(r), p.want.add(r); got != want {
			t.Errorf("P11.1: Add(%v): %t", r, got)
		}
	case 2:
		if got, want := p.set.Remove(r), p.want.remove(r); got != want {
			t.Errorf("P11.1: Remove(%v): %t", r, got)
		}
	case 3:
		if got, want := p.set.Has(r), p.want.at(r) >= 0; got != want {
			t.Errorf("P11.1: Has(%v): %t", r, got)
		}
	default:
		r = m.asked(p.want.width)
		if got, want := p.set.Match(r), p.want.match(r); !sameRows(got, want) {
			t.Errorf("P11.1: Match(%v): %v; want %v", r, got, want)
		}
	}
}

func (m maker) run(t *testing.T, width int) {
	t.Helper()
	pairs := []pair{{New(width), &plain{width: width}}}
	for range 200 {
		p := pairs[m.Intn(len(pairs))]
		if m.Intn(50) == 0 && len(pairs) < 4 {
			pairs = append(pairs, pair{p.set.Copy(), p.want.copied()})
		}
		m.step(t, p)
	}
	for _, p := range pairs {
		checkSet(t, p.set, p.want.match(make(Row, width))...)
	}
}

func TestModel(t *testing.T) {
	source := rand.New(rand.NewSource(11))
	for n := range 1500 {
		m := maker{Rand: source, numbers: 1 + source.Intn(8), odd: 2 + source.Intn(20)}
		m.run(t, n%(api.MaxArity+1))
		if t.Failed() {
			return
		}
	}
}

// orders gives the numbers below n, each once, in several orders.
func orders(n int) map[string][]int {
	rising := make([]int, n)
	for i := range rising {
		rising[i] = i
	}
	falling := slices.Clone(rising)
	slices.Reverse(falling)
	return map[string][]int{"rising": rising, "falling": falling, "mixed": rand.New(rand.NewSource(12)).Perm(n)}
}

// longRow gives row i of those that rise with i.
func longRow(i int) Row { return Row{i/100 - 50, i % 100} }

// Sets of so many rows that they stand on many pages, filled and emptied in several orders.
func TestLong(t *testing.T) {
	const n = 20 * pageSize
	var want []Row
	for i := range n {
		want = append(want, longRow(i))
	}
	for in, added := range orders(n) {
		for out, removed := range orders(n) {
			s := New(2)
			for k, i := range added {
				if s.Has(want[i]) || !s.Add(want[i]) || s.Add(want[i]) || s.Len() != k+1 {
					t.Fatalf("P11.1: Add of the row %d, %s", i, in)
				}
			}
			checkSet(t, s, want...)
			checkLongMatch(t, s, want)
			c := s.Copy()
			for k, i := range removed {
				if !s.Has(want[i]) || !s.Remove(want[i]) || s.Remove(want[i]) || s.Has(want[i]) || s.Len() != n-k-1 {
					t.Fatalf("P11.1: Remove of the row %d, %s behind %s", i, out, in)
				}
				if k == n/2 {
					left := slices.Clone(removed[k+1:])
					slices.Sort(left)
					var rows []Row
					for _, i := range left {
						rows = append(rows, want[i])
					}
					checkSet(t, s, rows...)
				}
			}
			checkSet(t, s)
			checkSet(t, c, want...)
		}
	}
}

func checkLongMatch(t *testing.T, s *Set, want []Row) {
	t.Helper()
	p := plain{width: 2, rows: want}
	for _, r := range []Row{{1, 0}, {0, 1}, {1, 1}, {2, -1}, {-1, 99}, {0, 100}, {1, 100}, {1000, 0}, {0, 0}, {math.MaxInt, 0}} {
		checkMatch(t, s, r, p.match(r)...)
	}
	last := want[len(want)-1]
	checkMatch(t, s, last, last)
	checkMatch(t, s, Row{last[0], 0}, p.match(Row{last[0], 0})...)
}

// Copies of a set of many pages share none of them.
func TestLongCopies(t *testing.T) {
	const n = 5 * pageSize
	s := New(1)
	for i := range n {
		s.Add(Row{2 * i})
	}
	before := s.All()
	c := s.Copy()
	for i := range n {
		c.Add(Row{2*i + 1})
	}
	for i := range n {
		c.Remove(Row{2 * i})
	}
	checkSet(t, s, before...)
	d := s.Copy()
	for i := range n {
		s.Add(Row{2*i - 1})
	}
	checkSet(t, d, before...)
	if c.Len() != n || s.Len() != 2*n || c.Has(Row{0}) || !c.Has(Row{2*n - 1}) || s.Has(Row{2*n - 1}) || !s.Has(Row{-1}) {
		t.Error("P11.1: copies of a long set")
	}
}

// Very many rows go in and out while nobody waits.
func TestVeryLong(t *testing.T) {
	const n = 300000
	s := New(4)
	for i := range n {
		k := i * 7919 % n
		if !s.Add(Row{k % 10, k / 10 % 10, k / 100, -k}) {
			t.Fatalf("P11.1: Add of the row %d", k)
		}
	}
	if s.Len() != n || len(s.All()) != n || len(s.Match(Row{3, 0, 0, 0})) != n/10 || len(s.Match(Row{3, 4, 0, 0})) != n/100 || len(s.Match(Row{0, 0, 5, 0})) != 100 {
		t.Error("P11.1: a set of very many rows")
	}
	for i := range n {
		k := i * 7907 % n
		if !s.Remove(Row{k % 10, k / 10 % 10, k / 100, -k}) {
			t.Fatalf("P11.1: Remove of the row %d", k)
		}
	}
	checkSet(t, s)
}
