package relation

import (
	"math"
	"slices"
	"testing"

	"delphi/api"
)

// odd are numbers of any kind.
var odd = []int{math.MinInt, math.MinInt + 1, -7, -1, 0, 1, 7, math.MaxInt - 1, math.MaxInt}

func sameRows(a, b []Row) bool {
	return slices.EqualFunc(a, b, func(x, y Row) bool { return slices.Equal(x, y) })
}

// setOf adds the rows, each of which must be new.
func setOf(t *testing.T, width int, rows ...Row) *Set {
	t.Helper()
	s := New(width)
	if s == nil {
		t.Fatalf("P11.1: New(%d): nil", width)
	}
	for _, r := range rows {
		if !s.Add(r) {
			t.Errorf("P11.1: Add(%v) of a new row: false", r)
		}
	}
	return s
}

// checkSet holds all that can be asked without a row, and Has of the rows, against the rows (which rise).
func checkSet(t *testing.T, s *Set, want ...Row) {
	t.Helper()
	if got := s.All(); !sameRows(got, want) {
		t.Errorf("P11.1: All: %v; want %v", got, want)
	}
	if got := s.Len(); got != len(want) {
		t.Errorf("P11.1: Len: %d; want %d", got, len(want))
	}
	for _, r := range want {
		if !s.Has(r) {
			t.Errorf("P11.1: Has(%v): false", r)
		}
	}
	checkPages(t, s)
}

// checkPages looks at what the calls lean on: pages that rise, of which none is empty or too long.
func checkPages(t *testing.T, s *Set) {
	t.Helper()
	var last *key
	for i, page := range s.pages {
		if len(page) == 0 || len(page) > pageSize {
			t.Fatalf("page %d of %d has %d rows", i, len(s.pages), len(page))
		}
		for k := range page {
			if last != nil && compare(*last, page[k]) >= 0 {
				t.Fatalf("page %d, place %d: %v behind %v", i, k, page[k], *last)
			}
			last = &page[k]
		}
	}
}

func checkMatch(t *testing.T, s *Set, r Row, want ...Row) {
	t.Helper()
	if got := s.Match(r); !sameRows(got, want) {
		t.Errorf("P11.1: Match(%v): %v; want %v", r, got, want)
	}
}

// checkRefused asks for a row of another width: nothing goes, nothing changes.
func checkRefused(t *testing.T, s *Set, r Row) {
	t.Helper()
	before := s.All()
	if s.Has(r) || s.Add(r) || s.Has(r) || s.Remove(r) || len(s.Match(r)) != 0 {
		t.Errorf("P11.1: a row of another width, %v, goes", r)
	}
	checkSet(t, s, before...)
}

func TestNewWidths(t *testing.T) {
	for width := range api.MaxArity + 1 {
		s := setOf(t, width)
		checkSet(t, s)
		row := Row{1, 2, 3, 4}[:width]
		if !s.Add(row) {
			t.Errorf("P11.1: New(%d): no row goes in", width)
		}
		checkSet(t, s, row)
	}
	for _, width := range []int{-1, -2, -4, math.MinInt, 5, 6, 8, 1 << 32, math.MaxInt} {
		if New(width) != nil {
			t.Errorf("P11.1: New(%d): not nil", width)
		}
	}
}

func TestNewIsNew(t *testing.T) {
	a, b := setOf(t, 1), setOf(t, 1)
	a.Add(Row{1})
	checkSet(t, a, Row{1})
	checkSet(t, b)
}

func TestAdd(t *testing.T) {
	s := setOf(t, 2, Row{1, 2})
	if s.Add(Row{1, 2}) || s.Add(Row{1, 2}) {
		t.Error("P11.1: Add of a row that is there: true")
	}
	checkSet(t, s, Row{1, 2})
	for _, r := range []Row{{2, 1}, {1, 3}, {1, 1}, {2, 2}} {
		if s.Has(r) {
			t.Errorf("P11.1: Has(%v) ahead of Add: true", r)
		}
		if !s.Add(r) || s.Add(r) {
			t.Errorf("P11.1: Add(%v)", r)
		}
	}
	checkSet(t, s, Row{1, 1}, Row{1, 2}, Row{1, 3}, Row{2, 1}, Row{2, 2})
}

func TestRemove(t *testing.T) {
	s := setOf(t, 2)
	if s.Remove(Row{1, 2}) {
		t.Error("P11.1: Remove of an empty set: true")
	}
	s = setOf(t, 2, Row{1, 2}, Row{3, 4}, Row{1, 4})
	for _, r := range []Row{{2, 1}, {3, 2}, {0, 0}, {1, 0}, {4, 5}, {-1, -2}} {
		if s.Remove(r) {
			t.Errorf("P11.1: Remove(%v), which is not there: true", r)
		}
	}
	checkSet(t, s, Row{1, 2}, Row{1, 4}, Row{3, 4})
	if !s.Remove(Row{1, 4}) || s.Has(Row{1, 4}) || s.Remove(Row{1, 4}) {
		t.Error("P11.1: Remove of a row that is there")
	}
	checkSet(t, s, Row{1, 2}, Row{3, 4})
	if !s.Add(Row{1, 4}) || !s.Has(Row{1, 4}) {
		t.Error("P11.1: Add of a row that was removed")
	}
	for _, r := range []Row{{3, 4}, {1, 2}, {1, 4}} {
		if !s.Remove(r) || s.Has(r) {
			t.Errorf("P11.1: Remove(%v)", r)
		}
	}
	checkSet(t, s)
	if !s.Add(Row{5, 6}) {
		t.Error("P11.1: Add to a set that became empty")
	}
	checkSet(t, s, Row{5, 6})
}

func TestHas(t *testing.T) {
	s := setOf(t, 2, Row{1, 2}, Row{3, 4})
	for _, r := range []Row{{1, 4}, {3, 2}, {2, 1}, {0, 0}, {1, 0}, {0, 2}, {1, -1}, {4, 4}} {
		if s.Has(r) {
			t.Errorf("P11.1: Has(%v): true", r)
		}
	}
	checkSet(t, s, Row{1, 2}, Row{3, 4})
}

// Rows of another width: shorter, longer, and such as would be a row of the set if zeros were laid behind or cut off.
func TestOtherWidths(t *testing.T) {
	for width := range api.MaxArity + 1 {
		s := setOf(t, width, Row{1, 2, 3, 4}[:width])
		s.Add(make(Row, width))
		for n := range 9 {
			if n == width {
				continue
			}
			checkRefused(t, s, make(Row, n))
			checkRefused(t, s, Row{1, 2, 3, 4, 5, 6, 7, 8}[:n])
		}
		checkRefused(t, s, make(Row, 100000))
		if width > 0 {
			checkRefused(t, s, nil)
		}
	}
	s := setOf(t, 2, Row{1, 0})
	checkRefused(t, s, Row{1})
	checkRefused(t, s, Row{1, 0, 0})
	checkRefused(t, setOf(t, 4, Row{1, 0, 0, 0}), Row{1, 0, 0, 0, 0})
}

func TestNumbersOfAnyKind(t *testing.T) {
	s := setOf(t, 1)
	var want []Row
	for _, n := range odd {
		want = append(want, Row{n})
	}
	for _, i := range []int{4, 8, 0, 2, 6, 1, 7, 3, 5} {
		if s.Has(want[i]) || !s.Add(want[i]) || s.Add(want[i]) || !s.Has(want[i]) {
			t.Errorf("P11.1: the number %d", odd[i])
		}
	}
	checkSet(t, s, want...)
	for i, n := range odd {
		if !s.Remove(Row{n}) || s.Remove(Row{n}) || s.Has(Row{n}) || s.Len() != len(odd)-i-1 {
			t.Errorf("P11.1: Remove of the number %d", n)
		}
	}
	checkSet(t, s)
}

func TestNumbersOfAnyKindSideBySide(t *testing.T) {
	for width := 2; width <= 3; width++ {
		want := []Row{{}}
		for range width {
			var longer []Row
			for _, r := range want {
				for _, n := range odd {
					longer = append(longer, append(slices.Clone(r), n))
				}
			}
			want = longer
		}
		backward := slices.Clone(want)
		slices.Reverse(backward)
		checkSet(t, setOf(t, width, backward...), want...)
		checkSet(t, setOf(t, width, want...), want...)
	}
}

func TestNoNumbers(t *testing.T) {
	for _, r := range []Row{nil, {}, make(Row, 0, 7)} {
		for _, other := range []Row{nil, {}} {
			s := setOf(t, 0)
			if s.Has(r) || s.Remove(r) || len(s.Match(r)) != 0 {
				t.Error("P11.1: an empty set of width 0")
			}
			if !s.Add(r) || s.Add(other) || s.Add(r) || !s.Has(other) {
				t.Error("P11.1: Add of the row without numbers")
			}
			checkSet(t, s, Row{})
			checkMatch(t, s, r, Row{})
			if !s.Remove(other) || s.Remove(r) || s.Has(r) {
				t.Error("P11.1: Remove of the row without numbers")
			}
			checkSet(t, s)
		}
	}
}

// The rows rise by their numbers, not by the texts of these, whatever the order in which they came.
func TestAllRises(t *testing.T) {
	want := []Row{{-10, 5}, {-9, 100}, {-1, 0}, {0, -2}, {0, 0}, {0, 1}, {1, 9}, {1, 10}, {2, -3}, {9, 1}, {10, 0}, {10, 2}, {100, 1}}
	rows := slices.Clone(want)
	for range want {
		rows = append(rows[1:], rows[0])
		checkSet(t, setOf(t, 2, rows...), want...)
		slices.Reverse(rows)
		checkSet(t, setOf(t, 2, rows...), want...)
	}
	wide := []Row{{1, 1, 1, 1}, {1, 1, 1, 2}, {1, 1, 2, 0}, {1, 2, 0, 0}, {1, 2, 0, 9}, {2, 0, 0, 0}}
	slices.Reverse(wide)
	s := setOf(t, 4, wide...)
	slices.Reverse(wide)
	checkSet(t, s, wide...)
}

func TestMatch(t *testing.T) {
	s := setOf(t, 2, Row{3, 1}, Row{1, 10}, Row{2, 9}, Row{1, 9}, Row{3, 9}, Row{1, 1})
	checkMatch(t, s, Row{1, 0}, Row{1, 1}, Row{1, 9}, Row{1, 10})
	checkMatch(t, s, Row{2, 0}, Row{2, 9})
	checkMatch(t, s, Row{3, 0}, Row{3, 1}, Row{3, 9})
	checkMatch(t, s, Row{0, 9}, Row{1, 9}, Row{2, 9}, Row{3, 9})
	checkMatch(t, s, Row{0, 10}, Row{1, 10})
	checkMatch(t, s, Row{1, 9}, Row{1, 9})
	checkMatch(t, s, Row{3, 1}, Row{3, 1})
	checkMatch(t, s, Row{0, 0}, s.All()...)
}

func TestMatchNone(t *testing.T) {
	s := setOf(t, 2, Row{3, 1}, Row{1, 10}, Row{1, 9})
	for _, r := range []Row{{2, 0}, {4, 0}, {0, 2}, {0, 3}, {0, 11}, {1, 1}, {3, 9}, {2, 9}, {10, 1}, {math.MaxInt, 0}, {0, math.MaxInt}, {math.MaxInt, math.MaxInt}} {
		checkMatch(t, s, r)
	}
	for width := range api.MaxArity + 1 {
		empty := setOf(t, width)
		checkMatch(t, empty, make(Row, width))
		checkMatch(t, empty, Row{1, 2, 3, 4}[:width])
	}
}

// Numbers that are not above 0 ask for nothing, though rows may have them.
func TestMatchNumbersThatAskForNothing(t *testing.T) {
	s := setOf(t, 2, Row{-1, 5}, Row{0, 5}, Row{1, 5}, Row{1, 0}, Row{1, -1}, Row{-1, -1}, Row{0, 0}, Row{math.MinInt, math.MinInt}, Row{math.MaxInt, math.MinInt})
	for _, n := range []int{0, -1, -2, -5, math.MinInt, math.MinInt + 1} {
		checkMatch(t, s, Row{n, 5}, Row{-1, 5}, Row{0, 5}, Row{1, 5})
		checkMatch(t, s, Row{1, n}, Row{1, -1}, Row{1, 0}, Row{1, 5})
		checkMatch(t, s, Row{math.MaxInt, n}, Row{math.MaxInt, math.MinInt})
		checkMatch(t, s, Row{2, n})
		for _, m := range []int{0, -1, math.MinInt} {
			checkMatch(t, s, Row{n, m}, s.All()...)
		}
	}
}

// All sixteen ways to ask for some of four numbers.
func TestMatchEachWay(t *testing.T) {
	var rows []Row
	for i := range 81 {
		rows = append(rows, Row{i/27 + 1, i/9%3 + 1, i/3%3 + 1, i%3 + 1})
	}
	s := setOf(t, 4, rows...)
	for ways := range 16 {
		asked := Row{2, 3, 1, 2}
		for i := range asked {
			if ways>>i&1 == 0 {
				asked[i] = -i
			}
		}
		var want []Row
		for _, r := range rows {
			fits := true
			for i, n := range asked {
				fits = fits && (n <= 0 || r[i] == n)
			}
			if fits {
				want = append(want, r)
			}
		}
		checkMatch(t, s, asked, want...)
	}
}

func TestMatchBehindRemove(t *testing.T) {
	s := setOf(t, 2, Row{1, 2}, Row{1, 3}, Row{2, 3})
	s.Remove(Row{1, 3})
	checkMatch(t, s, Row{1, 0}, Row{1, 2})
	checkMatch(t, s, Row{0, 3}, Row{2, 3})
	checkMatch(t, s, Row{1, 3})
	s.Remove(Row{1, 2})
	checkMatch(t, s, Row{1, 0})
}

func TestCopy(t *testing.T) {
	for width := range api.MaxArity + 1 {
		c := setOf(t, width).Copy()
		if c == nil {
			t.Fatalf("P11.1: Copy of an empty set of width %d: nil", width)
		}
		checkSet(t, c)
		checkRefused(t, c, make(Row, width+1))
		if !c.Add(make(Row, width)) {
			t.Errorf("P11.1: Copy of an empty set of width %d: no row goes in", width)
		}
	}
	s := setOf(t, 2, Row{1, 2}, Row{3, 4}, Row{5, 6})
	c := s.Copy()
	checkSet(t, c, Row{1, 2}, Row{3, 4}, Row{5, 6})
	checkRefused(t, c, Row{1})
	if !c.Add(Row{2, 2}) || !c.Remove(Row{5, 6}) || !s.Add(Row{4, 4}) || !s.Remove(Row{1, 2}) {
		t.Error("P11.1: Add and Remove of a copy and of its set")
	}
	checkSet(t, c, Row{1, 2}, Row{2, 2}, Row{3, 4})
	checkSet(t, s, Row{3, 4}, Row{4, 4}, Row{5, 6})
	if !s.Add(Row{2, 2}) || !c.Add(Row{4, 4}) || s.Has(Row{1, 2}) || c.Has(Row{5, 6}) {
		t.Error("P11.1: a copy and its set know of each other")
	}
}

// Behind Copy there may be spare room: neither grows into the other's.
func TestCopyHasItsOwnRoom(t *testing.T) {
	for n := range 40 {
		s := setOf(t, 1)
		for i := range n {
			s.Add(Row{2 * i})
		}
		c := s.Copy()
		d := c.Copy()
		s.Add(Row{1000})
		c.Add(Row{2000})
		d.Add(Row{-1})
		for i, set := range []*Set{s, c, d} {
			if set.Len() != n+1 || set.Has(Row{1000}) != (i == 0) || set.Has(Row{2000}) != (i == 1) || set.Has(Row{-1}) != (i == 2) {
				t.Errorf("P11.1: Copy of %d rows: %v", n, set.All())
			}
		}
	}
}

// What is handed in, its spare room too, is neither changed nor kept.
func TestRowsHandedIn(t *testing.T) {
	room := Row{3, 1, 77, 78, 79}
	r := room[:2]
	s := setOf(t, 2, r, Row{1, 5})
	calls := []func(Row){
		func(r Row) { s.Add(r) }, func(r Row) { s.Has(r) }, func(r Row) { s.Match(r) },
		func(r Row) { s.Remove(r) }, func(r Row) { s.Match(r) }, func(r Row) { s.Add(r) },
	}
	for i, call := range calls {
		for _, given := range []Row{r, room, room[:1], room[:0]} {
			call(given)
			if !slices.Equal(room, Row{3, 1, 77, 78, 79}) {
				t.Errorf("P0.3: call %d made the row %v", i, room)
			}
		}
	}
	s.Add(r)
	r[0], r[1] = 9, 8
	checkSet(t, s, Row{1, 5}, Row{3, 1})
	if s.Has(r) || s.Remove(r) || !s.Has(Row{3, 1}) {
		t.Error("P0.3: a row was kept")
	}
}

func TestMatchKeepsNothing(t *testing.T) {
	s := setOf(t, 2, Row{3, 1}, Row{1, 5})
	asked := Row{3, 1}
	rows := s.Match(asked)
	asked[0], asked[1] = 1, 5
	if !sameRows(rows, []Row{{3, 1}}) {
		t.Errorf("P0.3: writing into what was asked made the answer %v", rows)
	}
	rows[0][0] = 44
	if !slices.Equal(asked, Row{1, 5}) {
		t.Errorf("P0.3: writing into the answer made what was asked %v", asked)
	}
}

// spoil writes into all that an answer holds, with its spare room.
func spoil(rows []Row) {
	rows = rows[:cap(rows)]
	for i, r := range rows {
		r = r[:cap(r)]
		for k := range r {
			r[k] = -99
		}
		rows[i] = append(r, -98)
	}
}

func TestAnswersAreNew(t *testing.T) {
	want := []Row{{1, 5, 2}, {1, 6, 1}, {3, 1, 4}, {3, 5, 5}}
	for _, ask := range []func(*Set) []Row{
		(*Set).All,
		func(s *Set) []Row { return s.Match(Row{0, 0, 0}) },
		func(s *Set) []Row { return s.Match(Row{1, 0, 0}) },
		func(s *Set) []Row { return s.Match(Row{0, 5, -1}) },
		func(s *Set) []Row { return s.Match(Row{3, 1, 4}) },
	} {
		s := setOf(t, 3, want...)
		c := s.Copy()
		first, second := ask(s), ask(s)
		other := slices.Clone(second)
		for i, r := range other {
			other[i] = slices.Clone(r)
		}
		spoil(first)
		if !sameRows(second, other) {
			t.Errorf("P0.3: writing into one answer made another %v; want %v", second, other)
		}
		checkSet(t, s, want...)
		checkSet(t, c, want...)
		s.Add(Row{1, 5, 1})
		s.Remove(Row{3, 5, 5})
		if !sameRows(second, other) {
			t.Errorf("P0.3: adding to the set made an answer %v; want %v", second, other)
		}
	}
}

// The rows of one answer share no room, nor do they with the answer's next one.
func TestRowsAreApart(t *testing.T) {
	want := []Row{{1, 2}, {3, 4}, {5, 6}, {7, 8}}
	s := setOf(t, 2, want...)
	for _, rows := range [][]Row{s.All(), s.Match(Row{0, 0})} {
		for i := range rows {
			_ = append(rows[i], -1, -2, -3)
		}
		if !sameRows(rows, want) {
			t.Errorf("P0.3: adding to one row made the answer %v", rows)
		}
		rows[1][0], rows[1][1] = 70, 80
		if !sameRows(rows, []Row{{1, 2}, {70, 80}, {5, 6}, {7, 8}}) {
			t.Errorf("P0.3: writing into one row made the answer %v", rows)
		}
	}
}

func TestNil(t *testing.T) {
	for _, none := range []*Set{nil, New(-1), New(5)} {
		for n := range 6 {
			for _, r := range []Row{make(Row, n), Row{1, 2, 3, 4, 5}[:n], nil} {
				if none.Add(r) || none.Remove(r) || none.Has(r) || len(none.Match(r)) != 0 {
					t.Errorf("P11.1: a nil set and the row %v", r)
				}
			}
		}
		if none.Len() != 0 || len(none.All()) != 0 || none.Copy() != nil {
			t.Error("P11.1: a nil set")
		}
	}
}

// What a Set is that New did not make the chapter doesn't say; it is no reason to panic.
func TestZeroSet(t *testing.T) {
	var s Set
	checkRefused(t, &s, Row{1})
	checkSet(t, s.Copy())
	if !s.Add(nil) {
		t.Error("P0.1: a zero Set")
	}
	checkSet(t, &s, Row{})
}
