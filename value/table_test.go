package value

import (
	"math"
	"math/rand"
	"slices"
	"strings"
	"testing"
	"unsafe"

	"delphi/api"
)

// checkTable holds all that a table tells against the constants that came, in their order.
func checkTable(t *testing.T, what string, x *Table, came []api.Term) {
	t.Helper()
	if got := x.Len(); got != len(came) {
		t.Errorf("P6.2: %s: Len %d, want %d", what, got, len(came))
	}
	for i, c := range came {
		if got := x.Term(i + 1); got != c {
			t.Errorf("P6.2: %s: Term(%d): %v, want %v", what, i+1, got, c)
		}
	}
	n := len(came)
	for _, id := range []int{math.MinInt, -n - 1, -n, -1, 0, n + 1, n + 2, 2*n + 2, math.MaxInt32 + 2, math.MaxInt} {
		if got := x.Term(id); got != (api.Term{}) {
			t.Errorf("P6.2: %s: Term(%d): %v, want a zero one", what, id, got)
		}
	}
}

func checkID(t *testing.T, x *Table, c api.Term, want int) {
	t.Helper()
	if got := x.Id(c); got != want {
		t.Errorf("P6.2: Id(%v): %d, want %d", c, got, want)
	}
}

func TestIdNumbersInTheOrderOfComing(t *testing.T) {
	x := New()
	checkTable(t, "a new table", x, nil)
	var came []api.Term
	// From the greatest down: the numbers follow the coming, not the worth.
	for i, c := range slices.Backward(rising) {
		came = append(came, c)
		checkID(t, x, c, len(rising)-i)
		checkTable(t, "a new constant", x, came)
		checkID(t, x, c, len(rising)-i)
		checkID(t, x, came[0], 1)
		checkTable(t, "constants that came before", x, came)
	}
	for i, c := range came {
		checkID(t, x, c, i+1)
	}
	checkTable(t, "all once more", x, came)
}

func TestIdOfWhatMayNotBeTakesNoNumber(t *testing.T) {
	x := New()
	for _, c := range noConstants {
		checkID(t, x, c.term, 0)
		checkTable(t, c.name, x, nil)
	}
	checkID(t, x, word("b"), 1)
	for _, c := range noConstants {
		checkID(t, x, c.term, 0)
		checkTable(t, c.name, x, []api.Term{word("b")})
	}
	checkID(t, x, num(1), 2)
	checkID(t, x, word("b"), 1)
	checkTable(t, "behind what may not be", x, []api.Term{word("b"), num(1)})
}

func TestTermAddsNothing(t *testing.T) {
	x := New()
	checkID(t, x, num(0), 1)
	for _, id := range []int{math.MinInt, -1, 0, 2, 3, math.MaxInt} {
		if got := x.Term(id); got != (api.Term{}) {
			t.Errorf("P6.2: Term(%d): %v", id, got)
		}
	}
	checkID(t, x, word("a"), 2)
	checkTable(t, "two constants", x, []api.Term{num(0), word("a")})
}

func TestTablesAreApart(t *testing.T) {
	x, y := New(), New()
	checkID(t, x, word("a"), 1)
	checkID(t, x, word("b"), 2)
	checkTable(t, "the other table", y, nil)
	checkID(t, y, word("b"), 1)
	checkTable(t, "the other table", y, []api.Term{word("b")})
	checkTable(t, "the first table", x, []api.Term{word("a"), word("b")})
}

func TestNilTable(t *testing.T) {
	var x *Table
	for range 2 {
		for _, c := range rising {
			checkID(t, x, c, 0)
		}
		for _, c := range noConstants {
			checkID(t, x, c.term, 0)
		}
		checkTable(t, "a nil table", x, nil)
	}
}

func TestZeroTableIsEmpty(t *testing.T) {
	var x Table
	checkTable(t, "a zero table", &x, nil)
	checkID(t, &x, word("a"), 1)
	checkID(t, &x, num(1), 2)
	checkTable(t, "a zero table behind two", &x, []api.Term{word("a"), num(1)})
}

func TestTableKeepsNoLongText(t *testing.T) {
	x := New()
	text := strings.Repeat("word ", 100)
	checkID(t, x, word(text[5:9]), 1)
	if got := x.Term(1).Name; got != "word" || unsafe.StringData(got) == unsafe.StringData(text[5:9]) {
		t.Errorf("the table keeps %q as a piece of the text that it came from", got)
	}
}

func TestTableAgainstAList(t *testing.T) {
	const letters = "ab_9A"
	r := rand.New(rand.NewSource(1))
	for range 50 {
		x := New()
		var came []api.Term
		for range 200 {
			c := api.Term{Kind: r.Intn(5)}
			if r.Intn(10) > 0 && c.Kind == api.TInt || r.Intn(20) == 0 {
				c.Num = int64(r.Intn(21)-10) << (r.Intn(3) * 15)
			}
			if c.Kind != api.TInt || r.Intn(20) == 0 {
				for range r.Intn(4) {
					c.Name += letters[r.Intn(5):][:1]
				}
			}
			want := slices.Index(came, c) + 1
			if want == 0 && May(c) {
				came = append(came, c)
				want = len(came)
			}
			checkID(t, x, c, want)
		}
		checkTable(t, "many constants", x, came)
	}
}

func TestManyConstants(t *testing.T) {
	const n = 100000
	x := New()
	came := make([]api.Term, n)
	for i := range came {
		came[i] = num(int64(n - i))
		checkID(t, x, came[i], i+1)
	}
	checkTable(t, "many numbers", x, came)
	checkID(t, x, num(n), 1)
	checkID(t, x, num(1), n)
}
