package rlog

import (
	"fmt"
	"math"
	"testing"

	"delphi/api"
)

// data makes entries of Kind EData of these terms, from an index on; the Data of each is its term.
func data(first int64, terms ...int64) []api.Entry {
	var es []api.Entry
	for i, term := range terms {
		es = append(es, api.Entry{Index: first + int64(i), Term: term, Kind: api.EData, Data: fmt.Append(nil, term)})
	}
	return es
}

func nop(index, term int64) api.Entry {
	return api.Entry{Index: index, Term: term, Kind: api.ENop}
}

func conf(index, term int64, members ...byte) api.Entry {
	return api.Entry{Index: index, Term: term, Kind: api.EConf, Data: members}
}

func list(es ...api.Entry) []api.Entry { return es }

// showEntries tells entries: Index, Term, Kind and Data of each.
func showEntries(es []api.Entry) string {
	text := ""
	for _, e := range es {
		text += fmt.Sprintf(" %d.%d.%d%q", e.Index, e.Term, e.Kind, e.Data)
	}
	return text
}

// show tells the snapshot of a log and the entries behind it.
func show(l *Log) string {
	if l == nil {
		return "nil"
	}
	s := l.Snap()
	text := fmt.Sprintf("%d.%d %v %q:", s.Index, s.Term, s.Conf, s.Data)
	for i := l.Base(); i < l.Last(); {
		i++
		e, ok := l.Get(i)
		if !ok {
			return fmt.Sprintf("%s no entry %d", text, i)
		}
		text += showEntries([]api.Entry{e})
	}
	return text
}

func check(t *testing.T, what, got, want string) {
	t.Helper()
	if got != want {
		t.Errorf("%s: %s; want %s", what, got, want)
	}
}

// three stands behind a snapshot at 3 of Term 2: entries at 4 to 8, of which those at 5 and 7 tell members.
func three() *Log {
	return New(api.Snap{Index: 3, Term: 2, Conf: []int{1, 2}, Data: []byte("s")},
		list(data(4, 2)[0], conf(5, 3, 1, 2, 7), nop(6, 3), conf(7, 5, 2, 7), data(8, 5)[0]))
}

const threeShown = `3.2 [1 2] "s": 4.2.2"2" 5.3.3"\x01\x02\a" 6.3.1"" 7.5.3"\x02\a" 8.5.2"5"`

func TestNew(t *testing.T) {
	const far = math.MaxInt64
	for k, x := range []struct {
		s    api.Snap
		es   []api.Entry
		want string
	}{
		{api.Snap{}, nil, `0.0 [] "":`},
		{api.Snap{}, list(), `0.0 [] "":`},
		{api.Snap{Conf: []int{1, 2, 3}}, data(1, 1), `0.0 [1 2 3] "": 1.1.2"1"`},
		{api.Snap{Index: 3, Term: 2, Conf: []int{1, 2}, Data: []byte("s")}, nil, `3.2 [1 2] "s":`},
		{api.Snap{Index: 3, Term: 2}, data(4, 2, 2, 3, 7), `3.2 [] "": 4.2.2"2" 5.2.2"2" 6.3.2"3" 7.7.2"7"`},
		{api.Snap{Index: 3}, data(4, 1), `3.0 [] "": 4.1.2"1"`},
		{api.Snap{Term: 2}, data(1, 2), `0.2 [] "": 1.2.2"2"`},
		{api.Snap{Index: far, Term: far}, nil, `9223372036854775807.9223372036854775807 [] "":`},
		{api.Snap{Index: far - 2}, data(far-1, 1, far), `9223372036854775805.0 [] "": 9223372036854775806.1.2"1" 9223372036854775807.9223372036854775807.2"9223372036854775807"`},
		{api.Snap{}, list(conf(1, 1, 1), conf(2, 1, 7), conf(3, 1, 1, 2, 3, 4, 5, 6, 7)), `0.0 [] "": 1.1.3"\x01" 2.1.3"\a" 3.1.3"\x01\x02\x03\x04\x05\x06\a"`},
		{api.Snap{}, list(api.Entry{Index: 1, Term: 1, Kind: api.ENop, Data: []byte{9, 1}}, api.Entry{Index: 2, Term: 1, Kind: api.EData}), `0.0 [] "": 1.1.1"\t\x01" 2.1.2""`},
	} {
		check(t, fmt.Sprint("P20.1: New, ", k), show(New(x.s, x.es)), x.want)
	}
	check(t, "P20.1: New", show(three()), threeShown)
}

func TestNewGivesNone(t *testing.T) {
	const far, low = math.MaxInt64, math.MinInt64
	for k, x := range []struct {
		s  api.Snap
		es []api.Entry
	}{
		{api.Snap{Index: -1}, nil},
		{api.Snap{Index: low}, nil},
		{api.Snap{Index: -1}, data(0, 1)},
		{api.Snap{Term: -1}, nil},
		{api.Snap{Index: 3, Term: low}, nil},
		{api.Snap{Index: 3, Term: -1}, data(4, 1)},
		// The first Index.
		{api.Snap{}, data(0, 1)},
		{api.Snap{}, data(2, 1)},
		{api.Snap{}, data(-1, 1)},
		{api.Snap{}, data(far, 1)},
		{api.Snap{}, data(low, 1)},
		{api.Snap{Index: 3}, data(1, 1)},
		{api.Snap{Index: 3}, data(3, 1)},
		{api.Snap{Index: 3}, data(5, 1)},
		{api.Snap{Index: far}, data(low, 1)},
		{api.Snap{Index: far}, data(far, 1)},
		// Those behind it.
		{api.Snap{}, append(data(1, 1), data(1, 1)...)},
		{api.Snap{}, append(data(1, 1), data(3, 1)...)},
		{api.Snap{}, append(data(1, 1, 1), data(1, 1)...)},
		{api.Snap{Index: far - 1}, append(data(far, 1), data(low, 1)...)},
		// Terms.
		{api.Snap{}, data(1, 0)},
		{api.Snap{}, data(1, -1)},
		{api.Snap{}, data(1, low)},
		{api.Snap{Index: 3, Term: 2}, data(4, 1)},
		{api.Snap{Term: 2}, data(1, 1)},
		{api.Snap{}, data(1, 2, 1)},
		{api.Snap{Index: 3, Term: 2}, data(4, 2, 5, 4)},
	} {
		check(t, fmt.Sprintf("P20.1: New, %d: %v, %v", k, x.s, x.es), show(New(x.s, x.es)), "nil")
	}
}

// badEntries are entries of Index 1 and Term 1 that may not be.
func badEntries() []api.Entry {
	var bad []api.Entry
	for _, kind := range []int{0, 4, -1, math.MaxInt, math.MinInt} {
		bad = append(bad, api.Entry{Index: 1, Term: 1, Kind: kind, Data: []byte{1}})
	}
	for _, members := range [][]byte{nil, {}, {0}, {8}, {255}, {0, 1}, {2, 1}, {1, 1}, {1, 2, 2}, {1, 3, 8}, {1, 2, 3, 4, 5, 6, 7, 7}, {1, 2, 3, 4, 5, 6, 7, 8}, make([]byte, 100000)} {
		bad = append(bad, conf(1, 1, members...))
	}
	return bad
}

func TestBadEntries(t *testing.T) {
	for k, e := range badEntries() {
		what := fmt.Sprintf("P20.1: bad entry %d", k)
		check(t, what, show(New(api.Snap{}, list(e))), "nil")
		l := New(api.Snap{}, data(1, 1))
		was := show(l)
		if l.Put(list(e)) {
			t.Errorf("%s: Put", what)
		}
		e.Index = 2
		check(t, what, show(New(api.Snap{}, append(data(1, 1), e))), "nil")
		check(t, what, show(New(api.Snap{}, append(append(data(1, 1), e), data(3, 1)...))), "nil")
		if l.Put(list(e)) || l.Put(append(data(1, 1), e)) || l.Put(append(list(e), data(3, 1)...)) {
			t.Errorf("%s: Put among others", what)
		}
		check(t, what+": Put", show(l), was)
	}
}

func TestBaseLast(t *testing.T) {
	for k, x := range []struct {
		l          *Log
		base, last int64
	}{
		{New(api.Snap{}, nil), 0, 0},
		{New(api.Snap{}, data(1, 1, 1)), 0, 2},
		{New(api.Snap{Index: 3}, nil), 3, 3},
		{three(), 3, 8},
		{New(api.Snap{Index: math.MaxInt64}, nil), math.MaxInt64, math.MaxInt64},
		{New(api.Snap{Index: math.MaxInt64 - 1}, data(math.MaxInt64, 1)), math.MaxInt64 - 1, math.MaxInt64},
	} {
		if base, last := x.l.Base(), x.l.Last(); base != x.base || last != x.last {
			t.Errorf("P20.1, %d: Base %d, Last %d; want %d, %d", k, base, last, x.base, x.last)
		}
	}
}

// outside are indexes at which the log three has nothing.
var outside = []int64{math.MinInt64, math.MinInt64 + 1, -1, 0, 1, 2, 9, 10, math.MaxInt64 - 1, math.MaxInt64}

func TestTerm(t *testing.T) {
	l := three()
	for k, want := range []int64{2, 2, 3, 3, 5, 5} {
		if term, ok := l.Term(int64(k) + 3); term != want || !ok {
			t.Errorf("P20.1: Term(%d): %d, %t; want %d", k+3, term, ok, want)
		}
	}
	for _, i := range outside {
		if term, ok := l.Term(i); term != 0 || ok {
			t.Errorf("P20.1: Term(%d): %d, %t", i, term, ok)
		}
	}
	for _, s := range []api.Snap{{}, {Term: 4}, {Index: 9, Term: 4}, {Index: math.MaxInt64, Term: 1}} {
		if term, ok := New(s, nil).Term(s.Index); term != s.Term || !ok {
			t.Errorf("P20.1: Term(%d), the base of %v: %d, %t", s.Index, s, term, ok)
		}
	}
}

func TestGet(t *testing.T) {
	l := three()
	want := list(data(4, 2)[0], conf(5, 3, 1, 2, 7), nop(6, 3), conf(7, 5, 2, 7), data(8, 5)[0])
	for _, x := range want {
		e, ok := l.Get(x.Index)
		if !ok {
			t.Errorf("P20.1: Get(%d): none", x.Index)
		}
		check(t, "P20.1: Get", showEntries(list(e)), showEntries(list(x)))
	}
	for _, i := range append(outside, 3) {
		if e, ok := l.Get(i); ok || e.Index != 0 || e.Term != 0 || e.Kind != 0 || len(e.Data) != 0 {
			t.Errorf("P20.1: Get(%d): %v, %t", i, e, ok)
		}
	}
}

func TestSlice(t *testing.T) {
	l := New(api.Snap{Index: 3, Term: 2}, data(4, 2, 3, 4))
	for k, x := range []struct {
		from int64
		n    int
		want string
	}{
		{4, 1, ` 4.2.2"2"`},
		{4, 2, ` 4.2.2"2" 5.3.2"3"`},
		{4, 3, ` 4.2.2"2" 5.3.2"3" 6.4.2"4"`},
		{4, 4, ` 4.2.2"2" 5.3.2"3" 6.4.2"4"`},
		{4, math.MaxInt, ` 4.2.2"2" 5.3.2"3" 6.4.2"4"`},
		{5, 1, ` 5.3.2"3"`},
		{5, 9, ` 5.3.2"3" 6.4.2"4"`},
		{6, 1, ` 6.4.2"4"`},
		{6, math.MaxInt, ` 6.4.2"4"`},
		{7, 1, ``},
		{8, math.MaxInt, ``},
		{math.MaxInt64, math.MaxInt, ``},
		{3, 1, ``},
		{3, math.MaxInt, ``},
		{2, 9, ``},
		{0, 9, ``},
		{-1, 9, ``},
		{math.MinInt64, math.MaxInt, ``},
		{4, 0, ``},
		{4, -1, ``},
		{5, math.MinInt, ``},
	} {
		check(t, fmt.Sprint("P20.1: Slice, ", k), showEntries(l.Slice(x.from, x.n)), x.want)
	}
	check(t, "P20.1: Slice of all kinds", showEntries(three().Slice(5, 3)), ` 5.3.3"\x01\x02\a" 6.3.1"" 7.5.3"\x02\a"`)
}

func TestPut(t *testing.T) {
	const far = math.MaxInt64
	base := api.Snap{Index: 3, Term: 2}
	for k, x := range []struct {
		s          api.Snap
		there, put []api.Entry
		want       string
	}{
		{base, nil, data(4, 2), `3.2 [] "": 4.2.2"2"`},
		{base, data(4, 2), data(5, 2, 3), `3.2 [] "": 4.2.2"2" 5.2.2"2" 6.3.2"3"`},
		{base, data(4, 2, 3), data(5, 2), `3.2 [] "": 4.2.2"2" 5.2.2"2"`},
		{base, data(4, 3, 3, 3), data(4, 2), `3.2 [] "": 4.2.2"2"`},
		{base, data(4, 3, 3, 3), data(5, 4), `3.2 [] "": 4.3.2"3" 5.4.2"4"`},
		{base, data(4, 3, 3), data(4, 4, 5, 6, 7), `3.2 [] "": 4.4.2"4" 5.5.2"5" 6.6.2"6" 7.7.2"7"`},
		// What stands there goes, even if it is of a greater term, or the same.
		{base, data(4, 9, 9), data(4, 2, 2), `3.2 [] "": 4.2.2"2" 5.2.2"2"`},
		{base, data(4, 3, 3, 4), data(4, 3, 3), `3.2 [] "": 4.3.2"3" 5.3.2"3"`},
		{base, data(4, 2), list(nop(5, 2), conf(6, 2, 3)), `3.2 [] "": 4.2.2"2" 5.2.1"" 6.2.3"\x03"`},
		{api.Snap{}, nil, data(1, 1), `0.0 [] "": 1.1.2"1"`},
		{api.Snap{Index: far - 2}, data(far-1, 1), data(far, 1), `9223372036854775805.0 [] "": 9223372036854775806.1.2"1" 9223372036854775807.1.2"1"`},
		{api.Snap{Index: far - 1}, data(far, 1), data(far, 2), `9223372036854775806.0 [] "": 9223372036854775807.2.2"2"`},
	} {
		what := fmt.Sprint("P20.1: Put, ", k)
		l := New(x.s, x.there)
		if !l.Put(x.put) {
			t.Errorf("%s: false", what)
		}
		check(t, what, show(l), x.want)
	}
}

func TestPutOfNothing(t *testing.T) {
	const far, low = math.MaxInt64, math.MinInt64
	base := api.Snap{Index: 3, Term: 2}
	for k, x := range []struct {
		s          api.Snap
		there, put []api.Entry
	}{
		{base, data(4, 2), nil},
		{base, data(4, 2), list()},
		// The first Index.
		{base, data(4, 2), data(3, 2)},
		{base, data(4, 2), data(3, 2, 2, 2)},
		{base, data(4, 2), data(2, 2)},
		{base, data(4, 2), data(0, 2)},
		{base, data(4, 2), data(-1, 2)},
		{base, data(4, 2), data(low, 2)},
		{base, data(4, 2), data(6, 2)},
		{base, data(4, 2), data(far, 2)},
		{base, nil, data(5, 2)},
		{api.Snap{Index: far}, nil, data(low, 1)},
		{api.Snap{Index: far}, nil, data(far, 1)},
		{api.Snap{Index: far - 1}, data(far, 1), data(low, 1)},
		// Those behind it.
		{base, data(4, 2), append(data(5, 2), data(5, 2)...)},
		{base, data(4, 2), append(data(5, 2), data(7, 2)...)},
		{base, data(4, 2), append(data(5, 2), data(4, 2)...)},
		{api.Snap{Index: far - 1}, nil, append(data(far, 1), data(low, 1)...)},
		// Terms.
		{base, data(4, 2), data(5, 1)},
		{base, data(4, 2), data(4, 1)},
		{base, data(4, 2, 3, 3), data(6, 2)},
		{base, data(4, 2, 3, 3), data(5, 3, 2)},
		{base, data(4, 2, 3, 3), data(7, 4, 3)},
		{api.Snap{}, nil, data(1, 0)},
		{api.Snap{}, nil, data(1, -1)},
		{api.Snap{}, data(1, 1), data(2, low)},
	} {
		l := New(x.s, x.there)
		was := show(l)
		if l.Put(x.put) {
			t.Errorf("P20.1: Put, %d: %v", k, x.put)
		}
		check(t, fmt.Sprint("P20.1: Put, ", k), show(l), was)
	}
}
