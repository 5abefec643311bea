package rlog

import (
	"fmt"
	"math"
	"testing"

	"delphi/api"
)

func TestConf(t *testing.T) {
	s := api.Snap{Index: 3, Term: 2, Conf: []int{1, 2}}
	for k, x := range []struct {
		es   []api.Entry
		want string
	}{
		{nil, "[1 2]"},
		{data(4, 2, 3), "[1 2]"},
		{list(nop(4, 2)), "[1 2]"},
		{list(conf(4, 2, 7)), "[7]"},
		{append(list(conf(4, 2, 1, 3, 5)), data(5, 2, 2)...), "[1 3 5]"},
		{list(conf(4, 2, 1), conf(5, 2, 1, 2, 3, 4, 5, 6, 7)), "[1 2 3 4 5 6 7]"},
		// Bytes of other entries are no members.
		{list(conf(4, 2, 4), api.Entry{Index: 5, Term: 2, Kind: api.EData, Data: []byte{1, 2}}, api.Entry{Index: 6, Term: 2, Kind: api.ENop, Data: []byte{3}}), "[4]"},
	} {
		check(t, fmt.Sprint("P20.2: Conf, ", k), fmt.Sprint(New(s, x.es).Conf()), x.want)
	}
	check(t, "P20.2: Conf without one", fmt.Sprint(New(api.Snap{}, data(1, 1)).Conf()), "[]")
	check(t, "P20.2: Conf of Index 0", fmt.Sprint(New(api.Snap{Conf: []int{2, 4}}, data(1, 1)).Conf()), "[2 4]")
}

// Who the members are hangs on what stands there now.
func TestConfAfterPut(t *testing.T) {
	l := three()
	for k, x := range []struct {
		put  []api.Entry
		want string
	}{
		{data(9, 5), "[2 7]"},
		{data(8, 5), "[2 7]"},
		{data(7, 5), "[1 2 7]"},
		{list(conf(6, 3, 3)), "[3]"},
		{data(7, 5), "[3]"},
		{data(6, 4, 5), "[1 2 7]"},
		{list(conf(8, 5, 5), conf(9, 5, 6)), "[6]"},
		{data(9, 5), "[5]"},
		{data(4, 5), "[1 2]"},
	} {
		if !l.Put(x.put) {
			t.Fatalf("P20.2: Put, %d", k)
		}
		check(t, fmt.Sprint("P20.2: Conf behind Put ", k), fmt.Sprint(l.Conf()), x.want)
	}
}

func TestConfAt(t *testing.T) {
	l := three()
	for _, x := range []struct {
		i    int64
		want string
	}{
		{math.MinInt64, "[1 2]"}, {-1, "[1 2]"}, {0, "[1 2]"}, {2, "[1 2]"}, {3, "[1 2]"}, {4, "[1 2]"},
		{5, "[1 2 7]"}, {6, "[1 2 7]"}, {7, "[2 7]"}, {8, "[2 7]"}, {9, "[2 7]"}, {math.MaxInt64, "[2 7]"},
	} {
		check(t, fmt.Sprint("P20.2: ConfAt ", x.i), fmt.Sprint(l.ConfAt(x.i)), x.want)
	}
}

func TestCompact(t *testing.T) {
	for _, x := range []struct {
		i         int64
		snap      string
		behind    string
		ahead     string // ConfAt of what is gone now
		confAfter string
	}{
		{4, `4.2 [1 2] "new":`, ` 5.3.3"\x01\x02\a" 6.3.1"" 7.5.3"\x02\a" 8.5.2"5"`, "[1 2]", "[2 7]"},
		{5, `5.3 [1 2 7] "new":`, ` 6.3.1"" 7.5.3"\x02\a" 8.5.2"5"`, "[1 2 7]", "[2 7]"},
		{6, `6.3 [1 2 7] "new":`, ` 7.5.3"\x02\a" 8.5.2"5"`, "[1 2 7]", "[2 7]"},
		{7, `7.5 [2 7] "new":`, ` 8.5.2"5"`, "[2 7]", "[2 7]"},
		{8, `8.5 [2 7] "new":`, ``, "[2 7]", "[2 7]"},
	} {
		l := three()
		if !l.Compact(x.i, []byte("new")) {
			t.Errorf("P20.2: Compact(%d): false", x.i)
		}
		what := fmt.Sprintf("P20.2: Compact(%d)", x.i)
		check(t, what, show(l), x.snap+x.behind)
		check(t, what, fmt.Sprint(l.Base(), l.Last(), l.ConfAt(0), l.Conf()), fmt.Sprint(x.i, 8, " ", x.ahead, " ", x.confAfter))
		if _, ok := l.Get(x.i); ok {
			t.Errorf("%s: the entry is there still", what)
		}
		if _, ok := l.Term(x.i - 1); ok {
			t.Errorf("%s: a term ahead of the base", what)
		}
		if !l.Put(data(9, 5)) || l.Last() != 9 {
			t.Errorf("%s: Put behind it", what)
		}
	}
}

func TestCompactOfNothing(t *testing.T) {
	l := three()
	for _, i := range append(outside, 3) {
		if l.Compact(i, []byte("new")) {
			t.Errorf("P20.2: Compact(%d)", i)
		}
		check(t, fmt.Sprintf("P20.2: Compact(%d)", i), show(l), threeShown)
	}
	if New(api.Snap{}, nil).Compact(0, nil) {
		t.Error("P20.2: Compact of an empty log")
	}
	// An index that is the base already is not above it.
	if !l.Compact(5, nil) || l.Compact(5, []byte("new")) || !l.Compact(6, nil) {
		t.Error("P20.2: Compact again")
	}
	check(t, "P20.2: Compact of no data", show(l), `6.3 [1 2 7] "": 7.5.3"\x02\a" 8.5.2"5"`)
}

func TestReset(t *testing.T) {
	for k, x := range []struct {
		s    api.Snap
		want string
		conf string
	}{
		// An entry of its Index and Term is there.
		{api.Snap{Index: 4, Term: 2, Conf: []int{6}, Data: []byte("x")}, `4.2 [6] "x": 5.3.3"\x01\x02\a" 6.3.1"" 7.5.3"\x02\a" 8.5.2"5"`, "[2 7]"},
		{api.Snap{Index: 6, Term: 3, Conf: []int{6}}, `6.3 [6] "": 7.5.3"\x02\a" 8.5.2"5"`, "[2 7]"},
		{api.Snap{Index: 7, Term: 5, Conf: []int{6}}, `7.5 [6] "": 8.5.2"5"`, "[6]"},
		{api.Snap{Index: 8, Term: 5, Conf: []int{6}}, `8.5 [6] "":`, "[6]"},
		// None is there, or one of another Term.
		{api.Snap{Index: 4, Term: 3, Conf: []int{6}}, `4.3 [6] "":`, "[6]"},
		{api.Snap{Index: 6, Term: 2}, `6.2 [] "":`, "[]"},
		{api.Snap{Index: 6, Term: 5}, `6.5 [] "":`, "[]"},
		{api.Snap{Index: 8, Term: 4}, `8.4 [] "":`, "[]"},
		{api.Snap{Index: 9, Term: 5, Conf: []int{1}, Data: []byte("y")}, `9.5 [1] "y":`, "[1]"},
		{api.Snap{Index: math.MaxInt64, Term: 5}, `9223372036854775807.5 [] "":`, "[]"},
		// The base is no entry.
		{api.Snap{Index: 3, Term: 2, Conf: []int{1, 2}, Data: []byte("s")}, `3.2 [1 2] "s":`, "[1 2]"},
		{api.Snap{Index: 2, Term: 2}, `2.2 [] "":`, "[]"},
		{api.Snap{}, `0.0 [] "":`, "[]"},
	} {
		l := three()
		l.Reset(x.s)
		what := fmt.Sprint("P20.2: Reset, ", k)
		check(t, what, show(l), x.want)
		check(t, what, fmt.Sprint(l.Conf(), l.Base()), fmt.Sprint(x.conf, " ", x.s.Index))
		if x.s.Index < math.MaxInt64 && !l.Put(data(x.s.Index+1, 9)) {
			t.Errorf("%s: Put behind it", what)
		}
	}
}

// What New would not take is taken by Reset, which has nothing to say it with; the calls behind it end all the same.
func TestResetBelowZero(t *testing.T) {
	l := three()
	l.Reset(api.Snap{Index: math.MinInt64, Term: -4})
	check(t, "P20.2: Reset below 0", show(l), `-9223372036854775808.-4 [] "":`)
	if l.Put(data(math.MinInt64, 1)) || l.Put(data(math.MaxInt64, 1)) || l.Put(data(math.MinInt64+1, 0)) || !l.Put(data(math.MinInt64+1, 1)) {
		t.Error("P20.2: Put behind Reset below 0")
	}
	for _, i := range []int64{math.MaxInt64, 0, -1} {
		if _, ok := l.Term(i); ok || len(l.Slice(i, 1)) != 0 || l.Compact(i, nil) {
			t.Errorf("P20.2: %d is not there", i)
		}
	}
	check(t, "P20.2: behind Reset below 0", show(l), `-9223372036854775808.-4 [] "": -9223372036854775807.1.2"1"`)
}

func TestSnap(t *testing.T) {
	for _, s := range []api.Snap{{}, {Conf: []int{1, 2}}, {Index: 3, Term: 2, Conf: []int{1, 2}, Data: []byte("s")}} {
		if got, want := fmt.Sprint(New(s, nil).Snap()), fmt.Sprint(s); got != want {
			t.Errorf("P20.2: Snap: %s; want %s", got, want)
		}
	}
	l := three()
	was := fmt.Sprint(l.Snap())
	l.Put(list(conf(4, 9, 5)))
	check(t, "P20.2: Snap behind Put", fmt.Sprint(l.Snap()), was)
	l.Compact(4, []byte{9})
	check(t, "P20.2: Snap behind Compact", fmt.Sprint(l.Snap()), "{4 9 [5] [9]}")
	l.Reset(api.Snap{Index: 1, Term: 1, Conf: []int{2}, Data: []byte{8}})
	check(t, "P20.2: Snap behind Reset", fmt.Sprint(l.Snap()), "{1 1 [2] [8]}")
}

func TestNil(t *testing.T) {
	var none *Log
	for range 2 {
		if none.Base() != 0 || none.Last() != 0 {
			t.Error("P20.2: nil: Base, Last")
		}
		for _, i := range []int64{math.MinInt64, -1, 0, 1, math.MaxInt64} {
			term, isTerm := none.Term(i)
			e, isEntry := none.Get(i)
			if term != 0 || isTerm || isEntry || e.Index != 0 || len(none.ConfAt(i)) != 0 || len(none.Slice(i, 9)) != 0 {
				t.Errorf("P20.2: nil: something at %d", i)
			}
			if none.Compact(i, []byte("s")) {
				t.Errorf("P20.2: nil: Compact(%d)", i)
			}
		}
		if s := none.Snap(); s.Index != 0 || s.Term != 0 || len(s.Conf) != 0 || len(s.Data) != 0 || len(none.Conf()) != 0 {
			t.Error("P20.2: nil: Snap, Conf")
		}
		if none.Put(data(1, 1)) || none.Put(nil) {
			t.Error("P20.2: nil: Put")
		}
		none.Reset(api.Snap{Index: 3, Term: 2, Conf: []int{1}})
	}
}

// A Log that New did not make is one behind no snapshot.
func TestZeroLog(t *testing.T) {
	l := &Log{}
	check(t, "P20.1: a zero Log", show(l), show(New(api.Snap{}, nil)))
	if term, ok := l.Term(0); term != 0 || !ok {
		t.Error("P20.1: a zero Log: Term")
	}
	if !l.Put(data(1, 1, 1)) || !l.Compact(1, nil) {
		t.Error("P20.1: a zero Log: Put, Compact")
	}
	check(t, "P20.1: a zero Log", show(l), `1.1 [] "": 2.1.2"1"`)
}
