package rlog

import (
	"fmt"
	"math"
	"math/rand"
	"slices"
	"testing"

	"delphi/api"
)

// plain is a log in the chapter's words, a list that is gone through for all that is asked.
type plain struct {
	snap    api.Snap
	entries []api.Entry
}

func (p plain) last() (index, term int64) {
	if n := len(p.entries); n > 0 {
		return p.entries[n-1].Index, p.entries[n-1].Term
	}
	return p.snap.Index, p.snap.Term
}

func (p plain) find(index int64) (api.Entry, bool) {
	for _, e := range p.entries {
		if e.Index == index {
			return e, true
		}
	}
	return api.Entry{}, false
}

// members gives those that the entries up to i tell.
func (p plain) members(i int64) []int {
	told := p.snap.Conf
	for _, e := range p.entries {
		if e.Index <= i && e.Kind == api.EConf {
			told = nil
			for _, b := range e.Data {
				told = append(told, int(b))
			}
		}
	}
	return told
}

// with gives the log with one more entry behind it; false: it may not be there.
func (p plain) with(e api.Entry) (plain, bool) {
	index, term := p.last()
	good := index < math.MaxInt64 && e.Index == index+1 && e.Term >= 1 && e.Term >= term && slices.Contains([]int{api.ENop, api.EData, api.EConf}, e.Kind)
	if e.Kind == api.EConf {
		ids := slices.Compact(slices.Sorted(slices.Values(e.Data)))
		good = good && len(ids) > 0 && slices.Equal(ids, e.Data) && ids[0] >= 1 && ids[len(ids)-1] <= 7
	}
	return plain{p.snap, append(slices.Clip(p.entries), e)}, good
}

func (p plain) put(es []api.Entry) (plain, bool) {
	if len(es) == 0 || es[0].Index <= p.snap.Index {
		return p, false
	}
	q := plain{p.snap, nil}
	for _, e := range p.entries {
		if e.Index < es[0].Index {
			q.entries = append(q.entries, e)
		}
	}
	for _, e := range es {
		var good bool
		if q, good = q.with(e); !good {
			return p, false
		}
	}
	return q, true
}

func (p plain) behind(index int64) []api.Entry {
	var left []api.Entry
	for _, e := range p.entries {
		if e.Index > index {
			left = append(left, e)
		}
	}
	return left
}

func (p plain) compact(i int64, data []byte) (plain, bool) {
	e, there := p.find(i)
	if !there {
		return p, false
	}
	return plain{api.Snap{Index: i, Term: e.Term, Conf: p.members(i), Data: data}, p.behind(i)}, true
}

func (p plain) reset(s api.Snap) plain {
	if e, there := p.find(s.Index); there && e.Term == s.Term {
		return plain{s, p.behind(s.Index)}
	}
	return plain{s, nil}
}

// agrees holds all that a log tells against the plain one.
func agrees(t *testing.T, what string, l *Log, p plain) {
	t.Helper()
	last, _ := p.last()
	if l.Base() != p.snap.Index || l.Last() != last {
		t.Fatalf("P20.1: %s: %d to %d; want %d to %d", what, l.Base(), l.Last(), p.snap.Index, last)
	}
	check(t, "P20.2: Snap, "+what, fmt.Sprintf("%v", l.Snap()), fmt.Sprintf("%v", p.snap))
	check(t, "P20.2: Conf, "+what, fmt.Sprint(l.Conf()), fmt.Sprint(p.members(last)))
	for k := range uint64(len(p.entries) + 5) {
		// Some of these wrap round: they are asked for as well.
		i := int64(uint64(p.snap.Index) + k - 2)
		want, there := p.find(i)
		e, ok := l.Get(i)
		if ok != there {
			t.Errorf("P20.1: %s: Get(%d): %t", what, i, ok)
		}
		check(t, "P20.1: Get, "+what, showEntries(list(e)), showEntries(list(want)))
		if i == p.snap.Index {
			want.Term, there = p.snap.Term, true
		}
		if term, ok := l.Term(i); term != want.Term || ok != there {
			t.Errorf("P20.1: %s: Term(%d): %d, %t; want %d, %t", what, i, term, ok, want.Term, there)
		}
		check(t, "P20.2: ConfAt, "+what, fmt.Sprint(l.ConfAt(i)), fmt.Sprint(p.members(i)))
	}
}

type drawer struct{ *rand.Rand }

// one says yes once in n times.
func (d drawer) one(n int) bool { return d.Intn(n) == 0 }

func (d drawer) conf() []int {
	var ids []int
	for id := 1; id <= 7; id++ {
		if d.one(3) {
			ids = append(ids, id)
		}
	}
	return ids
}

func (d drawer) bytes(most int) []byte {
	b := make([]byte, d.Intn(most))
	for i := range b {
		b[i] = byte(d.Intn(9))
	}
	return b
}

func (d drawer) entry(index, term int64) api.Entry {
	e := api.Entry{Index: index, Term: term, Kind: 1 + d.Intn(3), Data: d.bytes(4)}
	if e.Kind == api.EConf && !d.one(20) {
		e.Data = []byte{byte(1 + d.Intn(3)), byte(4 + d.Intn(4))}
	}
	switch d.Intn(60) {
	case 0:
		e.Kind = []int{0, 4, -1, math.MinInt}[d.Intn(4)]
	case 1:
		e.Index = []int64{index - 1, int64(uint64(index) + 1), 0, math.MinInt64}[d.Intn(4)]
	case 2:
		e.Term = []int64{0, -1, term - 1, math.MinInt64}[d.Intn(4)]
	}
	return e
}

// entries draws some that stand from first on, of rising terms: most may be.
func (d drawer) entries(first, term int64) []api.Entry {
	var es []api.Entry
	for range d.Intn(6) {
		if d.one(4) {
			term++
		}
		es = append(es, d.entry(first, max(term, 1)))
		// Behind the greatest number the least one comes, which may not be.
		first = int64(uint64(first) + 1)
	}
	return es
}

// near draws an index a little ahead of the base up to a little behind the last entry.
func (d drawer) near(p plain) int64 {
	return int64(uint64(p.snap.Index) + uint64(d.Intn(len(p.entries)+5)) - 2)
}

func (d drawer) step(t *testing.T, what string, l *Log, p plain) plain {
	switch d.Intn(10) {
	case 0, 1:
		i, data := d.near(p), d.bytes(3)
		next, ok := p.compact(i, data)
		if got := l.Compact(i, data); got != ok {
			t.Errorf("P20.2: %s: Compact(%d): %t", what, i, got)
		}
		return next
	case 2:
		// What New would not take does not come here.
		s := api.Snap{Index: max(d.near(p), 0), Term: max(p.snap.Term+int64(d.Intn(3)), 0), Conf: d.conf(), Data: d.bytes(3)}
		if e, there := p.find(s.Index); there && !d.one(3) {
			s.Term = e.Term
		}
		l.Reset(s)
		return p.reset(s)
	case 3:
		from, n := d.near(p), d.Intn(8)-1
		var want []api.Entry
		if from > p.snap.Index && n > 0 {
			want = p.behind(from - 1)
			want = want[:min(n, len(want))]
		}
		check(t, "P20.1: Slice, "+what, showEntries(l.Slice(from, n)), showEntries(want))
		return p
	}
	index, term := p.last()
	if d.one(3) {
		index = d.near(p)
		if e, there := p.find(index); there {
			term = e.Term
		}
	}
	es := d.entries(int64(uint64(index)+1), term-int64(d.Intn(8)/7))
	next, ok := p.put(es)
	if got := l.Put(es); got != ok {
		t.Errorf("P20.1: %s: Put(%s): %t", what, showEntries(es), got)
	}
	return next
}

// Logs are held against plain ones behind each of many calls.
func TestAgainstAPlainLog(t *testing.T) {
	d := drawer{rand.New(rand.NewSource(20))}
	made := 0
	for round := range 3000 {
		s := api.Snap{Index: []int64{0, 0, 3, math.MaxInt64 - 5}[d.Intn(4)], Term: int64(d.Intn(3)), Conf: d.conf(), Data: d.bytes(3)}
		es := d.entries(s.Index+1, s.Term)
		p, may := plain{s, nil}, true
		for _, e := range es {
			var good bool
			p, good = p.with(e)
			may = may && good
		}
		l := New(s, es)
		if (l != nil) != may {
			t.Fatalf("P20.1: round %d: New(%v,%s): %t", round, s, showEntries(es), l != nil)
		}
		if !may {
			continue
		}
		made++
		for call := range 40 {
			what := fmt.Sprintf("round %d, call %d", round, call)
			p = d.step(t, what, l, p)
			agrees(t, what, l, p)
			if t.Failed() {
				return
			}
		}
	}
	if made < 2000 {
		t.Errorf("P20.1: %d of 3000 logs were made", made)
	}
}
