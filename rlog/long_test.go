package rlog

import (
	"testing"

	"delphi/api"
)

// A long log whose entries come one by one, and go one by one, is asked at each step; all of it must end soon.
func TestLongLog(t *testing.T) {
	const count = 200000
	l := New(api.Snap{Conf: []int{1}}, nil)
	for i := int64(1); i <= count; i++ {
		if !l.Put(list(nop(i, i))) || l.Last() != i || len(l.Conf()) != 1 || len(l.Slice(i, 8)) != 1 {
			t.Fatalf("P20.1: entry %d", i)
		}
	}
	for i := int64(1); i <= count; i++ {
		term, ok := l.Term(i)
		if !ok || term != i || !l.Compact(i, nil) || l.Base() != i || len(l.ConfAt(i)) != 1 {
			t.Fatalf("P20.2: Compact(%d)", i)
		}
	}
	if l.Last() != count || len(l.Slice(count, 9)) != 0 {
		t.Error("P20.2: nothing is left")
	}
}

// A log of many entries comes and goes at once, and those that wait are few while others pass.
func TestLongLists(t *testing.T) {
	const count = 300000
	es := make([]api.Entry, count)
	for i := range es {
		es[i] = conf(int64(i)+1, 1, byte(i%7+1))
	}
	l := New(api.Snap{}, es)
	for i := int64(1); i <= count; i += 1000 {
		if got := l.ConfAt(i); len(got) != 1 || got[0] != int((i-1)%7)+1 {
			t.Fatalf("P20.2: ConfAt(%d): %v", i, got)
		}
	}
	if got := l.Slice(1, count+1); len(got) != count {
		t.Errorf("P20.1: Slice of %d", len(got))
	}
	if !l.Put(es) || l.Last() != count || !l.Put(es[:1]) || l.Last() != 1 || !l.Put(es[1:]) {
		t.Error("P20.1: Put of many")
	}
	if !l.Compact(count-2, make([]byte, 1<<20)) || len(l.Slice(count-1, 9)) != 2 {
		t.Error("P20.2: Compact of many")
	}
	for i := int64(count + 1); i <= 2*count; i++ {
		if !l.Put(list(nop(i, 1))) || !l.Compact(i-1, nil) || len(l.Slice(i, 9)) != 1 {
			t.Fatalf("P20.2: entry %d passes", i)
		}
	}
}
