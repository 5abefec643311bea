package rlog

import (
	"fmt"
	"testing"

	"delphi/api"
)

// spoil writes into all of a list, its spare room too.
func spoil[T any](list []T, by T) {
	list = list[:cap(list)]
	for i := range list {
		list[i] = by
	}
}

func spoilSnap(s api.Snap) {
	spoil(s.Conf, 99)
	spoil(s.Data, '!')
}

// spoilEntries spoils what the entries hold ahead of the entries themselves.
func spoilEntries(es []api.Entry) {
	for _, e := range es[:cap(es)] {
		spoil(e.Data, '!')
	}
	spoil(es, api.Entry{Index: 99, Term: 99, Kind: 99})
}

// roomy gives a list with spare room behind it.
func roomy[T any](list []T, spare T) []T {
	return append(append(make([]T, 0, len(list)+2), list...), spare, spare)[:len(list)]
}

func roomyEntries(es []api.Entry) []api.Entry {
	for i, e := range es {
		es[i].Data = roomy(e.Data, '#')
	}
	return roomy(es, api.Entry{Index: 77, Data: []byte("#")})
}

// isUnspoiled asks whether the lists that were handed in are as they were, the spare room too.
func isUnspoiled(t *testing.T, what string, es []api.Entry, want string) {
	t.Helper()
	check(t, what, showEntries(es), want)
	for _, e := range es[len(es):cap(es)] {
		if e.Index != 77 || string(e.Data) != "#" {
			t.Errorf("%s: the spare room has changed", what)
		}
	}
	for _, e := range es {
		for _, b := range e.Data[len(e.Data):cap(e.Data)] {
			if b != '#' {
				t.Errorf("%s: the spare room of the data has changed", what)
			}
		}
	}
}

// What is handed in is neither changed nor kept.
func TestListsHandedIn(t *testing.T) {
	s := api.Snap{Index: 3, Term: 2, Conf: roomy([]int{1, 2}, 77), Data: roomy([]byte("s"), '#')}
	es := roomyEntries(three().Slice(4, 5))
	given := showEntries(es)
	l := New(s, es)
	l.Put(data(5, 8))
	l.Compact(4, nil)
	isUnspoiled(t, "P20.1: New", es, given)
	l = New(s, es)
	spoilSnap(s)
	spoilEntries(es)
	check(t, "P20.1: New keeps lists", show(l), threeShown)

	es = roomyEntries(append(data(7, 5, 6), conf(9, 6, 1, 4)))
	given = showEntries(es)
	l.Put(es)
	l.Put(data(9, 7))
	isUnspoiled(t, "P20.1: Put", es, given)
	l.Put(es)
	spoilEntries(es)
	const put = `3.2 [1 2] "s": 4.2.2"2" 5.3.3"\x01\x02\a" 6.3.1"" 7.5.2"5" 8.6.2"6" 9.6.3"\x01\x04"`
	check(t, "P20.1: Put keeps lists", show(l), put)
	check(t, "P20.2: Put keeps lists", fmt.Sprint(l.Conf()), "[1 4]")

	text := roomy([]byte("c"), '#')
	l.Compact(7, text)
	check(t, "P20.2: Compact changes the data", string(text[:3]), "c##")
	spoil(text, '!')
	const compacted = `7.5 [1 2 7] "c": 8.6.2"6" 9.6.3"\x01\x04"`
	check(t, "P20.2: Compact keeps the data", show(l), compacted)

	s = api.Snap{Index: 8, Term: 6, Conf: roomy([]int{5, 6}, 77), Data: roomy([]byte("r"), '#')}
	l.Reset(s)
	check(t, "P20.2: Reset changes its lists", fmt.Sprint(s.Conf[:4], string(s.Data[:3])), "[5 6 77 77]r##")
	spoilSnap(s)
	check(t, "P20.2: Reset keeps lists", show(l), `8.6 [5 6] "r": 9.6.3"\x01\x04"`)
}

// Who writes into what was told changes nothing of the log, and of no other answer.
func TestListsTold(t *testing.T) {
	l := three()
	other := l.Slice(4, 5)
	snap := l.Snap()
	for i := l.Base(); i <= l.Last(); i++ {
		e, _ := l.Get(i)
		spoil(e.Data, '!')
		spoilEntries(l.Slice(i, 1))
		spoilEntries(l.Slice(i, 9))
		spoil(l.ConfAt(i), 99)
	}
	spoil(l.Conf(), 99)
	spoilSnap(l.Snap())
	check(t, "P20.2: lists told", show(l), threeShown)
	check(t, "P20.2: lists told", fmt.Sprint(l.Conf()), "[2 7]")
	check(t, "P20.2: an answer ahead", showEntries(other), threeShown[len(`3.2 [1 2] "s":`):])
	if len(snap.Conf) != 2 || snap.Conf[0] != 1 || snap.Conf[1] != 2 || string(snap.Data) != "s" {
		t.Errorf("P20.2: a Snap told ahead: %v", snap)
	}

	// The lists of one answer share nothing.
	es := l.Slice(4, 5)
	_ = append(es[0].Data, "behind"...)
	spoil(es[0].Data, '!')
	check(t, "P20.1: Slice", showEntries(es[1:]), showEntries(other[1:]))

	// What was told of the members goes into no snapshot.
	told := l.Conf()
	l.Compact(8, nil)
	spoil(told, 99)
	check(t, "P20.2: Compact", show(l), `8.5 [2 7] "":`)
	spoil(l.Conf(), 99)
	check(t, "P20.2: Conf of the snapshot", fmt.Sprint(l.Conf()), "[2 7]")
}

// What is gone is not kept in the room that is left free.
func TestNothingMoreIsKept(t *testing.T) {
	l := three()
	all := l.items
	l.Compact(5, nil)
	l.Put(data(7, 5))
	for k, x := range all {
		if gone := k != 2 && k != 3; gone && (x.entry.Data != nil || x.entry.Index != 0) {
			t.Errorf("P20.2: the entry at place %d is kept: %v", k, x.entry)
		}
	}
}
