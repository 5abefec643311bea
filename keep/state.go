package keep

import (
	"slices"

	"delphi/api"
)

// state is what is kept. Once made, none of its parts changes, so that a call that fails leaves the old one whole.
type state struct {
	hard    api.Hard
	snap    api.Snap    // Index 0: there is none
	entries []api.Entry // their Index are one behind the other, and behind the snapshot's
}

// isGood says whether a call's form is good, behind this state.
func (s state) isGood(r api.Ready) bool {
	if r.Saved && (r.Hard.Term < s.hard.Term || r.Hard.Vote < 0 || r.Hard.Vote > api.MaxIds) {
		return false
	}
	for _, e := range r.Entries {
		if e.Kind < api.ENop || e.Kind > api.EConf || e.Term < 1 {
			return false
		}
	}
	return r.Snap == nil || r.Snap.Term >= 0 && r.Snap.Index >= 0 && areMembers(r.Snap.Conf)
}

// areMembers says the same as ballot.May, which stands above this layer.
func areMembers(conf []int) bool {
	last := 0
	for _, id := range conf {
		if id <= last || id > api.MaxIds {
			return false
		}
		last = id
	}
	return last > 0
}

// after gives what a call makes of the state; false: its snapshot is not above the one that is there, or its entries do
// not fit behind what is left.
func (s state) after(r api.Ready) (state, bool) {
	if r.Saved {
		s.hard = r.Hard
	}
	if r.Snap != nil {
		if r.Snap.Index <= s.snap.Index {
			return state{}, false
		}
		s.entries = s.behind(r.Snap.Index, r.Snap.Term)
		s.snap = copySnap(*r.Snap)
	}
	if r.First > 0 {
		if !s.mayGoOn(r.First, r.Entries) {
			return state{}, false
		}
		s.entries = append(s.ahead(r.First), copyEntries(r.Entries)...)
	}
	return s, true
}

// has says whether the entry there is one of this term.
func (s state) has(index, term int64) bool {
	if index <= s.snap.Index {
		return false
	}
	at := index - s.snap.Index - 1
	return at < int64(len(s.entries)) && s.entries[at].Term == term
}

// behind gives the entries that a snapshot leaves: those of a log that went another way than the snapshot's are gone.
func (s state) behind(index, term int64) []api.Entry {
	if !s.has(index, term) {
		return nil
	}
	return slices.Clone(s.entries[index-s.snap.Index:])
}

// mayGoOn says whether the entries may stand from first on, which is above 0.
func (s state) mayGoOn(first int64, entries []api.Entry) bool {
	if first <= s.snap.Index || first-1-s.snap.Index > int64(len(s.entries)) {
		return false
	}
	for i, e := range entries {
		if e.Index < first || e.Index-first != int64(i) {
			return false
		}
	}
	return true
}

// ahead gives the entries ahead of first. Whoever appends to them must not write over those that are still kept.
func (s state) ahead(first int64) []api.Entry {
	left := s.entries[:first-1-s.snap.Index]
	if len(left) < len(s.entries) {
		return slices.Clone(left)
	}
	return left
}

// whole gives the call that makes this state out of nothing.
func (s state) whole() api.Ready {
	r := api.Ready{Saved: true, Hard: s.hard, Entries: s.entries}
	if s.snap.Index > 0 {
		r.Snap = &s.snap
	}
	if len(s.entries) > 0 {
		r.First = s.entries[0].Index
	}
	return r
}

// extra is how many bytes beside its data each entry, and the snapshot, may take.
const extra = 64

// weight is the bytes of the snapshot and the entries, by which the chapter bounds those on the disk.
func (s state) weight() int {
	sum := 0
	if s.snap.Index > 0 {
		sum = extra + len(s.snap.Data)
	}
	for _, e := range s.entries {
		sum += extra + len(e.Data)
	}
	return sum
}

// copyOf gives new memory; a list without elements is nil, whether it came from a caller or from the disk.
func copyOf[T any](list []T) []T {
	return append([]T(nil), list...)
}

func copySnap(s api.Snap) api.Snap {
	s.Conf, s.Data = copyOf(s.Conf), copyOf(s.Data)
	return s
}

func copyEntries(entries []api.Entry) []api.Entry {
	all := copyOf(entries)
	for i, e := range all {
		all[i].Data = copyOf(e.Data)
	}
	return all
}
