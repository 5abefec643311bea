package rlog

import "delphi/api"

// item is an entry, and where it stands who the members are behind it: the Index of the last entry of Kind EConf up to
// it. Where that is not above the base, the snapshot tells them.
type item struct {
	entry api.Entry
	conf  int64
}

// place gives where among the items the entry of this Index is; false: it is not there.
func (l *Log) place(i int64) (int, bool) {
	if l == nil || i <= l.snap.Index || i > l.Last() {
		return 0, false
	}
	return int(i - l.snap.Index - 1), true
}

// add lays entries behind all that are there.
func (l *Log) add(es []api.Entry) {
	conf := l.snap.Index
	if n := len(l.items); n > 0 {
		conf = l.items[n-1].conf
	}
	for _, e := range es {
		if e.Kind == api.EConf {
			conf = e.Index
		}
		l.items = append(l.items, item{entry: copyEntry(e), conf: conf})
	}
}

// cut takes away the entries from this Index on, which is above the base and not above Last() + 1.
func (l *Log) cut(from int64) {
	left := int(from - 1 - l.snap.Index)
	// What is cut off must not be kept in the spare room.
	clear(l.items[left:])
	l.items = l.items[:left]
}

// without gives the items but for the first n. Those that are left are copied only where they are few, so that a long log
// whose base rises step by step is not copied at each step.
func without(items []item, n int) []item {
	left := items[n:]
	if len(left) > n {
		clear(items[:n])
		return left
	}
	return copyOf(left)
}

// copyOf gives new memory; a list without elements is nil.
func copyOf[T any](list []T) []T {
	return append([]T(nil), list...)
}

func copyEntry(e api.Entry) api.Entry {
	e.Data = copyOf(e.Data)
	return e
}

func copySnap(s api.Snap) api.Snap {
	s.Conf, s.Data = copyOf(s.Conf), copyOf(s.Data)
	return s
}
