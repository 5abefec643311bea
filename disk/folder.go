package disk

import (
	"bytes"
	"slices"
	"strings"
)

// Kinds of changes.
const (
	appending = iota + 1
	cutting
	removing
	moving
)

// change is one that went; data is the appended bytes, size what a cut leaves, to the name that a file is moved to.
type change struct {
	kind int
	name string
	data []byte
	size int
	to   string
}

type file struct {
	name string
	data []byte
}

// folder holds files by rising names. No two folders share a file's bytes, so that each may append and cut in place.
type folder []file

// find says where the file stands, or where it would.
func (f folder) find(name string) (int, bool) {
	return slices.BinarySearchFunc(f, name, func(one file, name string) int {
		return strings.Compare(one.name, name)
	})
}

func (f folder) has(name string) bool {
	_, there := f.find(name)
	return there
}

// size counts the bytes of all files.
func (f folder) size() int {
	total := 0
	for _, one := range f {
		total += len(one.data)
	}
	return total
}

func (f folder) clone() folder {
	other := make(folder, len(f))
	for i, one := range f {
		other[i] = file{name: one.name, data: bytes.Clone(one.data)}
	}
	return other
}

// do makes a change; that it may be made was seen when it was asked for.
func (f *folder) do(c change) {
	switch c.kind {
	case appending:
		f.add(c.name, c.data)
	case cutting:
		f.cut(c.name, c.size)
	case removing:
		f.remove(c.name)
	case moving:
		f.move(c.name, c.to)
	}
}

// tear makes what a crash leaves of a change: only an Append leaves something.
func (f *folder) tear(c change, torn int) {
	if c.kind != appending || torn < 0 {
		return
	}
	f.add(c.name, c.data[:min(torn, len(c.data))])
}

func (f *folder) add(name string, data []byte) {
	at, there := f.find(name)
	if !there {
		*f = slices.Insert(*f, at, file{name: name})
	}
	one := &(*f)[at]
	one.data = append(one.data, data...)
}

func (f *folder) cut(name string, size int) {
	if at, there := f.find(name); there {
		one := &(*f)[at]
		one.data = one.data[:size]
	}
}

func (f *folder) remove(name string) {
	if at, there := f.find(name); there {
		*f = slices.Delete(*f, at, at+1)
	}
}

func (f *folder) move(from, to string) {
	at, there := f.find(from)
	if !there || from == to {
		return
	}
	moved := file{name: to, data: (*f)[at].data}
	f.remove(from)
	f.remove(to)
	at, _ = f.find(to)
	*f = slices.Insert(*f, at, moved)
}
