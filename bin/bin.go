// Package bin: numbers and texts as bytes: see doc/01-bin.md.
package bin

import (
	"bytes"
)

// A uint64 takes at most ten groups of seven bits; the tenth has room for one bit alone.
const (
	groupBits  = 7
	groupMask  = 1<<groupBits - 1
	moreFollow = 1 << groupBits
	maxGroups  = 10
	topMax     = 1
)

// Writer gathers what is written; the zero Writer is empty.
type Writer struct {
	out []byte
}

// Num: see the chapter.
func (w *Writer) Num(n int64) {
	if w == nil {
		return
	}
	u := fold(n)
	for u > groupMask {
		w.out = append(w.out, byte(u&groupMask)|moreFollow)
		u >>= groupBits
	}
	w.out = append(w.out, byte(u))
}

// Text: see the chapter.
func (w *Writer) Text(b []byte) {
	if w == nil {
		return
	}
	w.Num(int64(len(b)))
	w.out = append(w.out, b...)
}

// Flag: see the chapter.
func (w *Writer) Flag(b bool) {
	if w == nil {
		return
	}
	if b {
		w.out = append(w.out, 1)
	} else {
		w.out = append(w.out, 0)
	}
}

// Bytes: see the chapter.
func (w *Writer) Bytes() []byte {
	if w == nil {
		return nil
	}
	return bytes.Clone(w.out)
}

// fold lays the numbers below 0 between the others, so that those near 0 are short on either side.
func fold(n int64) uint64 {
	if n < 0 {
		return uint64(-1-n)*2 + 1
	}
	return uint64(n) * 2
}

// unfold undoes fold; each half fits into an int64.
func unfold(u uint64) int64 {
	half := int64(u / 2)
	if u%2 == 1 {
		return -1 - half
	}
	return half
}

// Reader reads from a copy of its own; once a read did not go, none goes any more.
type Reader struct {
	rest   []byte
	failed bool
}

// Read: see the chapter.
func Read(b []byte) *Reader {
	return &Reader{rest: bytes.Clone(b)}
}

// Num: see the chapter.
func (r *Reader) Num() int64 {
	if !r.OK() {
		return 0
	}
	u, size := groups(r.rest)
	if size == 0 {
		r.fail()
		return 0
	}
	r.rest = r.rest[size:]
	return unfold(u)
}

// Text: see the chapter.
func (r *Reader) Text() []byte {
	size := r.Num()
	if !r.OK() {
		return nil
	}
	if size < 0 || size > int64(len(r.rest)) {
		r.fail()
		return nil
	}
	text := bytes.Clone(r.rest[:size])
	r.rest = r.rest[size:]
	return text
}

// Flag: see the chapter.
func (r *Reader) Flag() bool {
	if !r.OK() {
		return false
	}
	if len(r.rest) == 0 || r.rest[0] > 1 {
		r.fail()
		return false
	}
	flag := r.rest[0] == 1
	r.rest = r.rest[1:]
	return flag
}

// Left: see the chapter.
func (r *Reader) Left() int {
	if r == nil {
		return 0
	}
	return len(r.rest)
}

// OK: see the chapter.
func (r *Reader) OK() bool {
	return r != nil && !r.failed
}

// fail drops the rest too, since a failed reader has nothing left.
func (r *Reader) fail() {
	r.rest = nil
	r.failed = true
}

// groups reads the number at the beginning of b and says how many bytes it has; 0: there is none.
func groups(b []byte) (uint64, int) {
	var u uint64
	for i := 0; i < len(b) && i < maxGroups; i++ {
		u |= uint64(b[i]&groupMask) << (groupBits * i)
		if b[i]&moreFollow != 0 {
			continue
		}
		padded := i > 0 && b[i] == 0
		beyond := i == maxGroups-1 && b[i] > topMax
		if padded || beyond {
			return 0, 0
		}
		return u, i + 1
	}
	return 0, 0
}
