package command

import (
	"bytes"
	"iter"
	"math/rand"
	"slices"
)

// pieces are bytes that may stand for others: small and great numbers, such of too many bytes, flags.
var pieces = []string{
	"", "\x00\x00", "\x01\x01", "\x80\x00", "\x80\x01", "\x82\x00", "\xff\xff", "\x80\x80\x80", "\xd0\x0f", "\xd2\x0f",
	nums(1<<20 + 1), nums(-1 << 20), nums(1 << 62), nums(-1 << 63), nums(1<<63 - 1), "\x80\x80\x80\x80\x80\x80\x80\x80\x80\x02",
}

// nearby gives texts near b: each byte as every other one, each byte as one of the pieces, pieces laid between,
// beginnings, ends, and b with some of its bytes drawn anew. Each of them is a list of its own.
func nearby(b []byte) iter.Seq[[]byte] {
	return func(yield func([]byte) bool) {
		for at := range len(b) + 1 {
			for c := range 256 {
				x := slices.Insert(bytes.Clone(b), at, byte(c))
				if !yield(x) || at < len(b) && !yield(slices.Delete(bytes.Clone(x), at+1, at+2)) {
					return
				}
			}
			for _, p := range pieces {
				x := slices.Insert(bytes.Clone(b), at, []byte(p)...)
				if !yield(x) || at < len(b) && !yield(slices.Delete(bytes.Clone(x), at+len(p), at+len(p)+1)) {
					return
				}
			}
			if !yield(bytes.Clone(b[:at])) || !yield(bytes.Clone(b[at:])) {
				return
			}
		}
		rng := rand.New(rand.NewSource(int64(len(b))))
		for range 2000 {
			x := bytes.Clone(b)
			for range 1 + rng.Intn(3) {
				if len(x) > 0 {
					x[rng.Intn(len(x))] = byte(rng.Intn(256))
				}
			}
			if !yield(x) {
				return
			}
		}
	}
}
