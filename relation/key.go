package relation

import (
	"math"
	"slices"

	"delphi/api"
)

// key is a row as a value: behind the row's own numbers stand zeros, so that the keys of one width rise as their rows do.
type key [api.MaxArity]int

func keyOf(r Row) key {
	var k key
	copy(k[:], r)
	return k
}

func compare(a, b key) int {
	return slices.Compare(a[:], b[:])
}

func (k key) row(width int) Row {
	r := make(Row, width)
	copy(r, k[:])
	return r
}

// lead tells how many numbers are asked for from the front on, without a gap: the rows that have them stand side by side.
func (k key) lead() int {
	n := 0
	for n < len(k) && k[n] > 0 {
		n++
	}
	return n
}

// low is the least key that begins as k does, as far as lead says.
func (k key) low(lead int) key {
	for i := lead; i < len(k); i++ {
		k[i] = math.MinInt
	}
	return k
}

func (k key) begins(other key, lead int) bool {
	return slices.Equal(k[:lead], other[:lead])
}

func (k key) answers(asked key) bool {
	for i, n := range asked {
		if n > 0 && k[i] != n {
			return false
		}
	}
	return true
}
