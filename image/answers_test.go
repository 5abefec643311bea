package image

import (
	"bytes"
	"testing"

	"delphi/api"
)

// What Take answers is nobody else's.
func TestBytesAreNew(t *testing.T) {
	m := known(t)
	before := state(m)
	first, second := Take(m), Take(m)
	want := bytes.Clone(second)
	clear(first[:cap(first)])
	if !bytes.Equal(second, want) || !bytes.Equal(Take(m), want) || state(m) != before {
		t.Errorf("P0.3: writing into an answer of Take made others %q and %q", second, Take(m))
	}
	does(t, m, api.CInsert, 1, "n(new)", changes)
	if !bytes.Equal(second, want) {
		t.Errorf("P0.3: a command made bytes that were taken %q", second)
	}
}

// What Load is handed is neither changed nor kept.
func TestLoadKeepsNothing(t *testing.T) {
	good := Take(known(t))
	b := append(make([]byte, 0, len(good)+8), good...)
	copy(b[len(b):cap(b)], "spare...")
	m := loaded(t, b)
	if !bytes.Equal(b, good) || string(b[len(b):cap(b)]) != "spare..." {
		t.Fatalf("P0.3: Load made %q of its argument", b[:cap(b)])
	}
	before := state(m)
	clear(b[:cap(b)])
	if got := state(m); got != before {
		t.Errorf("P0.3: writing into an argument made %s of %s", got, before)
	}
	if !bytes.Equal(Take(m), good) {
		t.Errorf("P0.3: writing into an argument made the image %q", Take(m))
	}
}

// Machines of the same bytes know nothing of one another.
func TestLoadedMachinesAreApart(t *testing.T) {
	was := known(t)
	b := Take(was)
	one, two := loaded(t, b), loaded(t, b)
	before := state(two)
	does(t, one, api.CRetract, 1, "e(a, b)", changes)
	does(t, one, api.CInstall, 2, "u(X) :- n(X).", changes)
	if state(two) != before || state(was) != before {
		t.Errorf("P0.5: another machine's commands made %s, and %s, of %s", state(two), state(was), before)
	}
}
