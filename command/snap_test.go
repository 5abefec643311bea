package command

import (
	"bytes"
	"reflect"
	"slices"
	"testing"

	"delphi/api"
)

func someSnaps() []api.Snap {
	return []api.Snap{
		{},
		{Index: 4, Term: 5, Conf: []int{1, 2}, Data: []byte("xy")},
		{Index: -1, Term: 1 << 50, Conf: []int{7, 0, -9}, Data: bytes.Repeat([]byte{0, 255}, 40)},
	}
}

func TestSnapsComeBack(t *testing.T) {
	w := snaps()
	turns := []func(s *api.Snap, n int64){
		func(s *api.Snap, n int64) { s.Index = n },
		func(s *api.Snap, n int64) { s.Term = n },
		func(s *api.Snap, n int64) { s.Conf = []int{1, int(n)} },
	}
	if fields := reflect.TypeFor[api.Snap]().NumField(); len(turns)+len([]string{"Data"}) != fields {
		t.Fatalf("P17.2: a snapshot has %d fields", fields)
	}
	for _, base := range someSnaps() {
		w.comes(t, base)
		for _, turn := range turns {
			for _, n := range edges {
				s := base
				turn(&s, n)
				w.comes(t, s)
			}
		}
		for _, n := range lengths {
			s := base
			s.Data = bytes.Repeat([]byte("d"), n)
			w.comes(t, s)
			s.Conf = slices.Repeat([]int{5}, n)
			w.comes(t, s)
		}
	}
}

func TestSnapsCutAndFollowed(t *testing.T) { snaps().cutAndFollowed(t, someSnaps()) }

func TestSnapsNearby(t *testing.T) { snaps().nearby(t, someSnaps()) }
