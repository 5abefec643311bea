package command

import (
	"bytes"
	"fmt"
	"math"
	"math/rand"
	"reflect"
	"slices"
	"testing"

	"delphi/api"
)

// told tells all of a message or a snapshot; a list that is empty is told as none.
func told(x any) string { return fmt.Sprintf("%v", x) }

// edges are numbers at which bytes become more, and the least and the greatest.
var edges = []int64{math.MinInt64, math.MinInt64 + 1, -1 << 50, -1<<32 - 1, -1 << 31, -8193, -65, -64, -2, -1, 0, 1, 2, 63, 64, 127, 128, 255, 256, 8191, 8192, 1<<31 - 1, 1 << 31, 1 << 32, 1<<32 + 1, 1 << 50, 1<<62 - 1, 1 << 62, math.MaxInt64 - 1, math.MaxInt64}

// lengths are those of lists and data at which bytes become more.
var lengths = []int{0, 1, 2, 3, 7, 8, 9, 63, 64, 65, 127, 128, 1000, 8192, 70000}

// both checks that a message's or a snapshot's bytes give it back, and says them; each has bytes of its own.
type both[T any] struct {
	write func(T) []byte
	read  func([]byte) (T, api.Errno)
	seen  map[string]string
}

func messages() *both[api.Msg] {
	return &both[api.Msg]{Msg, ReadMsg, map[string]string{}}
}

func snaps() *both[api.Snap] {
	return &both[api.Snap]{Snap, ReadSnap, map[string]string{}}
}

func (w *both[T]) comes(t *testing.T, x T) []byte {
	t.Helper()
	b := w.write(x)
	got, err := w.read(b)
	if err != api.OK || told(got) != told(x) {
		t.Fatalf("P17.2: %.200v comes back as %.200v, %v", x, got, err)
	}
	if again := w.write(got); !bytes.Equal(again, b) {
		t.Fatalf("P17.2: %.200v: %.80x, and once more %.80x", x, b, again)
	}
	if other, there := w.seen[string(b)]; there && other != told(x) {
		t.Fatalf("P17.2: %.200v has the bytes of %.200s", x, other)
	}
	w.seen[string(b)] = told(x)
	return b
}

// none checks bytes that no message or snapshot has.
func (w *both[T]) none(t *testing.T, b []byte) {
	t.Helper()
	var zero T
	if got, err := w.read(b); err != api.ErrForm || told(got) != told(zero) {
		t.Fatalf("P17.2: %.80x: %.200v, %v, want ErrForm", b, got, err)
	}
}

// oneText checks that bytes that are taken are those that are written.
func (w *both[T]) oneText(t *testing.T, b []byte) bool {
	t.Helper()
	got, err := w.read(b)
	if err != api.OK {
		w.none(t, b)
		return false
	}
	if again := w.write(got); !bytes.Equal(again, b) {
		t.Fatalf("P17.2: %x is read as %v, which has the bytes %x", b, got, again)
	}
	return true
}

// cutAndFollowed checks that what lacks something, or has something behind, is none.
func (w *both[T]) cutAndFollowed(t *testing.T, xs []T) {
	t.Helper()
	for _, x := range xs {
		b := w.write(x)
		for n := range len(b) {
			w.none(t, b[:n])
		}
		for n := range 256 {
			w.none(t, append(bytes.Clone(b), byte(n)))
		}
		w.none(t, slices.Repeat(b, 2))
	}
	w.none(t, nil)
	w.none(t, make([]byte, 1000))
	w.none(t, bytes.Repeat([]byte{128}, 1000))
	w.none(t, bytes.Repeat([]byte{255}, 1000))
}

// nearby checks that of bytes that are near one's own those that are taken are one's own too: one text for each.
func (w *both[T]) nearby(t *testing.T, xs []T) {
	t.Helper()
	taken, all := 0, 0
	for _, x := range xs {
		for b := range nearby(w.write(x)) {
			all++
			if w.oneText(t, b) {
				taken++
			}
		}
	}
	if taken < 1000 || all-taken < 1000 {
		t.Errorf("P17.2: %d of %d texts were taken", taken, all)
	}
}

// someMessages have each field in use, or none.
func someMessages() []api.Msg {
	return []api.Msg{
		{},
		{Kind: -5, From: 1, To: 2, Term: 3, Index: 1 << 60, LogTerm: 5, Commit: 6, Entries: []api.Entry{{Index: 7, Term: 8, Kind: 9, Data: []byte("ab")}, {}}, Ok: true, Hint: 10, Conf: []int{3, -1}, Data: []byte{0, 255}, Offset: 11, Size: 12, Ctx: 13},
		{Kind: api.MAsk, From: 103, To: 1, Data: []byte("\x04\x06\x80\x01\x08p(a)")},
		{Kind: api.MSnap, From: 1, To: 7, Term: 1 << 50, Index: 9, LogTerm: 4, Conf: []int{1, 2, 3, 4, 5, 6, 7}, Data: bytes.Repeat([]byte("s"), 64), Offset: 128, Size: 1000, Ctx: 1 << 50},
		{Kind: api.MAppend, From: 2, To: 3, Term: 70, Index: 100, LogTerm: 69, Commit: 99, Entries: []api.Entry{{Index: 101, Term: 70, Kind: api.EConf, Data: []byte{1, 2, 3}}, {Index: 102, Term: 70, Kind: api.ENop}, {Index: 103, Term: 70, Kind: api.EData, Data: bytes.Repeat([]byte("e"), 70)}}},
	}
}

func TestMessagesComeBack(t *testing.T) {
	w := messages()
	for _, m := range someMessages() {
		w.comes(t, m)
	}
}

// Each number of a message, also of an entry and of Conf, alone and beside others: none takes another one's place.
func TestNumbersOfMessages(t *testing.T) {
	w := messages()
	turns := []func(m *api.Msg, n int64){
		func(m *api.Msg, n int64) { m.Kind = int(n) },
		func(m *api.Msg, n int64) { m.From = int(n) },
		func(m *api.Msg, n int64) { m.To = int(n) },
		func(m *api.Msg, n int64) { m.Term = n },
		func(m *api.Msg, n int64) { m.Index = n },
		func(m *api.Msg, n int64) { m.LogTerm = n },
		func(m *api.Msg, n int64) { m.Commit = n },
		func(m *api.Msg, n int64) { m.Hint = n },
		func(m *api.Msg, n int64) { m.Offset = int(n) },
		func(m *api.Msg, n int64) { m.Size = int(n) },
		func(m *api.Msg, n int64) { m.Ctx = n },
	}
	lists := []func(m *api.Msg, n int64){
		func(m *api.Msg, n int64) { m.Entries = []api.Entry{{}, {Index: n}} },
		func(m *api.Msg, n int64) { m.Entries = []api.Entry{{Term: n}, {}} },
		func(m *api.Msg, n int64) { m.Entries = []api.Entry{{Kind: int(n)}} },
		func(m *api.Msg, n int64) { m.Conf = []int{int(n), 1} },
		func(m *api.Msg, n int64) { m.Ok = n%2 == 0 },
	}
	if fields := reflect.TypeFor[api.Msg]().NumField(); len(turns)+len([]string{"Entries", "Ok", "Conf", "Data"}) != fields {
		t.Fatalf("P17.2: a message has %d fields", fields)
	}
	for _, base := range someMessages() {
		for _, turn := range append(turns, lists...) {
			for _, n := range edges {
				m := base
				turn(&m, n)
				w.comes(t, m)
			}
		}
	}
}

// Lists and data of many lengths, beside one another.
func TestListsOfMessages(t *testing.T) {
	w := messages()
	for _, n := range lengths {
		entries, conf, data := make([]api.Entry, n), make([]int, n), make([]byte, n)
		for i := range n {
			entries[i] = api.Entry{Index: int64(i), Term: int64(i % 5), Kind: i % 4, Data: data[:i%3]}
			conf[i], data[i] = i-3, byte(i)
		}
		w.comes(t, api.Msg{Entries: entries})
		w.comes(t, api.Msg{Conf: conf})
		w.comes(t, api.Msg{Data: data})
		w.comes(t, api.Msg{Entries: []api.Entry{{Data: data}, {Index: 1}, {Data: data}}, Ok: true})
		w.comes(t, api.Msg{Kind: 1, Entries: entries, Ok: true, Conf: conf, Data: data, Ctx: 1})
	}
}

// Lists stand in their order, as they are: not sorted, none that comes twice left out.
func TestOrderOfLists(t *testing.T) {
	w, s := messages(), snaps()
	for _, conf := range [][]int{{1, 2, 3}, {3, 2, 1}, {2, 3, 1}, {1, 1, 2}, {2, 1, 1}, {1, 2}, {2, 1}, {1, 1}, {1}, {}} {
		w.comes(t, api.Msg{Conf: conf})
		s.comes(t, api.Snap{Conf: conf})
		var entries []api.Entry
		for _, n := range conf {
			entries = append(entries, api.Entry{Index: int64(n), Term: 5 - int64(n), Kind: n, Data: []byte{byte(n), 0}})
		}
		w.comes(t, api.Msg{Entries: entries})
	}
	if n, most := len(w.seen), 19; n != most {
		t.Errorf("P17.2: %d messages that differ have %d texts", most, n)
	}
}

// Every byte may stand in data.
func TestDataOfMessages(t *testing.T) {
	w, s := messages(), snaps()
	for b := range 256 {
		data := []byte{byte(b), 1, byte(b)}
		w.comes(t, api.Msg{Data: data})
		w.comes(t, api.Msg{Entries: []api.Entry{{Data: data}}})
		s.comes(t, api.Snap{Data: data})
	}
}

// An empty list is like none.
func TestEmptyLists(t *testing.T) {
	none, empty := api.Msg{Kind: 5, Ctx: 7}, api.Msg{Kind: 5, Ctx: 7, Entries: []api.Entry{}, Conf: []int{}, Data: []byte{}}
	if a, b := Msg(none), Msg(empty); !bytes.Equal(a, b) {
		t.Errorf("P17.2: without lists %x, with empty ones %x", a, b)
	}
	none.Entries, empty.Entries = []api.Entry{{Term: 1}}, []api.Entry{{Term: 1, Data: []byte{}}}
	if a, b := Msg(none), Msg(empty); !bytes.Equal(a, b) {
		t.Errorf("P17.2: an entry without data %x, with empty data %x", a, b)
	}
	if a, b := Snap(api.Snap{Index: 1}), Snap(api.Snap{Index: 1, Conf: []int{}, Data: []byte{}}); !bytes.Equal(a, b) {
		t.Errorf("P17.2: without lists %x, with empty ones %x", a, b)
	}
	spare := make([]byte, 0, 100)
	if a, b := Msg(none), Msg(api.Msg{Kind: 5, Ctx: 7, Entries: append(make([]api.Entry, 0, 9), api.Entry{Term: 1, Data: spare}), Conf: make([]int, 0, 9), Data: spare}); !bytes.Equal(a, b) {
		t.Errorf("P17.2: without spare room %x, with it %x", a, b)
	}
}

func TestMessagesCutAndFollowed(t *testing.T) { messages().cutAndFollowed(t, someMessages()) }

func TestMessagesNearby(t *testing.T) { messages().nearby(t, someMessages()) }

func drawnNum(rng *rand.Rand) int64 {
	if rng.Intn(3) == 0 {
		return edges[rng.Intn(len(edges))]
	}
	return int64(rng.Uint64()) >> rng.Intn(64)
}

func drawnData(rng *rand.Rand) []byte {
	data := make([]byte, max(0, rng.Intn(20)-8))
	rng.Read(data)
	return data
}

func drawnConf(rng *rand.Rand) []int {
	var conf []int
	for range max(0, rng.Intn(9)-4) {
		conf = append(conf, int(drawnNum(rng)))
	}
	return conf
}

func drawnMessage(rng *rand.Rand) api.Msg {
	num := func() int64 { return drawnNum(rng) }
	m := api.Msg{
		Kind: int(num()), From: int(num()), To: int(num()), Term: num(), Index: num(), LogTerm: num(), Commit: num(), Ok: rng.Intn(2) == 0,
		Hint: num(), Conf: drawnConf(rng), Data: drawnData(rng), Offset: int(num()), Size: int(num()), Ctx: num(),
	}
	for range max(0, rng.Intn(9)-4) {
		m.Entries = append(m.Entries, api.Entry{Index: num(), Term: num(), Kind: int(num()), Data: drawnData(rng)})
	}
	return m
}

// Drawn messages and snapshots, and those whose bytes were changed somewhere.
func TestDrawnMessages(t *testing.T) {
	rng := rand.New(rand.NewSource(17))
	w, s := messages(), snaps()
	for range 4000 {
		b := w.comes(t, drawnMessage(rng))
		c := s.comes(t, api.Snap{Index: drawnNum(rng), Term: drawnNum(rng), Conf: drawnConf(rng), Data: drawnData(rng)})
		for range 5 {
			w.oneText(t, spoilt(rng, b))
			s.oneText(t, spoilt(rng, c))
		}
		w.oneText(t, drawnData(rng))
		s.oneText(t, drawnData(rng))
	}
}

func spoilt(rng *rand.Rand, b []byte) []byte {
	at := rng.Intn(len(b) + 1)
	until := min(at+rng.Intn(3), len(b))
	return slices.Concat(b[:at], []byte(pieces[rng.Intn(len(pieces))]), b[until:])
}
