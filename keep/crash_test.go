package keep

import (
	"bytes"
	"fmt"
	"iter"
	"math"
	"math/rand"
	"strings"
	"testing"

	"delphi/api"
	"delphi/disk"
	"delphi/wal"
)

// plain says in the chapter's words what is kept, without a disk.
type plain struct {
	hard    api.Hard
	snap    api.Snap
	entries []api.Entry
}

func (p *plain) tell() string { return tellOf(p.hard, p.snap, p.entries) }

func (p *plain) find(index int64) (api.Entry, bool) {
	for _, e := range p.entries {
		if e.Index == index {
			return e, true
		}
	}
	return api.Entry{}, false
}

// drop takes away the entries that go.
func (p *plain) drop(goes func(e api.Entry) bool) {
	var left []api.Entry
	for _, e := range p.entries {
		if !goes(e) {
			left = append(left, e)
		}
	}
	p.entries = left
}

func (p *plain) isForm(r api.Ready) bool {
	if r.Saved && (r.Hard.Term < p.hard.Term || r.Hard.Vote < 0 || r.Hard.Vote > 7) {
		return false
	}
	for _, e := range r.Entries {
		if e.Kind < 1 || e.Kind > 3 || e.Term < 1 {
			return false
		}
	}
	if r.Snap == nil {
		return true
	}
	rising := len(r.Snap.Conf) >= 1 && len(r.Snap.Conf) <= 7
	for i, id := range r.Snap.Conf {
		rising = rising && id >= 1 && id <= 7 && (i == 0 || id > r.Snap.Conf[i-1])
	}
	return rising && r.Snap.Term >= 0 && r.Snap.Index >= 0
}

// save does a Save on a disk that has room.
func (p *plain) save(r api.Ready) api.Errno {
	if !p.isForm(r) {
		return api.ErrForm
	}
	q := *p
	if r.Saved {
		q.hard = r.Hard
	}
	if r.Snap != nil {
		if r.Snap.Index <= q.snap.Index {
			return api.ErrRange
		}
		e, there := q.find(r.Snap.Index)
		q.drop(func(o api.Entry) bool { return o.Index <= r.Snap.Index || !there || e.Term != r.Snap.Term })
		q.snap = *r.Snap
	}
	if r.First > 0 {
		q.drop(func(e api.Entry) bool { return e.Index >= r.First })
		last := q.snap.Index
		if len(q.entries) > 0 {
			last = q.entries[len(q.entries)-1].Index
		}
		if r.First != last+1 {
			return api.ErrRange
		}
		for i, e := range r.Entries {
			if e.Index != r.First+int64(i) {
				return api.ErrRange
			}
			q.entries = append(q.entries, e)
		}
	}
	if tooLong(r) {
		return api.ErrLimit
	}
	*p = q
	return api.OK
}

func (p *plain) compact(s api.Snap) api.Errno {
	e, there := p.find(s.Index)
	if !there || e.Term != s.Term {
		return api.ErrRange
	}
	if len(s.Data) > 20000 {
		return api.ErrLimit
	}
	p.snap = s
	p.drop(func(e api.Entry) bool { return e.Index <= s.Index })
	return api.OK
}

// sizes of data that come by chance, up to so many bytes: most are small.
func randomSize(rng *rand.Rand, most int) int {
	switch rng.Intn(30) {
	case 0:
		return most
	case 1:
		return most + 1
	case 2, 3, 4:
		return rng.Intn(most)
	}
	return rng.Intn(40)
}

func randomBytes(rng *rand.Rand, most int) []byte {
	return bytes.Repeat([]byte{byte('a' + rng.Intn(26))}, randomSize(rng, most))
}

// near gives a number a little below the snapshot's up to a little behind the last entry's.
func near(rng *rand.Rand, p *plain) int64 {
	return p.snap.Index + int64(rng.Intn(len(p.entries)+4)) - 1
}

func randomSnap(rng *rand.Rand, p *plain) api.Snap {
	s := api.Snap{Index: near(rng, p), Term: 1 + rng.Int63n(3), Conf: []int{1 + rng.Intn(3), 4 + rng.Intn(3)}, Data: randomBytes(rng, 20000)}
	if e, there := p.find(s.Index); there && rng.Intn(4) > 0 {
		s.Term = e.Term
	}
	if rng.Intn(20) == 0 {
		s.Conf = []int{3, 2}
	}
	return s
}

func randomReady(rng *rand.Rand, p *plain) api.Ready {
	var r api.Ready
	if rng.Intn(2) == 0 {
		r.Saved, r.Hard = true, api.Hard{Term: max(p.hard.Term+int64(rng.Intn(4))-1, 0), Vote: rng.Intn(8)}
	}
	if rng.Intn(8) == 0 {
		s := randomSnap(rng, p)
		r.Snap = &s
	}
	if rng.Intn(3) > 0 {
		r.First = near(rng, p)
		if rng.Intn(2) == 0 {
			r.First = p.snap.Index + int64(len(p.entries)) + 1
		}
		if r.Snap != nil && rng.Intn(2) == 0 {
			r.First = r.Snap.Index + 1
		}
		for i := range rng.Intn(6) {
			r.Entries = append(r.Entries, api.Entry{Index: r.First + int64(i), Term: 1 + rng.Int63n(3), Kind: 1 + rng.Intn(3), Data: randomBytes(rng, 8192)})
		}
		if len(r.Entries) > 0 && rng.Intn(20) == 0 {
			r.Entries[len(r.Entries)-1].Index++
		}
	}
	return r
}

// A Keep is held against the plain one, and opened anew now and then. Each time the disk has just the room that what is
// kept and the call under way may take: it is never full.
func TestAgainstAPlainKeep(t *testing.T) {
	rng := rand.New(rand.NewSource(5))
	for round := range 120 {
		d := disk.New(2000)
		k, p := open(t, d), &plain{}
		for i := range 120 {
			what := fmt.Sprintf("round %d, call %d", round, i)
			if rng.Intn(6) == 0 {
				s := randomSnap(rng, p)
				d.Room(mostOnDisk(k, api.Ready{Snap: &s}))
				checkErr(t, "P5.2: Compact: "+what, k.Compact(s), p.compact(s))
			} else {
				r := randomReady(rng, p)
				d.Room(mostOnDisk(k, r))
				checkErr(t, "P5.1: Save: "+what, k.Save(r), p.save(r))
			}
			check(t, "P5.1: "+what, k, p.tell())
			checkRoom(t, what, k, d)
			if rng.Intn(4) == 0 {
				checkLasts(t, "P5.1: "+what, k, d)
			}
			if rng.Intn(8) == 0 {
				d = d.Crash(rng.Intn(3), rng.Intn(9))
				k = open(t, d)
			}
			if t.Failed() {
				return
			}
		}
	}
}

// Terms that rise and a log that is cut short each time leave nothing but what is kept.
func TestManyCalls(t *testing.T) {
	k, d := saved(t)
	for i := range int64(3000) {
		r := hard(i, int(i%8))
		if i%5 == 0 {
			r = both(r, from(1+i%4, 1, 1, 1)) // never beyond what is there
			must(t, k.Save(from(1, 1, 1, 1, 1)))
		}
		must(t, k.Save(r))
		checkRoom(t, "many calls", k, d)
	}
	checkLasts(t, "P5.1: many calls", k, d)
	must(t, k.Save(from(1)))
	checkRoom(t, "nothing is left", k, d)
	for i := range int64(300) {
		must(t, k.Save(from(i+1, 1)))
		must(t, k.Compact(api.Snap{Index: i + 1, Term: 1, Conf: []int{1}, Data: make([]byte, 20000)}))
		checkRoom(t, "many snapshots", k, d)
	}
	checkLasts(t, "P5.2: many snapshots", k, d)
}

// With every room each call lasts, or nothing of it.
func TestEveryRoom(t *testing.T) {
	calls := []api.Ready{hard(1, 1), from(1, 1, 1, 1), both(hard(2, 2), from(3, 2, 2, 2)), snap(2, 1, "two"), from(6, 2, 2),
		both(hard(3, 0), snap(5, 2, "five")), both(hard(4, 4), snap(20, 3, "twenty"), from(21, 4, 4)), hard(5, 0), from(21), hard(6, 1)}
	fits := 0
	for room := range 900 {
		d := disk.New(room)
		k, p := open(t, d), &plain{}
		for n, r := range calls {
			what := fmt.Sprintf("P5.1: room %d, call %d", room, n)
			before, beforeFiles := tell(k), files(d)
			switch e := k.Save(r); e {
			case api.OK:
				checkErr(t, what, e, p.save(r))
				fits++
			case api.ErrFull:
				if room >= mostOnDisk(k, r) {
					t.Errorf("%s: ErrFull, with a room of %d", what, mostOnDisk(k, r))
				}
				if files(d) != beforeFiles {
					t.Errorf("%s: the disk has changed", what)
				}
				check(t, what, k, before)
			default:
				// What this call follows may not be there.
				checkErr(t, what, e, p.save(r))
			}
			check(t, what, k, p.tell())
			checkLasts(t, what, k, d)
		}
		d.Room(plenty)
		must(t, k.Save(hard(100, 1)))
		checkLasts(t, "P5.1: room once more", k, d)
	}
	if fits == 0 {
		t.Error("P5.1: no call went")
	}
}

// A call that has to write all anew may fail ahead of that, and behind it, when the log takes what was there away.
func TestEveryRoomForWritingAnew(t *testing.T) {
	errs := 0
	for less := range 700 {
		d := disk.New(plenty)
		k := open(t, d)
		must(t, k.Save(both(hard(1, 1), snap(5, 1, strings.Repeat("s", 200)), from(6, 1, 1))))
		fill(t, k, d)
		before, beforeFiles := tell(k), files(d)
		d.Room(d.Used() + less)
		switch e := k.Save(both(hard(1, 2), from(7, 9))); e {
		case api.OK:
			check(t, "P5.1: written anew", k, strings.Replace(strings.Replace(before, "vote 1", "vote 2", 1), "7.1.2", "7.9.1", 1))
		default:
			errs++
			checkErr(t, "P5.1: no room to write anew", e, api.ErrFull)
			check(t, "P5.1: no room to write anew", k, before)
			if files(d) != beforeFiles {
				t.Error("P5.1: an error changed the disk")
			}
			for n := range 4 {
				check(t, "P5.1: a crash behind a call that failed", open(t, d.Crash(n, 1000)), before)
			}
		}
		checkLasts(t, "P5.1: written anew or not", k, d)
	}
	if errs < 400 || errs == 700 {
		t.Errorf("P5.1: %d of 700 rooms are too small to write anew", errs)
	}
}

// fill saves Hard until one more call has to write all anew.
func fill(t *testing.T, k *Keep, d *disk.Disk) {
	t.Helper()
	for range 100 {
		probe := d.Crash(0, -1)
		must(t, open(t, probe).Save(hard(1, 2)))
		if probe.Used() < d.Used() {
			return
		}
		must(t, k.Save(hard(1, 1)))
	}
	t.Fatal("P5.2: the log is never written anew")
}

// under does a call up to the point where nothing of it lasts yet, and gives what is kept if all of it does.
func under(t *testing.T, k *Keep, r api.Ready) string {
	t.Helper()
	next, ok := k.now.after(r)
	if !ok {
		t.Fatal("P5.1: a call that goes")
	}
	must(t, k.write(r, next))
	return tellOf(next.hard, next.snap, next.entries)
}

// crashes gives what is left by a crash at every number of the changes that wait, the next one torn at every place or,
// where it is long, at every step-th.
func crashes(d *disk.Disk, step int) iter.Seq2[string, *disk.Disk] {
	return func(yield func(string, *disk.Disk) bool) {
		for n := -1; n <= d.Waiting()+1; n++ {
			was := ""
			for torn := -1; torn < d.Used()+step; torn += step {
				left := d.Crash(n, torn)
				now := files(left)
				if now == was && torn > 0 {
					break
				}
				was = now
				if !yield(fmt.Sprintf("a crash at %d, %d", n, torn), left) {
					return
				}
			}
		}
	}
}

// checkCrash opens what a crash leaves: it is as ahead of the call or as behind it, also if a crash comes while it is
// opened; and it goes on.
func checkCrash(t *testing.T, what string, d *disk.Disk, step int, may ...string) string {
	t.Helper()
	k := open(t, d)
	got := tell(k)
	if got != may[0] && got != may[len(may)-1] {
		t.Fatalf("P5.2: %s: %.300s, want one of %.300q", what, got, may)
	}
	checkRoom(t, what, k, d)
	for where, left := range crashes(d, step) {
		check(t, "P5.2: "+what+": while it is opened "+where, open(t, left), got)
	}
	must(t, k.Save(hard(1000, 3)))
	must(t, k.Save(hard(1001, 4)))
	checkLasts(t, "P5.2: "+what+": going on", k, d)
	return got
}

// checkCrashesUnder crashes within a call.
func checkCrashesUnder(t *testing.T, what string, k *Keep, d *disk.Disk, r api.Ready, step int) {
	t.Helper()
	before := tell(k)
	after := under(t, k, r)
	seen := map[string]int{}
	for where, left := range crashes(d, step) {
		seen[checkCrash(t, what+": "+where, left, step, before, after)]++
	}
	check(t, "P5.2: "+what+": a crash ahead of all", open(t, d.Crash(-1, 0)), before)
	check(t, "P5.2: "+what+": a crash behind all", open(t, d.Crash(d.Waiting(), 0)), after)
	if before != after && len(seen) != 2 {
		t.Errorf("P5.2: %s: %d states were seen", what, len(seen))
	}
}

func TestCrashUnderEachCall(t *testing.T) {
	calls := []api.Ready{hard(1, 1), from(1, 1, 1, 1), hard(2, 0), both(hard(2, 2), from(3, 2, 2, 2)), snap(2, 1, "two"), from(6, 2, 2), from(7),
		both(hard(3, 0), snap(5, 2, strings.Repeat("five", 100))), hard(4, 0), hard(5, 1), from(6), hard(6, 1), hard(6, 2), hard(6, 3), snap(6, 9, ""),
		both(hard(7, 4), snap(20, 3, "twenty"), from(21, 4, 4)), hard(8, 0), from(21)}
	for n, r := range calls {
		k, d := saved(t, calls[:n]...)
		checkCrashesUnder(t, fmt.Sprintf("call %d", n), k, d, r, 1)
	}
}

func TestCrashUnderACallThatWritesAnew(t *testing.T) {
	calls := []api.Ready{hard(1, 3), from(7), from(6, 2), snap(6, 1, "six"), both(hard(3, 3), snap(9, 9, ""), from(10, 9))}
	for n, r := range calls {
		k, d := saved(t, both(hard(1, 1), snap(5, 1, "five"), from(6, 1, 1)))
		fill(t, k, d)
		checkCrashesUnder(t, fmt.Sprintf("anew, call %d", n), k, d, r, 1)
	}
	// What is kept becomes far less than what is there.
	k, d := saved(t, from(1, 1, 1, 1), entries(4, 5, 2000))
	checkCrashesUnder(t, "anew, much is gone", k, d, from(1), 1)
}

// entries gives a call of so many entries from first on, with data of this size.
func entries(first int64, count, size int) api.Ready {
	r := api.Ready{First: first}
	for i := range count {
		e := api.Entry{Index: first + int64(i), Term: 1, Kind: 2, Data: bytes.Repeat([]byte{byte(i)}, size)}
		r.Entries = append(r.Entries, e)
	}
	return r
}

func TestCrashUnderALongCall(t *testing.T) {
	k, d := saved(t, hard(1, 1), from(1, 1, 1))
	checkCrashesUnder(t, "a long call", k, d, both(hard(9, 7), entries(2, 12, 8000)), 5003)
	k, d = saved(t, hard(1, 1), entries(1, 12, 8000), entries(1, 12, 8000))
	checkCrashesUnder(t, "a long call anew", k, d, both(hard(9, 7), entries(6, 12, 8192)), 20011)
	k, d = saved(t, hard(1, 1), entries(1, 12, 8000))
	checkCrashesUnder(t, "a snapshot of much", k, d, snap(11, 1, "eleven"), 1009)
}

// Behind a call nothing waits: whatever the crash, what came back is there.
func TestCrashBehindEachCall(t *testing.T) {
	rng := rand.New(rand.NewSource(55))
	for range 10 {
		d := disk.New(plenty)
		k, p := open(t, d), &plain{}
		for range 40 {
			if rng.Intn(6) == 0 {
				s := randomSnap(rng, p)
				checkErr(t, "P5.2: Compact", k.Compact(s), p.compact(s))
			} else {
				r := randomReady(rng, p)
				checkErr(t, "P5.1: Save", k.Save(r), p.save(r))
			}
			for n := -1; n < 3; n++ {
				for _, torn := range []int{-1, 0, 1, 20, math.MaxInt} {
					check(t, "P5.2: a crash behind a call", open(t, d.Crash(n, torn)), p.tell())
				}
			}
		}
	}
}

// onLog gives a disk with a log of these records, from first on.
func onLog(t *testing.T, first int64, records ...[]byte) *disk.Disk {
	t.Helper()
	d := disk.New(plenty)
	l, _ := wal.Open(d)
	for i, r := range records {
		must(t, l.Append(first+int64(i), r))
	}
	l.Sync()
	return d
}

// A log may hold records that are no calls', or calls that can't stand there: what is ahead of them is kept.
func TestRecordsOfOtherKinds(t *testing.T) {
	last := func(text []byte) []byte { return append([]byte{1}, text...) }
	more := func(text []byte) []byte { return append([]byte{0}, text...) }
	good := last(encode(false, both(hard(3, 1), from(1, 1, 1))))
	const goodIs = `term 3 vote 1, 1.1.1 "e1", 2.1.2 "e2"`
	next := encode(false, from(3, 1))
	cases := []struct {
		what    string
		records [][]byte
		want    string
	}{
		{"a call", [][]byte{good}, goodIs},
		{"two calls", [][]byte{good, last(next)}, goodIs + `, 3.1.1 "e3"`},
		{"a call in pieces", [][]byte{good, more(next[:5]), more(nil), more(next[5:7]), last(next[7:])}, goodIs + `, 3.1.1 "e3"`},
		{"a call whose end is a piece of nothing", [][]byte{good, more(next), last(nil)}, goodIs + `, 3.1.1 "e3"`},
		{"a call without an end", [][]byte{good, more(next)}, goodIs},
		{"nothing", [][]byte{nil}, nothing},
		{"a record of nothing", [][]byte{good, nil, last(next)}, goodIs},
		{"a flag that is none", [][]byte{good, append([]byte{2}, next...), last(next)}, goodIs},
		{"a call of nothing", [][]byte{good, last(nil), last(next)}, goodIs},
		{"a call that is cut", [][]byte{good, last(next[:len(next)-1]), last(next)}, goodIs},
		{"more behind a call", [][]byte{good, last(append(bytes.Clone(next), 7)), last(next)}, goodIs},
		{"entries that don't fit", [][]byte{good, last(encode(false, from(4, 1))), last(next)}, goodIs},
		{"entries out of order", [][]byte{good, last(encode(false, api.Ready{First: 3, Entries: list(4, 1)}))}, goodIs},
		{"a snapshot of no Index", [][]byte{good, last(encode(false, snap(0, 1, ""))), last(next)}, goodIs},
		{"a snapshot below 0", [][]byte{good, last(encode(false, snap(math.MinInt64, 1, "")))}, goodIs},
		{"all anew", [][]byte{good, last(encode(true, hard(2, 2)))}, "term 2 vote 2"},
		{"all anew, in pieces", [][]byte{good, more([]byte{1}), last(encode(true, hard(2, 2))[1:])}, "term 2 vote 2"},
		{"all anew, and entries that don't fit", [][]byte{good, last(encode(true, from(3, 1)))}, goodIs},
		{"all anew, and that is cut", [][]byte{good, last([]byte{1, 1, 2})}, goodIs},
		{"members without an end", [][]byte{good, last([]byte{0, 0, 1, 2, 2, 0xfe, 0xff, 0xff, 0xff, 0xff, 0xff, 0xff, 0xff, 0xff, 1})}, goodIs},
	}
	for _, c := range cases {
		for _, first := range []int64{1, 2, 77} {
			d := onLog(t, first, c.records...)
			checkCrash(t, c.what, d.Crash(0, 0), 1, c.want)
			if k := open(t, d.Crash(0, 0)); tell(k) != c.want {
				t.Errorf("P5.2: %s: %s, want %s", c.what, tell(k), c.want)
			}
		}
	}
}

// Records of the greatest numbers are no Keep's: behind them none could come.
func TestRecordsOfTheGreatestNumbers(t *testing.T) {
	call := func(vote int) []byte { return append([]byte{1}, encode(false, hard(3, vote))...) }
	for _, first := range []int64{math.MaxInt64, math.MaxInt64 - 1, math.MaxInt64 - 2, math.MaxInt64 - 50} {
		records := [][]byte{call(1), call(2), call(3)}
		checkCrash(t, "the greatest numbers", onLog(t, first, records[:min(3, math.MaxInt64-first+1)]...), 1, nothing)
	}
	checkCrash(t, "great numbers", onLog(t, lastNumber-9, call(1), call(2)), 1, "term 3 vote 2")
}

func TestOtherFilesStay(t *testing.T) {
	d := disk.New(plenty)
	d.Append("other", []byte("other"))
	k := open(t, d)
	for term := range int64(100) {
		must(t, k.Save(hard(term, 0)))
	}
	if b, _ := d.Read("other"); string(b) != "other" {
		t.Errorf("P5.2: another file: %q", b)
	}
}

// A disk that is full of other files leaves no place for the log's.
func TestDiskOfManyFiles(t *testing.T) {
	d := disk.New(plenty)
	k := open(t, d)
	for i := range api.MaxFiles {
		d.Append(fmt.Sprint("f", i), nil)
	}
	checkErr(t, "P5.1: no file more", k.Save(hard(1, 1)), api.ErrFull)
	check(t, "P5.1: no file more", k, nothing)
	d.Remove("f0")
	for term := range int64(100) {
		if e := k.Save(hard(term, 1)); e != api.OK {
			checkErr(t, "P5.1: no file for a copy", e, api.ErrFull)
			check(t, "P5.1: no file for a copy", k, fmt.Sprintf("term %d vote 1", term-1))
			checkLasts(t, "P5.1: no file for a copy", k, d)
			d.Remove("f1")
			must(t, k.Save(hard(term, 1)))
			return
		}
	}
	t.Error("P5.1: the log was never written anew")
}

// Whatever stands in the log, it opens, and goes on.
func FuzzOpen(f *testing.F) {
	f.Add([]byte{1}, []byte{}, []byte{0})
	f.Add(append([]byte{1}, encode(false, from(1, 1, 1))...), append([]byte{1}, encode(false, snap(2, 1, "a"))...), append([]byte{1}, encode(false, from(3, 1))...))
	f.Add(append([]byte{1}, encode(true, hard(3, 3))...), append([]byte{0}, encode(true, hard(3, 3))...), []byte{1})
	f.Fuzz(func(t *testing.T, one, two, three []byte) {
		d := disk.New(api.MaxDisk)
		l, _ := wal.Open(d)
		for _, b := range [][]byte{one, two, three} {
			l.Append(l.Last()+1, b[:min(len(b), 32768)])
		}
		l.Sync()
		k := open(t, d)
		got := tell(k)
		for n := range d.Waiting() + 1 {
			check(t, "P5.2: opened twice", open(t, d.Crash(n, 0)), got)
		}
		must(t, k.Save(hard(math.MaxInt64, 3)))
		checkLasts(t, "P5.2: any records", k, d)
	})
}
