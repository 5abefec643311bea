package wal

import (
	"bytes"
	"fmt"
	"math"
	"math/rand"
	"slices"
	"strings"
	"testing"

	"delphi/api"
	"delphi/bin"
	"delphi/disk"
	"delphi/frame"
)

func TestOpenOfNoDisk(t *testing.T) {
	if l, e := Open(nil); l != nil || e != api.ErrRange {
		t.Errorf("P4.2: %v, %d", l, e)
	}
}

func TestOpenOfAnEmptyDisk(t *testing.T) {
	for _, room := range []int{math.MinInt, -1, 0, 1, plenty, math.MaxInt} {
		d := disk.New(room)
		l := open(t, d)
		check(t, "P4.2: an empty disk", l, "empty")
		if d.Waiting() != 0 || len(d.Names()) != 0 {
			t.Errorf("P4.2: Open of an empty disk made changes: %s", files(d))
		}
		d.Room(plenty)
		checkGoesOn(t, "an empty disk", l, d)
	}
}

func TestOpenOfWhatIsWholeChangesNothing(t *testing.T) {
	l, d := filled(t, 3, names(4)...)
	l.Sync()
	before := files(d)
	m := open(t, d)
	check(t, "P4.2: opened twice", m, tell(t, l))
	if files(d) != before {
		t.Errorf("P4.2: %s, want %s", files(d), before)
	}
	checkGoesOn(t, "opened twice", m, d)
}

// onFile gives a disk whose file of this name has these bytes.
func onFile(name string, b []byte) *disk.Disk {
	d := disk.New(plenty)
	d.Append(name, b)
	d.Sync()
	return d
}

// checkOpens finds whether the disk opens as one of the logs that may be, also if a crash comes while it is opened, and
// whether the log goes on.
func checkOpens(t *testing.T, what string, d *disk.Disk, may ...string) {
	t.Helper()
	l := open(t, d)
	got := tell(t, l)
	if !slices.Contains(may, got) {
		t.Fatalf("P4.2: %s: %.200s, want one of %.1000q", what, got, may)
	}
	for n := range d.Waiting() + 1 {
		for torn := -1; torn < 3; torn++ {
			check(t, what+": a crash while it is opened", open(t, d.Crash(n, torn)), got)
		}
	}
	checkGoesOn(t, what, l, d)
}

// fronts are the logs of the first records, from none to all of them.
func fronts(first int64, records ...string) []string {
	var all []string
	for i := range len(records) + 1 {
		all = append(all, want(first, records[:i]...))
	}
	return all
}

func TestFileCutAnywhere(t *testing.T) {
	l, d := filled(t, 5, names(5)...)
	l.Sync()
	for _, name := range d.Names() {
		whole, _ := d.Read(name)
		for size := range len(whole) {
			less := d.Crash(0, -1)
			less.Cut(name, size)
			less.Sync()
			checkOpens(t, fmt.Sprintf("%d bytes of %d", size, len(whole)), less, fronts(5, names(5)...)...)
		}
	}
}

func TestFileSpoiltAnywhere(t *testing.T) {
	l, d := filled(t, 5, names(5)...)
	l.Sync()
	for _, name := range d.Names() {
		whole, _ := d.Read(name)
		for at := range whole {
			for _, by := range []byte{1, 0x80, 0xff} {
				b := bytes.Clone(whole)
				b[at] ^= by
				spoilt := d.Crash(0, -1)
				spoilt.Remove(name)
				spoilt.Append(name, b)
				spoilt.Sync()
				checkOpens(t, fmt.Sprintf("byte %d of %d", at, len(whole)), spoilt, fronts(5, names(5)...)...)
			}
		}
	}
}

func TestBytesBehindTheRecords(t *testing.T) {
	l, d := filled(t, 5, names(5)...)
	l.Sync()
	for _, name := range d.Names() {
		for _, junk := range []string{"\x00", "junk", strings.Repeat("\x00", 40), strings.Repeat("\xff", 40)} {
			more := d.Crash(0, -1)
			more.Append(name, []byte(junk))
			more.Sync()
			checkOpens(t, fmt.Sprintf("%q behind the records", junk), more, tell(t, l))
		}
	}
}

// sealed gives a seal of what the function writes.
func sealed(write func(w *bin.Writer)) string {
	var w bin.Writer
	write(&w)
	return string(frame.Seal(w.Bytes()))
}

// recordOf gives the seal of a record, be it one that may stand in a log or not.
func recordOf(n int64, text string) string {
	return sealed(func(w *bin.Writer) {
		w.Num(n)
		w.Text([]byte(text))
	})
}

// Seals may be whole, and what they hold no records that a log may have.
func TestWholeSealsThatAreNoLog(t *testing.T) {
	cases := []struct{ what, file, want string }{
		{"two records", recordOf(4, "a") + recordOf(5, "b"), want(4, "a", "b")},
		{"nothing sealed", string(frame.Seal(nil)), "empty"},
		{"a number alone", sealed(func(w *bin.Writer) { w.Num(1) }), "empty"},
		{"a text that is cut", string(frame.Seal([]byte("\x02\x06ab"))), "empty"},
		{"a number in too many bytes", string(frame.Seal([]byte("\x82\x00\x02a"))), "empty"},
		{"more behind the text", sealed(func(w *bin.Writer) { w.Num(1); w.Text(nil); w.Flag(false) }), "empty"},
		{"the number 0", recordOf(0, "a") + recordOf(1, "b"), "empty"},
		{"the number -1", recordOf(-1, "a"), "empty"},
		{"the least number", recordOf(math.MinInt64, "a"), "empty"},
		{"a record too long", recordOf(1, strings.Repeat("x", 32769)), "empty"},
		{"the longest record", recordOf(1, strings.Repeat("x", 32768)), want(1, strings.Repeat("x", 32768))},
		{"the longest seal", recordOf(1, strings.Repeat("x", 65532)), "empty"},
		{"a gap", recordOf(4, "a") + recordOf(6, "b") + recordOf(7, "c"), want(4, "a")},
		{"a number twice", recordOf(4, "a") + recordOf(4, "b") + recordOf(5, "c"), want(4, "a")},
		{"backwards", recordOf(4, "a") + recordOf(3, "b"), want(4, "a")},
		{"no number behind the last", recordOf(math.MaxInt64, "a") + recordOf(math.MinInt64, "b"), want(math.MaxInt64, "a")},
		{"0 behind a record", recordOf(4, "a") + recordOf(0, "b") + recordOf(5, "c"), want(4, "a")},
		{"something else between", recordOf(4, "a") + string(frame.Seal(nil)) + recordOf(5, "b"), want(4, "a")},
	}
	for _, c := range cases {
		checkOpens(t, c.what, onFile(logFile, []byte(c.file)), c.want)
	}
}

// A record's own bytes may look like records: what a crash tears off must not let them be read.
func TestRecordsWithinARecord(t *testing.T) {
	inner := recordOf(2, "inner") + recordOf(3, "inner too")
	for torn := -1; torn <= len(inner)+40; torn++ {
		l, d := filled(t, 1, "a")
		l.Sync()
		must(t, l.Append(2, []byte(inner)))
		checkOpens(t, fmt.Sprintf("torn at %d", torn), d.Crash(0, torn), want(1, "a"), want(1, "a", inner))
	}
}

func TestJunkInEveryFile(t *testing.T) {
	rng := rand.New(rand.NewSource(4))
	whole := recordOf(1, "a") + recordOf(2, "b")
	for round := range 300 {
		d := disk.New(plenty)
		for _, name := range []string{logFile, copyFile, "w0", "w7", "w.", "wal", "wwwwwwwwwwwwwwww"} {
			junk := make([]byte, rng.Intn(60))
			rng.Read(junk)
			if rng.Intn(2) == 0 {
				junk = append([]byte(whole), junk...)
			}
			if rng.Intn(4) > 0 {
				d.Append(name, junk)
			}
		}
		d.Sync()
		checkOpens(t, fmt.Sprintf("round %d", round), d, "empty", want(1, "a", "b"))
	}
}

func TestJunkThatFillsTheDisk(t *testing.T) {
	for _, name := range []string{logFile, copyFile, "w7"} {
		d := disk.New(100)
		d.Append(name, make([]byte, 100))
		d.Sync()
		checkOpens(t, name, d, "empty")
	}
	d := disk.New(plenty)
	for i := range api.MaxFiles {
		d.Append(fmt.Sprintf("w%d", i), nil)
	}
	d.Sync()
	checkOpens(t, "64 files", d, "empty")
}

// script drives a log and knows what it may be behind a crash: the fronts of the calls that were OK, from the last Sync on.
type script struct {
	t      *testing.T
	d      *disk.Disk
	l      *Log
	fronts []string
}

func newScript(t *testing.T, room int) *script {
	d := disk.New(room)
	s := &script{t: t, d: d, l: open(t, d)}
	s.fronts = []string{tell(t, s.l)}
	return s
}

// did notes a call, and finds whether one that was not OK changed something.
func (s *script) did(e api.Errno) {
	now := tell(s.t, s.l)
	if e == api.OK {
		s.fronts = append(s.fronts, now)
	} else if now != s.fronts[len(s.fronts)-1] {
		s.t.Errorf("P4.1: error %d changed %s to %s", e, s.fronts[len(s.fronts)-1], now)
	}
}

func (s *script) sync() {
	s.l.Sync()
	s.fronts = s.fronts[len(s.fronts)-1:]
}

// crash goes on with what is left of the disk.
func (s *script) crash(n, torn int) {
	s.d = s.d.Crash(n, torn)
	s.l = open(s.t, s.d)
	s.fronts = []string{tell(s.t, s.l)}
}

// checkCrashes crashes at every number of changes that wait, and tears the next one at every place.
func (s *script) checkCrashes() {
	s.t.Helper()
	// A change may be torn at as many places as it has bytes: beyond that it is whole, and nothing new comes.
	most := s.d.Used() + 2
	for n := -1; n <= s.d.Waiting()+1; n++ {
		before := ""
		for torn := -1; torn < most; torn++ {
			left := s.d.Crash(n, torn)
			now := files(left)
			if now == before && torn > 0 {
				break
			}
			before = now
			checkOpens(s.t, fmt.Sprintf("a crash at %d, %d", n, torn), left, s.fronts...)
		}
	}
	check(s.t, "P4.2: a crash behind all changes", open(s.t, s.d.Crash(s.d.Waiting(), 0)), s.fronts[len(s.fronts)-1])
	check(s.t, "P4.2: a crash ahead of all changes", open(s.t, s.d.Crash(-1, 0)), s.fronts[0])
}

func TestCrashBehindEachCall(t *testing.T) {
	calls := []func(s *script){
		func(s *script) { s.did(s.l.Append(3, []byte("one"))) },
		func(s *script) { s.did(s.l.Append(4, nil)) },
		func(s *script) { s.did(s.l.Append(5, []byte("two"))) },
		func(s *script) { s.did(s.l.From(4)) },
		func(s *script) { s.did(s.l.Append(4, []byte("three"))) },
		func(s *script) { s.did(s.l.Append(5, []byte("four"))) },
		func(s *script) { s.did(s.l.Append(6, []byte("five"))) },
		func(s *script) { s.did(s.l.Until(4)) },
		func(s *script) { s.did(s.l.Append(7, []byte("six"))) },
		func(s *script) { s.did(s.l.From(6)) },
		func(s *script) { s.did(s.l.Append(6, []byte("seven"))) },
		func(s *script) { s.did(s.l.Until(5)) },
		func(s *script) { s.did(s.l.Until(6)) },
		func(s *script) { s.did(s.l.Append(2, []byte("eight"))) },
		func(s *script) { s.did(s.l.From(1)) },
		func(s *script) { s.did(s.l.Append(9, []byte("nine"))) },
	}
	// A Sync ahead of each call in turn, and none at all.
	for syncAt := range len(calls) + 1 {
		s := newScript(t, plenty)
		for i, call := range calls {
			if i == syncAt {
				s.sync()
			}
			call(s)
			s.checkCrashes()
		}
		check(t, "P4.1: the script", s.l, want(9, "nine"))
	}
}

// step makes one call by chance; many numbers are near the log's own, and rooms are narrow, so that all errors come.
func (s *script) step(rng *rand.Rand) {
	near := s.l.First() + int64(rng.Intn(int(s.l.Last()-s.l.First())+4)) - 1
	switch k := rng.Intn(20); {
	case k < 9:
		next := s.l.Last() + 1
		if s.l.Last() == 0 || rng.Intn(8) == 0 {
			next = int64(rng.Intn(12))
		}
		s.did(s.l.Append(next, bytes.Repeat([]byte{byte('a' + rng.Intn(26))}, rng.Intn(12))))
	case k < 12:
		s.did(s.l.From(near))
	case k < 15:
		s.did(s.l.Until(near))
	case k < 17:
		s.sync()
	case k < 18:
		s.d.Room(60 + rng.Intn(300))
	default:
		s.crash(rng.Intn(s.d.Waiting()+2)-1, rng.Intn(30)-1)
	}
}

func TestCrashesOfRandomScripts(t *testing.T) {
	rng := rand.New(rand.NewSource(44))
	for range 30 {
		s := newScript(t, 200)
		for range 40 {
			s.step(rng)
			s.checkRandomCrashes(rng)
		}
	}
}

// checkRandomCrashes is checkCrashes for narrow rooms: a crash leaves a log of a front, whatever room is left.
func (s *script) checkRandomCrashes(rng *rand.Rand) {
	s.t.Helper()
	for n := -1; n <= s.d.Waiting(); n++ {
		for _, torn := range []int{-1, 0, 1, 7, 8, 9, rng.Intn(30), rng.Intn(200), math.MaxInt} {
			left := s.d.Crash(n, torn)
			left.Room(plenty)
			checkOpens(s.t, fmt.Sprintf("a crash at %d, %d", n, torn), left, s.fronts...)
		}
	}
}

// plain is a log without a disk.
type plain struct {
	first   int64
	records []string
}

func (p *plain) last() int64 { return p.first + int64(len(p.records)) - 1 }

func (p *plain) append(n int64, text string) api.Errno {
	if n < 1 || len(p.records) > 0 && n != p.last()+1 {
		return api.ErrRange
	}
	if len(p.records) == 0 {
		p.first = n
	}
	p.records = append(p.records, text)
	return api.OK
}

func (p *plain) filter(n int64, stays func(number int64) bool) api.Errno {
	if n < 1 {
		return api.ErrRange
	}
	var left []string
	first := int64(0)
	for i, r := range p.records {
		if number := p.first + int64(i); stays(number) {
			if left == nil {
				first = number
			}
			left = append(left, r)
		}
	}
	p.first, p.records = first, left
	return api.OK
}

// The log is held against the plain one, and opened anew now and then.
func TestAgainstAPlainLog(t *testing.T) {
	rng := rand.New(rand.NewSource(7))
	for range 200 {
		d := disk.New(plenty)
		l, p := open(t, d), &plain{}
		for i := range 60 {
			near := p.first + int64(rng.Intn(len(p.records)+5)) - 2
			text := strings.Repeat(fmt.Sprint(i), rng.Intn(5))
			switch rng.Intn(8) {
			case 0:
				e := p.filter(near, func(number int64) bool { return number < near })
				checkErr(t, "P4.1: From", l.From(near), e)
			case 1:
				e := p.filter(near, func(number int64) bool { return number > near })
				checkErr(t, "P4.1: Until", l.Until(near), e)
			case 2:
				checkErr(t, "P4.1: Append", l.Append(near, []byte(text)), p.append(near, text))
			case 3:
				l.Sync()
				d = d.Crash(0, -1)
				l = open(t, d)
			default:
				n := p.last() + 1
				if len(p.records) == 0 {
					n = int64(rng.Intn(20))
				}
				checkErr(t, "P4.1: Append", l.Append(n, []byte(text)), p.append(n, text))
			}
			check(t, "P4.1: beside a plain log", l, want(p.first, p.records...))
		}
	}
}

// Whatever stands in the files, the log opens and goes on.
func FuzzOpen(f *testing.F) {
	f.Add([]byte(""), []byte(""))
	f.Add([]byte(recordOf(1, "a")+recordOf(2, "b")), []byte("junk"))
	f.Add([]byte(recordOf(1, "a")+recordOf(9, "b")), []byte(recordOf(2, "c")))
	f.Add([]byte(recordOf(math.MaxInt64, "a")), []byte(recordOf(1, strings.Repeat("x", 40000))))
	f.Fuzz(func(t *testing.T, one, other []byte) {
		d := disk.New(api.MaxDisk)
		d.Append(logFile, one)
		d.Append(copyFile, other)
		d.Sync()
		l := open(t, d)
		checkOpens(t, "any bytes", d, tell(t, l))
	})
}
