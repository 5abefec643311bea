package wal

import (
	"bytes"
	"fmt"
	"math"
	"slices"
	"strings"
	"testing"

	"delphi/api"
	"delphi/disk"
)

const plenty = 1 << 20

// tell says what a log holds, and finds whether First, Last and Get agree.
func tell(t *testing.T, l *Log) string {
	t.Helper()
	first, last := l.First(), l.Last()
	checkNothingAt(t, l, math.MinInt64, -1, 0, first-1)
	if last < math.MaxInt64 {
		checkNothingAt(t, l, last+1, math.MaxInt64)
	}
	if first == 0 && last == 0 {
		return "empty"
	}
	if first < 1 || last < first {
		t.Fatalf("P4.1: First %d, Last %d", first, last)
	}
	all := []string{fmt.Sprint(first)}
	for i := range last - first + 1 {
		b, ok := l.Get(first + i)
		if !ok {
			t.Errorf("P4.1: no record %d of %d to %d", first+i, first, last)
		}
		all = append(all, fmt.Sprintf("%q", b))
	}
	return strings.Join(all, " ")
}

func checkNothingAt(t *testing.T, l *Log, numbers ...int64) {
	t.Helper()
	for _, n := range numbers {
		if b, ok := l.Get(n); ok || b != nil {
			t.Errorf("P4.1: Get(%d): %q, %v, want nothing", n, b, ok)
		}
	}
}

// want says what tell says of a log that begins so.
func want(first int64, records ...string) string {
	if len(records) == 0 {
		return "empty"
	}
	all := []string{fmt.Sprint(first)}
	for _, r := range records {
		all = append(all, fmt.Sprintf("%q", r))
	}
	return strings.Join(all, " ")
}

func check(t *testing.T, what string, l *Log, want string) {
	t.Helper()
	if got := tell(t, l); got != want {
		t.Errorf("%s: %.200s, want %.200s", what, got, want)
	}
}

func checkErr(t *testing.T, what string, got, want api.Errno) {
	t.Helper()
	if got != want {
		t.Errorf("%s: error %d, want %d", what, got, want)
	}
}

func must(t *testing.T, e api.Errno) {
	t.Helper()
	if e != api.OK {
		t.Fatalf("P4.1: a call that goes: error %d", e)
	}
}

func open(t *testing.T, d *disk.Disk) *Log {
	t.Helper()
	l, e := Open(d)
	if e != api.OK || l == nil {
		t.Fatalf("P4.2: Open: %v, %d", l, e)
	}
	return l
}

// filled gives a log with these records on a new disk.
func filled(t *testing.T, first int64, records ...string) (*Log, *disk.Disk) {
	t.Helper()
	d := disk.New(plenty)
	l := open(t, d)
	for i, r := range records {
		must(t, l.Append(first+int64(i), []byte(r)))
	}
	return l, d
}

// names gives so many records that are not alike.
func names(count int) []string {
	all := make([]string, count)
	for i := range all {
		all[i] = strings.Repeat(string(rune('a'+i)), i+1)
	}
	return all
}

// files says what is on a disk, and how many changes wait.
func files(d *disk.Disk) string {
	var all strings.Builder
	fmt.Fprint(&all, d.Waiting())
	for _, name := range d.Names() {
		b, _ := d.Read(name)
		fmt.Fprintf(&all, " %s=%q", name, b)
	}
	return all.String()
}

// checkLasts finds whether the log is what is opened now, and behind a Sync and a crash.
func checkLasts(t *testing.T, what string, l *Log, d *disk.Disk) {
	t.Helper()
	now := tell(t, l)
	check(t, what+": opened once more", open(t, d.Crash(d.Waiting(), 0)), now)
	l.Sync()
	if d.Waiting() != 0 {
		t.Errorf("P4.2: %s: %d changes wait behind Sync", what, d.Waiting())
	}
	check(t, what+": behind a crash", open(t, d.Crash(0, -1)), now)
}

// checkGoesOn finds whether records come behind what is there, and last.
func checkGoesOn(t *testing.T, what string, l *Log, d *disk.Disk) {
	t.Helper()
	next := max(l.Last(), 0) + 1
	if l.Last() == math.MaxInt64 {
		must(t, l.From(math.MaxInt64))
		next = math.MaxInt64
	}
	before := tell(t, l)
	if before == "empty" {
		before = fmt.Sprint(next)
	}
	checkErr(t, what+": going on", l.Append(next, []byte("next")), api.OK)
	check(t, what+": going on", l, before+` "next"`)
	checkLasts(t, what+": going on", l, d)
}

// scribble writes over a list and its spare room.
func scribble(b []byte) {
	b = b[:cap(b)]
	for i := range b {
		b[i] = 'Q'
	}
}

func TestEmptyLog(t *testing.T) {
	d := disk.New(plenty)
	l := open(t, d)
	if l.First() != 0 || l.Last() != 0 {
		t.Errorf("P4.1: First %d, Last %d", l.First(), l.Last())
	}
	check(t, "P4.1: a new log", l, "empty")
	for _, n := range []int64{1, 2, 9, math.MaxInt64} {
		checkErr(t, "P4.1: From of an empty log", l.From(n), api.OK)
		checkErr(t, "P4.1: Until of an empty log", l.Until(n), api.OK)
		check(t, "P4.1: an empty log", l, "empty")
	}
	l.Sync()
	checkLasts(t, "an empty log", l, d)
	if d.Used() != 0 {
		t.Errorf("P4.2: an empty log takes %d bytes", d.Used())
	}
}

func TestAppend(t *testing.T) {
	l, d := filled(t, 1)
	for i, r := range names(5) {
		checkErr(t, "P4.1: Append", l.Append(int64(i+1), []byte(r)), api.OK)
		check(t, "P4.1: Append", l, want(1, names(i+1)...))
	}
	checkLasts(t, "five records", l, d)
}

func TestFirstRecordAtAnyNumber(t *testing.T) {
	for _, n := range []int64{1, 2, 63, 64, 8191, 8192, 1 << 31, 1 << 32, 1 << 62, math.MaxInt64 - 1, math.MaxInt64} {
		l, d := filled(t, n, "a")
		check(t, "P4.1: the first record", l, want(n, "a"))
		checkLasts(t, "the first record", l, d)
		checkGoesOn(t, "the first record", open(t, d), d)
	}
}

func TestAppendAtAnotherNumber(t *testing.T) {
	wrong := []int64{math.MinInt64, math.MinInt64 + 1, -5, -1, 0}
	for _, n := range wrong {
		l, d := filled(t, 1)
		before := files(d)
		checkErr(t, "P4.1: the first record below 1", l.Append(n, []byte("x")), api.ErrRange)
		check(t, "P4.1: the first record below 1", l, "empty")
		if files(d) != before {
			t.Errorf("P4.1: an error changed the disk: %s", files(d))
		}
	}
	for _, first := range []int64{1, 5, math.MaxInt64 - 2} {
		l, d := filled(t, first, names(3)...)
		before := files(d)
		all := append(slices.Clone(wrong), first-1, first, first+1, first+2, 1<<32+first, math.MaxInt64/2, math.MaxInt64)
		if first < 10 {
			all = append(all, first+4, first+5)
		}
		for _, n := range all {
			checkErr(t, fmt.Sprintf("P4.1: Append(%d) behind %d", n, first+2), l.Append(n, []byte("x")), api.ErrRange)
		}
		check(t, "P4.1: an error changes nothing", l, want(first, names(3)...))
		if files(d) != before {
			t.Errorf("P4.1: an error changed the disk: %s", files(d))
		}
	}
}

func TestRecordSizes(t *testing.T) {
	for _, size := range []int{0, 1, 63, 64, 255, 8191, 8192, 32767, 32768} {
		text := strings.Repeat("z", size)
		l, d := filled(t, 7, "ahead", text, "behind")
		check(t, "P4.1: a record", l, want(7, "ahead", text, "behind"))
		checkLasts(t, "a record", l, d)
		must(t, l.Until(7))
		checkLasts(t, "a record, copied", l, d)
		check(t, "P4.1: a record, copied", l, want(8, text, "behind"))
	}
}

func TestNilIsARecordOfNoBytes(t *testing.T) {
	l, d := filled(t, 1)
	must(t, l.Append(1, nil))
	must(t, l.Append(2, []byte{}))
	check(t, "P0.4: records of no bytes", l, want(1, "", ""))
	checkLasts(t, "records of no bytes", l, d)
}

func TestRecordTooLong(t *testing.T) {
	for _, size := range []int{32769, 32770, 65535, 65536, 65537, 1 << 20, 1 << 23} {
		l, d := filled(t, 1)
		long := make([]byte, size)
		checkErr(t, "P4.1: the first one is too long", l.Append(1, long), api.ErrLimit)
		check(t, "P4.1: the first one is too long", l, "empty")
		must(t, l.Append(4, []byte("a")))
		before := files(d)
		checkErr(t, "P4.1: too long", l.Append(5, long), api.ErrLimit)
		checkErr(t, "P4.1: too long, and at another number", l.Append(6, long), api.ErrRange)
		check(t, "P4.1: too long", l, want(4, "a"))
		if files(d) != before {
			t.Error("P4.1: an error changed the disk")
		}
		must(t, l.Append(5, long[:32768]))
	}
}

func TestTooLongOnAFullDisk(t *testing.T) {
	l := open(t, disk.New(0))
	checkErr(t, "P4.1", l.Append(1, make([]byte, 32769)), api.ErrLimit)
	checkErr(t, "P4.1", l.Append(1, nil), api.ErrFull)
	checkErr(t, "P4.1", l.Append(0, make([]byte, 32769)), api.ErrRange)
	check(t, "P4.1: nothing goes", l, "empty")
}

// With every room a log takes as many records as go, and an error changes nothing.
func TestDiskWithoutRoom(t *testing.T) {
	for room := range 300 {
		d := disk.New(room)
		l := open(t, d)
		records := []string{}
		for n := int64(3); ; n++ {
			before := files(d)
			e := l.Append(n, []byte("0123456789"))
			if e == api.OK {
				records = append(records, "0123456789")
				continue
			}
			checkErr(t, "P4.1: a full disk", e, api.ErrFull)
			if files(d) != before {
				t.Fatalf("P4.1: an error changed the disk: %s, want %s", files(d), before)
			}
			break
		}
		check(t, "P4.1: a full disk", l, want(3, records...))
		if least := (room - 64) / 50; len(records) < least {
			t.Errorf("P4.2: a room of %d has %d records, want %d", room, len(records), least)
		}
		checkLasts(t, "a full disk", l, d)
		d.Room(plenty)
		checkGoesOn(t, "a full disk that was given room", l, d)
	}
}

func TestDiskOfManyFiles(t *testing.T) {
	d := disk.New(plenty)
	for i := range api.MaxFiles {
		d.Append(fmt.Sprintf("f%d", i), []byte("x"))
	}
	l := open(t, d)
	before := files(d)
	checkErr(t, "P4.1: no file more", l.Append(1, []byte("a")), api.ErrFull)
	check(t, "P4.1: no file more", l, "empty")
	if files(d) != before {
		t.Error("P4.1: an error changed the disk")
	}
	d.Remove("f0")
	must(t, l.Append(1, []byte("a")))
	must(t, l.Append(2, []byte("b")))
	before = files(d)
	checkErr(t, "P4.1: no file for the copy", l.Until(1), api.ErrFull)
	check(t, "P4.1: no file for the copy", l, want(1, "a", "b"))
	if files(d) != before {
		t.Error("P4.1: an error changed the disk")
	}
	checkErr(t, "P4.1: all are gone", l.Until(2), api.OK)
	checkGoesOn(t, "a disk of many files", l, d)
}

// places are numbers below, ahead of, in and beyond a log from first on.
func places(first int64, count int) []int64 {
	all := []int64{math.MinInt64, -1, 0, 1, 2, math.MaxInt64 - 1, math.MaxInt64}
	for n := first - 3; n < first+int64(count)+3 && n < math.MaxInt64; n++ {
		all = append(all, n)
	}
	return all
}

func TestFrom(t *testing.T) {
	for _, first := range []int64{1, 2, 7, math.MaxInt64 - 20} {
		for count := range 6 {
			for _, n := range places(first, count) {
				what := fmt.Sprintf("P4.1: From(%d) of %d records from %d on", n, count, first)
				l, d := filled(t, first, names(count)...)
				left, wantErr := names(count), api.OK
				switch {
				case n < 1:
					wantErr = api.ErrRange
				case n < first:
					left = nil
				case n < first+int64(count):
					left = left[:n-first]
				}
				checkErr(t, what, l.From(n), wantErr)
				check(t, what, l, want(first, left...))
				checkLasts(t, what, l, d)
				checkGoesOn(t, what, l, d)
			}
		}
	}
}

func TestUntil(t *testing.T) {
	for _, first := range []int64{1, 2, 7, math.MaxInt64 - 20} {
		for count := range 6 {
			for _, n := range places(first, count) {
				what := fmt.Sprintf("P4.1: Until(%d) of %d records from %d on", n, count, first)
				l, d := filled(t, first, names(count)...)
				begin, left, wantErr := first, names(count), api.OK
				switch {
				case n < 1:
					wantErr = api.ErrRange
				case n >= first+int64(count)-1:
					left = nil
				case n >= first:
					begin, left = n+1, left[n-first+1:]
				}
				checkErr(t, what, l.Until(n), wantErr)
				check(t, what, l, want(begin, left...))
				checkLasts(t, what, l, d)
				checkGoesOn(t, what, l, d)
			}
		}
	}
}

func TestWhatTakesNothingAwayIsNoChange(t *testing.T) {
	l, d := filled(t, 5, names(3)...)
	d.Room(0)
	before := files(d)
	checkErr(t, "P4.1: From beyond", l.From(8), api.OK)
	checkErr(t, "P4.1: From far beyond", l.From(math.MaxInt64), api.OK)
	checkErr(t, "P4.1: Until ahead", l.Until(4), api.OK)
	checkErr(t, "P4.1: Until far ahead", l.Until(1), api.OK)
	check(t, "P4.1: nothing goes", l, want(5, names(3)...))
	if files(d) != before {
		t.Errorf("P4.1: %s, want %s", files(d), before)
	}
}

func TestFromNeedsNoRoom(t *testing.T) {
	for n := int64(1); n < 9; n++ {
		l, d := filled(t, 5, names(3)...)
		d.Room(0)
		checkErr(t, "P4.1: From on a full disk", l.From(n), api.OK)
		check(t, "P4.1: From on a full disk", l, want(5, names(3)[:min(max(n-5, 0), 3)]...))
		checkLasts(t, "From on a full disk", l, d)
	}
}

func TestUntilOfAllNeedsNoRoom(t *testing.T) {
	for _, n := range []int64{7, 8, math.MaxInt64} {
		l, d := filled(t, 5, names(3)...)
		d.Room(0)
		checkErr(t, "P4.1: Until of all on a full disk", l.Until(n), api.OK)
		check(t, "P4.1: Until of all on a full disk", l, "empty")
		checkLasts(t, "Until of all on a full disk", l, d)
		if d.Used() != 0 {
			t.Errorf("P4.1: %d bytes are left", d.Used())
		}
		d.Room(plenty)
		checkGoesOn(t, "Until of all", l, d)
	}
}

// Until goes wherever there is room for a copy of what it leaves, and where it does not, nothing changes.
func TestUntilNeedsRoomForACopy(t *testing.T) {
	for n := int64(1); n < 5; n++ {
		other, others := filled(t, n+1, names(5)[n:]...)
		copySize := others.Used()
		for less := range 4 {
			l, d := filled(t, 1, names(5)...)
			d.Room(d.Used() + copySize - less)
			before := files(d)
			e := l.Until(n)
			if less == 0 {
				checkErr(t, "P4.1: Until with room", e, api.OK)
				check(t, "P4.1: Until with room", l, tell(t, other))
			} else {
				checkErr(t, "P4.1: Until without room", e, api.ErrFull)
				check(t, "P4.1: Until without room", l, want(1, names(5)...))
				if files(d) != before {
					t.Errorf("P4.1: an error changed the disk: %s, want %s", files(d), before)
				}
			}
			checkLasts(t, "Until", l, d)
			d.Room(plenty)
			checkGoesOn(t, "Until", l, d)
		}
	}
}

func TestUntilGivesRoomBack(t *testing.T) {
	l, d := filled(t, 1, names(5)...)
	_, other := filled(t, 4, names(5)[3:]...)
	must(t, l.Until(3))
	if d.Used() != other.Used() || len(d.Names()) != len(other.Names()) {
		t.Errorf("P4.2: %d bytes in %q, want %d", d.Used(), d.Names(), other.Used())
	}
}

func TestEmptiedLogBeginsAnew(t *testing.T) {
	empty := map[string]func(l *Log) api.Errno{
		"From":        func(l *Log) api.Errno { return l.From(5) },
		"From ahead":  func(l *Log) api.Errno { return l.From(1) },
		"Until":       func(l *Log) api.Errno { return l.Until(7) },
		"Until far":   func(l *Log) api.Errno { return l.Until(math.MaxInt64) },
		"one by one":  func(l *Log) api.Errno { return max(l.Until(5), l.From(7), l.Until(6)) },
		"from behind": func(l *Log) api.Errno { return max(l.From(7), l.From(6), l.From(5)) },
	}
	for what, how := range empty {
		for _, n := range []int64{1, 4, 5, 8, 9, 1000, math.MaxInt64} {
			for _, again := range []bool{false, true} {
				l, d := filled(t, 5, names(3)...)
				checkErr(t, "P4.1: "+what, how(l), api.OK)
				check(t, "P4.1: "+what, l, "empty")
				checkLasts(t, what, l, d)
				if again {
					l = open(t, d)
				}
				checkErr(t, "P4.1: "+what+": below 1", l.Append(0, nil), api.ErrRange)
				checkErr(t, "P4.1: "+what+": anew", l.Append(n, []byte("anew")), api.OK)
				check(t, "P4.1: "+what+": anew", l, want(n, "anew"))
				checkLasts(t, what+": anew", l, d)
				checkGoesOn(t, what+": anew", l, d)
			}
		}
	}
}

func TestRecordsCutOffAndWrittenAnew(t *testing.T) {
	l, d := filled(t, 1, "a", "bbbb", "cc", "dddddd")
	l.Sync()
	must(t, l.From(3))
	must(t, l.Append(3, []byte("longer than what was there")))
	check(t, "P4.1: anew", l, want(1, "a", "bbbb", "longer than what was there"))
	checkLasts(t, "anew", l, d)
	must(t, l.From(2))
	must(t, l.Append(2, nil))
	check(t, "P4.1: anew, shorter", l, want(1, "a", ""))
	checkLasts(t, "anew, shorter", l, d)
	must(t, l.Until(1))
	must(t, l.From(2))
	must(t, l.Append(1, []byte("x")))
	check(t, "P4.1: anew, elsewhere", l, want(1, "x"))
	checkLasts(t, "anew, elsewhere", l, d)
}

func TestLogsOfTwoDisksAreApart(t *testing.T) {
	one, _ := filled(t, 1, "a", "b")
	other, _ := filled(t, 8, "c")
	must(t, one.From(2))
	must(t, other.Append(9, []byte("d")))
	check(t, "P0.5: one", one, want(1, "a"))
	check(t, "P0.5: other", other, want(8, "c", "d"))
}

func TestLogLeavesOtherFiles(t *testing.T) {
	d := disk.New(plenty)
	d.Append("k", []byte("kept"))
	d.Append("W", []byte("kept too"))
	d.Append("aw", []byte("and this"))
	l := open(t, d)
	for n := int64(1); n < 9; n++ {
		must(t, l.Append(n, []byte("record")))
	}
	must(t, l.From(7))
	must(t, l.Until(2))
	l.Sync()
	for _, e := range []struct{ name, text string }{{"k", "kept"}, {"W", "kept too"}, {"aw", "and this"}} {
		if b, ok := d.Read(e.name); !ok || string(b) != e.text {
			t.Errorf("P4: the file %s: %q, %v", e.name, b, ok)
		}
	}
	for _, name := range d.Names() {
		if name[0] != 'w' && name != "k" && name != "W" && name != "aw" {
			t.Errorf("P4: a file %q", name)
		}
	}
	check(t, "P4.1: beside other files", open(t, d.Crash(0, -1)), want(3, "record", "record", "record", "record"))
}

func TestAppendKeepsNoList(t *testing.T) {
	l, d := filled(t, 1)
	room := []byte("abcdef")
	must(t, l.Append(1, room[:3]))
	if string(room) != "abcdef" {
		t.Errorf("P0.3: %q", room)
	}
	scribble(room)
	check(t, "P0.3: what was given is written over", l, want(1, "abc"))
	must(t, l.Append(2, []byte("d")))
	must(t, l.Until(1))
	if string(room) != "QQQQQQ" {
		t.Errorf("P0.3: %q", room)
	}
	checkLasts(t, "what was given is written over", l, d)
}

func TestGetIsNewMemory(t *testing.T) {
	built, d := filled(t, 1, "abc", "", "def")
	for _, l := range []*Log{built, open(t, d)} {
		first, _ := l.Get(1)
		second, _ := l.Get(1)
		third, _ := l.Get(2)
		scribble(first)
		scribble(third)
		if string(second) != "abc" {
			t.Errorf("P0.3: %q", second)
		}
		check(t, "P0.3: what was answered is written over", l, want(1, "abc", "", "def"))
		checkLasts(t, "what was answered is written over", l, d)
	}
	kept, _ := built.Get(3)
	spare := string(kept[:cap(kept)])
	must(t, built.From(3))
	must(t, built.Append(3, []byte("xyz")))
	must(t, built.Until(2))
	if string(kept) != "def" || string(kept[:cap(kept)]) != spare {
		t.Errorf("P0.3: %q", kept[:cap(kept)])
	}
}

// A log that has nothing but its records takes at most 40 bytes more than each one's, and 64 for each file.
func TestBytesThatALogTakes(t *testing.T) {
	for _, first := range []int64{1, 60, 8190, 1<<31 - 2, 1 << 61, math.MaxInt64 - 60} {
		for _, size := range []int{0, 1, 62, 63, 64, 8190, 32768} {
			d := disk.New(api.MaxDisk)
			l := open(t, d)
			b := bytes.Repeat([]byte{7}, size)
			for i := range 50 {
				must(t, l.Append(first+int64(i), b))
				if bound := (i+1)*(size+40) + 64*len(d.Names()); d.Used() > bound {
					t.Fatalf("P4.2: %d records of %d bytes from %d on take %d, want at most %d", i+1, size, first, d.Used(), bound)
				}
			}
			if bound := 50*(size+40) + 64*len(d.Names()); open(t, d).Last() != first+49 || d.Used() > bound {
				t.Errorf("P4.2: opened, %d bytes, want at most %d", d.Used(), bound)
			}
		}
	}
}

func TestALogAsGreatAsADisk(t *testing.T) {
	d := disk.New(math.MaxInt)
	l := open(t, d)
	b := bytes.Repeat([]byte("0123456789abcdef"), 2048)
	n := int64(1)
	for ; l.Append(n, b) == api.OK; n++ {
	}
	if n-1 < (api.MaxDisk-64)/(32768+40) {
		t.Errorf("P4.2: %d records", n-1)
	}
	l.Sync()
	m := open(t, d.Crash(0, 0))
	if m.First() != 1 || m.Last() != n-1 {
		t.Errorf("P4.2: %d to %d, want 1 to %d", m.First(), m.Last(), n-1)
	}
	checkErr(t, "P4.1: no room for a copy", l.Until(1), api.ErrFull)
	must(t, l.From(n-1))
	checkErr(t, "P4.1: room for a copy of one", l.Until(n-4), api.ErrFull)
	checkErr(t, "P4.1: room for a copy of one", l.Until(n-3), api.OK)
	check(t, "P4.1: what is left", l, want(n-2, string(b)))
}

func TestNilLog(t *testing.T) {
	var l *Log
	for _, n := range []int64{math.MinInt64, -1, 0, 1, 2, math.MaxInt64} {
		checkErr(t, "P4.2: Append", l.Append(n, []byte("a")), api.ErrRange)
		checkErr(t, "P4.2: Append", l.Append(n, make([]byte, 40000)), api.ErrRange)
		checkErr(t, "P4.2: From", l.From(n), api.ErrRange)
		checkErr(t, "P4.2: Until", l.Until(n), api.ErrRange)
		checkNothingAt(t, l, n)
	}
	l.Sync()
	if l.First() != 0 || l.Last() != 0 {
		t.Errorf("P4.2: First %d, Last %d", l.First(), l.Last())
	}
}

// Nobody but Open makes a log, yet one of no disk must not panic either.
func TestZeroLog(t *testing.T) {
	var l Log
	l.Sync()
	l.From(1)
	l.Until(1)
	if e := l.Append(1, nil); e == api.OK {
		t.Error("P0.1: a record on no disk")
	}
	check(t, "P0.1: a log of no disk", &l, "empty")
}

// Whoever takes the files away under a log has a fault, but no panic.
func TestFilesTakenAway(t *testing.T) {
	spoil := []func(d *disk.Disk){
		func(d *disk.Disk) { d.Remove(d.Names()[0]) },
		func(d *disk.Disk) { d.Cut(d.Names()[0], 3) },
		func(d *disk.Disk) { d.Move(d.Names()[0], "other") },
		func(d *disk.Disk) { d.Append(d.Names()[0], []byte("junk")) },
	}
	for _, how := range spoil {
		for n := int64(1); n < 7; n++ {
			l, d := filled(t, 1, names(5)...)
			how(d)
			l.Until(n)
			l.From(n - 1)
			l.Append(l.Last()+1, []byte("x"))
			l.Sync()
			tell(t, l)
			m := open(t, d.Crash(0, 0))
			checkGoesOn(t, "files taken away", m, m.disk)
		}
	}
}
