package disk

import (
	"bytes"
	"fmt"
	"maps"
	"math"
	"math/rand"
	"slices"
	"strings"
	"testing"

	"delphi/api"
)

// tell says what is on a disk, and finds whether Names, Read and Used agree.
func tell(t *testing.T, d *Disk) string {
	t.Helper()
	var all []string
	total := 0
	names := d.Names()
	for _, name := range names {
		b, ok := d.Read(name)
		if !ok {
			t.Errorf("P3.1: Names has %q, Read not", name)
		}
		total += len(b)
		all = append(all, name+"="+string(b))
	}
	if !slices.IsSorted(names) || len(slices.Compact(slices.Clone(names))) != len(names) {
		t.Errorf("P3.1: the names don't rise: %q", names)
	}
	if d.Used() != total {
		t.Errorf("P3.1: Used: %d, want %d", d.Used(), total)
	}
	return strings.Join(all, " ")
}

func check(t *testing.T, what string, d *Disk, files string, waiting int) {
	t.Helper()
	if got := tell(t, d); got != files {
		t.Errorf("%s: %q, want %q", what, got, files)
	}
	if d.Waiting() != waiting {
		t.Errorf("%s: %d changes wait, want %d", what, d.Waiting(), waiting)
	}
}

func checkErr(t *testing.T, what string, got, want api.Errno) {
	t.Helper()
	if got != want {
		t.Errorf("%s: error %d, want %d", what, got, want)
	}
}

// must makes a change that goes.
func must(t *testing.T, e api.Errno) {
	t.Helper()
	checkErr(t, "P3.1: a change that goes", e, api.OK)
}

// checkRoom finds whether just so many bytes still fit into a file that is not there (below 0: not even none).
func checkRoom(t *testing.T, what string, d *Disk, want int) {
	t.Helper()
	if want >= 0 {
		checkErr(t, what+": what fits", d.Crash(d.Waiting(), 0).Append("free.room", make([]byte, want)), api.OK)
	}
	beyond := max(want+1, 0)
	checkErr(t, what+": what does not fit", d.Crash(d.Waiting(), 0).Append("free.room", make([]byte, beyond)), api.ErrFull)
}

// scribble writes over a list and its spare room.
func scribble(b []byte) {
	b = b[:cap(b)]
	for i := range b {
		b[i] = 'Q'
	}
}

// roomy gives the text with spare room behind it.
func roomy(s string) []byte {
	b := make([]byte, len(s), len(s)+64)
	copy(b, s)
	return b
}

func TestNew(t *testing.T) {
	rooms := []struct{ room, want int }{
		{math.MinInt, 0}, {-1, 0}, {0, 0}, {1, 1}, {20, 20}, {4194303, 4194303},
		{4194304, 4194304}, {4194305, 4194304}, {1 << 40, 4194304}, {math.MaxInt, 4194304},
	}
	for _, c := range rooms {
		d := New(c.room)
		what := fmt.Sprintf("P3.1: New(%d)", c.room)
		check(t, what, d, "", 0)
		checkRoom(t, what, d, c.want)
		d = New(7)
		d.Room(c.room)
		what = fmt.Sprintf("P3.1: Room(%d)", c.room)
		check(t, what, d, "", 0)
		checkRoom(t, what, d, c.want)
	}
}

func TestNewGivesDisksApart(t *testing.T) {
	one, other := New(10), New(10)
	must(t, one.Append("a", []byte("1")))
	check(t, "P3.1: another disk", other, "", 0)
}

func TestAppend(t *testing.T) {
	d := New(100)
	must(t, d.Append("b", []byte("12")))
	check(t, "P3.1: a new file", d, "b=12", 1)
	must(t, d.Append("a", []byte("x")))
	check(t, "P3.1: a file ahead of it", d, "a=x b=12", 2)
	must(t, d.Append("b", []byte("3")))
	check(t, "P3.1: behind the file's bytes", d, "a=x b=123", 3)
	must(t, d.Append("c", nil))
	check(t, "P3.1: a new file by no bytes", d, "a=x b=123 c=", 4)
	must(t, d.Append("b", []byte{}))
	check(t, "P3.1: no bytes behind a file's", d, "a=x b=123 c=", 5)
	must(t, d.Append("c", []byte{0, 255}))
	check(t, "P3.1: any bytes", d, "a=x b=123 c=\x00\xff", 6)
}

func TestNames(t *testing.T) {
	good := []string{"a", "z", "A", "Z", "0", "9", ".", "..", "X.9", "1234567890123456", "................", "aB3.zZ90"}
	d := New(100)
	for _, name := range good {
		checkErr(t, fmt.Sprintf("P3.1: Append to %q", name), d.Append(name, []byte("1")), api.OK)
	}
	want := slices.Sorted(slices.Values(good))
	if got := d.Names(); !slices.Equal(got, want) {
		t.Errorf("P3.1: Names: %q, want %q", got, want)
	}
	bad := []string{"", "12345678901234567", strings.Repeat("a", 5000), "a-b", "a b", " a", "a ", "a\n", "a\x00", "\x00",
		"a_b", "a/b", "/", "-", "é", "aé", "ß", "Ⅷ", "٣", "a\xff", "\x80", "`", "{", "@", "[", ":", "a,b"}
	waiting := d.Waiting()
	before := tell(t, d)
	for _, name := range bad {
		checkErr(t, fmt.Sprintf("P3.1: Append to %q", name), d.Append(name, nil), api.ErrForm)
		checkErr(t, fmt.Sprintf("P3.1: Append to %q", name), d.Append(name, []byte("1")), api.ErrForm)
		checkErr(t, fmt.Sprintf("P3.1: Append of too much to %q", name), d.Append(name, make([]byte, 101)), api.ErrForm)
		checkErr(t, fmt.Sprintf("P3.1: Move to %q", name), d.Move("a", name), api.ErrForm)
		checkErr(t, fmt.Sprintf("P3.1: Cut of %q", name), d.Cut(name, 0), api.ErrNone)
		checkErr(t, fmt.Sprintf("P3.1: Remove of %q", name), d.Remove(name), api.ErrNone)
		checkErr(t, fmt.Sprintf("P3.1: Move of %q", name), d.Move(name, "b"), api.ErrNone)
		if b, ok := d.Read(name); ok || b != nil {
			t.Errorf("P3.1: Read of %q: %q, %v", name, b, ok)
		}
	}
	check(t, "P3.1: errors change nothing", d, before, waiting)
}

func TestEveryByteOfAName(t *testing.T) {
	const signs = "abcdefghijklmnopqrstuvwxyzABCDEFGHIJKLMNOPQRSTUVWXYZ0123456789."
	for c := range 256 {
		name := string([]byte{'a', byte(c)})
		want := api.ErrForm
		if strings.IndexByte(signs, byte(c)) >= 0 {
			want = api.OK
		}
		checkErr(t, fmt.Sprintf("P3.1: a name with the byte %d", c), New(0).Append(name, nil), want)
	}
}

func TestRoom(t *testing.T) {
	d := New(10)
	must(t, d.Append("a", []byte("1234")))
	checkErr(t, "P3.1: one byte too many", d.Append("a", make([]byte, 7)), api.ErrFull)
	checkErr(t, "P3.1: one byte too many, a new file", d.Append("b", make([]byte, 7)), api.ErrFull)
	check(t, "P3.1: ErrFull changes nothing", d, "a=1234", 1)
	must(t, d.Append("b", []byte("567890")))
	check(t, "P3.1: one that just fits", d, "a=1234 b=567890", 2)
	must(t, d.Append("c", nil))
	must(t, d.Append("a", nil))
	checkErr(t, "P3.1: a full disk", d.Append("c", []byte("1")), api.ErrFull)
	check(t, "P3.1: no bytes on a full disk", d, "a=1234 b=567890 c=", 4)

	must(t, d.Cut("b", 5))
	checkErr(t, "P3.1: behind a cut", d.Append("c", []byte("12")), api.ErrFull)
	must(t, d.Append("c", []byte("1")))
	must(t, d.Remove("a"))
	checkErr(t, "P3.1: behind a removal", d.Append("c", []byte("12345")), api.ErrFull)
	must(t, d.Append("c", []byte("2345")))
	must(t, d.Move("b", "c"))
	checkErr(t, "P3.1: behind a move", d.Append("c", []byte("123456")), api.ErrFull)
	must(t, d.Append("c", []byte("12345")))
	check(t, "P3.1: room again", d, "c=5678912345", 10)
}

func TestRoomOfWhatIsThere(t *testing.T) {
	d := New(10)
	must(t, d.Append("a", []byte("1234")))
	d.Sync()
	must(t, d.Append("b", []byte("56")))
	for _, room := range []int{5, 0, -1, math.MinInt} {
		d.Room(room)
		check(t, fmt.Sprintf("P3.1: Room(%d)", room), d, "a=1234 b=56", 1)
		checkErr(t, "P3.1: less room than bytes", d.Append("a", []byte("1")), api.ErrFull)
		checkErr(t, "P3.1: less room than bytes, nothing to append", d.Append("a", nil), api.ErrFull)
		checkErr(t, "P3.1: less room than bytes, a new file", d.Append("c", nil), api.ErrFull)
		check(t, "P3.1: Room is no change", d, "a=1234 b=56", 1)
	}
	d.Room(6)
	checkErr(t, "P3.1: as much room as bytes", d.Append("a", []byte("1")), api.ErrFull)
	must(t, d.Append("a", nil))
	d.Room(7)
	must(t, d.Append("a", []byte("5")))
	check(t, "P3.1: more room", d, "a=12345 b=56", 3)

	d.Room(2)
	must(t, d.Move("b", "c"))
	must(t, d.Cut("a", 1))
	must(t, d.Remove("c"))
	must(t, d.Append("a", []byte("x")))
	check(t, "P3.1: other changes need no room", d, "a=1x", 7)
}

func TestMaxDisk(t *testing.T) {
	d := New(math.MaxInt)
	checkErr(t, "P3.1: beyond MaxDisk", d.Append("a", make([]byte, api.MaxDisk+1)), api.ErrFull)
	must(t, d.Append("a", make([]byte, api.MaxDisk-1)))
	must(t, d.Append("b", make([]byte, 1)))
	checkErr(t, "P3.1: one byte beyond MaxDisk", d.Append("b", make([]byte, 1)), api.ErrFull)
	if d.Used() != api.MaxDisk {
		t.Errorf("P3.1: Used: %d", d.Used())
	}
}

func TestMaxFiles(t *testing.T) {
	d := New(100)
	for i := range api.MaxFiles {
		if i%9 == 0 {
			d.Sync()
		}
		checkErr(t, fmt.Sprintf("P3.1: file %d", i+1), d.Append(fmt.Sprint("f", i), nil), api.OK)
	}
	before, waiting := tell(t, d), d.Waiting()
	for range 2 {
		checkErr(t, "P3.1: file 65", d.Append("g", nil), api.ErrFull)
		checkErr(t, "P3.1: file 65", d.Append("g", []byte("1")), api.ErrFull)
		check(t, "P3.1: file 65", d, before, waiting)
		d.Sync()
		waiting = 0
	}
	must(t, d.Append("f63", []byte("1")))
	must(t, d.Append("f0", nil))
	must(t, d.Move("f5", "g"))
	checkErr(t, "P3.1: as many behind a move", d.Append("f5", nil), api.ErrFull)
	must(t, d.Move("f6", "g"))
	must(t, d.Append("f5", nil))
	checkErr(t, "P3.1: again 64", d.Append("f6", nil), api.ErrFull)
	must(t, d.Remove("f7"))
	must(t, d.Append("f6", nil))
	checkErr(t, "P3.1: once more 64", d.Append("f7", nil), api.ErrFull)
	if n := len(d.Names()); n != api.MaxFiles {
		t.Errorf("P3.1: %d files", n)
	}
}

func TestCut(t *testing.T) {
	d := New(100)
	must(t, d.Append("a", []byte("12345")))
	must(t, d.Append("b", []byte("xyz")))
	for _, n := range []int{math.MinInt, -1, 6, 7, math.MaxInt} {
		checkErr(t, fmt.Sprintf("P3.1: Cut to %d of 5", n), d.Cut("a", n), api.ErrRange)
	}
	for _, n := range []int{-1, 0, 1} {
		checkErr(t, fmt.Sprintf("P3.1: Cut to %d of a file that is not there", n), d.Cut("aa", n), api.ErrNone)
	}
	check(t, "P3.1: errors change nothing", d, "a=12345 b=xyz", 2)
	must(t, d.Cut("a", 5))
	check(t, "P3.1: Cut at the length", d, "a=12345 b=xyz", 3)
	must(t, d.Cut("a", 4))
	check(t, "P3.1: Cut of a byte", d, "a=1234 b=xyz", 4)
	checkErr(t, "P3.1: what is cut is gone", d.Cut("a", 5), api.ErrRange)
	must(t, d.Append("a", []byte("+")))
	check(t, "P3.1: Append behind a cut", d, "a=1234+ b=xyz", 5)
	must(t, d.Cut("a", 0))
	check(t, "P3.1: Cut at 0", d, "a= b=xyz", 6)
	must(t, d.Cut("a", 0))
	checkErr(t, "P3.1: Cut of an empty file", d.Cut("a", 1), api.ErrRange)
	check(t, "P3.1: Cut of an empty file at 0", d, "a= b=xyz", 7)
}

func TestRemove(t *testing.T) {
	d := New(100)
	checkErr(t, "P3.1: Remove on an empty disk", d.Remove("a"), api.ErrNone)
	for _, name := range []string{"a", "b", "c"} {
		must(t, d.Append(name, []byte(name)))
	}
	must(t, d.Remove("b"))
	check(t, "P3.1: Remove", d, "a=a c=c", 4)
	checkErr(t, "P3.1: Remove once more", d.Remove("b"), api.ErrNone)
	if b, ok := d.Read("b"); ok || b != nil {
		t.Errorf("P3.1: Read of what was removed: %q, %v", b, ok)
	}
	check(t, "P3.1: an error changes nothing", d, "a=a c=c", 4)
	must(t, d.Append("b", []byte("2")))
	check(t, "P3.1: a file of the same name is empty at first", d, "a=a b=2 c=c", 5)
}

func TestMove(t *testing.T) {
	d := New(100)
	must(t, d.Append("b", []byte("12")))
	must(t, d.Append("d", []byte("345")))
	checkErr(t, "P3.1: Move of a file that is not there", d.Move("c", "b"), api.ErrNone)
	checkErr(t, "P3.1: Move of a file that is not there onto itself", d.Move("c", "c"), api.ErrNone)
	checkErr(t, "P3.1: Move of a file that is not there to no name", d.Move("c", "-"), api.ErrNone)
	checkErr(t, "P3.1: Move to no name", d.Move("b", ""), api.ErrForm)
	check(t, "P3.1: errors change nothing", d, "b=12 d=345", 2)
	must(t, d.Move("b", "b"))
	check(t, "P3.1: Move onto itself", d, "b=12 d=345", 3)
	must(t, d.Move("b", "e"))
	check(t, "P3.1: Move up", d, "d=345 e=12", 4)
	must(t, d.Move("e", "a"))
	check(t, "P3.1: Move down", d, "a=12 d=345", 5)
	must(t, d.Move("a", "d"))
	check(t, "P3.1: Move onto a file above", d, "d=12", 6)
	must(t, d.Append("a", []byte("6")))
	must(t, d.Move("d", "a"))
	check(t, "P3.1: Move onto a file below", d, "a=12", 8)
	must(t, d.Append("a", []byte("3")))
	must(t, d.Append("d", []byte("4")))
	check(t, "P3.1: behind a move", d, "a=123 d=4", 10)
}

func TestSync(t *testing.T) {
	d := New(100)
	d.Sync()
	check(t, "P3.1: Sync with nothing that waits", d, "", 0)
	must(t, d.Append("a", []byte("123")))
	must(t, d.Move("a", "a"))
	check(t, "P3.1: ahead of Sync", d, "a=123", 2)
	d.Sync()
	check(t, "P3.1: behind Sync", d, "a=123", 0)
	check(t, "P3.2: what was synced lasts", d.Crash(-1, 0), "a=123", 0)
	d.Sync()
	check(t, "P3.1: Sync once more", d, "a=123", 0)
	must(t, d.Cut("a", 1))
	must(t, d.Append("a", []byte("x")))
	must(t, d.Append("b", []byte("y")))
	check(t, "P3.2: what was not synced does not", d.Crash(-1, 0), "a=123", 0)
	d.Sync()
	check(t, "P3.2: what was synced in its order lasts", d.Crash(0, 0), "a=1x b=y", 0)
	must(t, d.Move("b", "a"))
	must(t, d.Append("c", nil))
	must(t, d.Remove("a"))
	d.Sync()
	check(t, "P3.2: what was synced in its order lasts", d.Crash(0, 9), "c=", 0)
}

// crashed is the disk that the tables of TestCrash speak of: what lasts, and seven changes that wait.
func crashed(t *testing.T) *Disk {
	d := New(100)
	must(t, d.Append("a", []byte("12")))
	must(t, d.Append("z", []byte("0")))
	d.Sync()
	must(t, d.Append("a", []byte("345")))
	must(t, d.Append("b", []byte("xyz")))
	must(t, d.Cut("a", 1))
	must(t, d.Move("b", "a"))
	must(t, d.Append("c", nil))
	must(t, d.Remove("a"))
	must(t, d.Move("z", "y"))
	return d
}

func TestCrash(t *testing.T) {
	const all = "c= y=0"
	cases := []struct {
		n, torn int
		want    string
	}{
		{math.MinInt, 9, "a=12 z=0"}, {-1, 9, "a=12 z=0"}, {-1, -1, "a=12 z=0"},
		{0, math.MinInt, "a=12 z=0"}, {0, -1, "a=12 z=0"}, {0, 0, "a=12 z=0"}, {0, 1, "a=123 z=0"},
		{0, 2, "a=1234 z=0"}, {0, 3, "a=12345 z=0"}, {0, 4, "a=12345 z=0"}, {0, math.MaxInt, "a=12345 z=0"},
		{1, math.MinInt, "a=12345 z=0"}, {1, -1, "a=12345 z=0"}, {1, 0, "a=12345 b= z=0"}, {1, 1, "a=12345 b=x z=0"},
		{1, 2, "a=12345 b=xy z=0"}, {1, 3, "a=12345 b=xyz z=0"}, {1, 4, "a=12345 b=xyz z=0"}, {1, math.MaxInt, "a=12345 b=xyz z=0"},
		{2, -1, "a=12345 b=xyz z=0"}, {2, 0, "a=12345 b=xyz z=0"}, {2, 9, "a=12345 b=xyz z=0"},
		{3, -1, "a=1 b=xyz z=0"}, {3, 0, "a=1 b=xyz z=0"}, {3, 9, "a=1 b=xyz z=0"},
		{4, -1, "a=xyz z=0"}, {4, 0, "a=xyz c= z=0"}, {4, 1, "a=xyz c= z=0"},
		{5, -1, "a=xyz c= z=0"}, {5, 0, "a=xyz c= z=0"}, {5, 9, "a=xyz c= z=0"},
		{6, -1, "c= z=0"}, {6, 0, "c= z=0"}, {6, 9, "c= z=0"},
		{7, -1, all}, {7, 0, all}, {7, 9, all}, {8, 0, all}, {8, 9, all}, {math.MaxInt, math.MaxInt, all},
	}
	d := crashed(t)
	for _, c := range cases {
		what := fmt.Sprintf("P3.2: Crash(%d, %d)", c.n, c.torn)
		e := d.Crash(c.n, c.torn)
		check(t, what, e, c.want, 0)
		check(t, what+", and again, nothing waits", e.Crash(-1, 0), c.want, 0)
		check(t, what+", the old one", d, all, 7)
	}
}

func TestCrashRoom(t *testing.T) {
	for _, room := range []int{-3, 0, 7, 8, 100, math.MaxInt} {
		d := crashed(t)
		d.Room(room)
		for n := -1; n <= 8; n++ {
			e := d.Crash(n, 2)
			checkRoom(t, fmt.Sprintf("P3.2: Room(%d), Crash(%d, 2)", room, n), e, min(max(room, 0), api.MaxDisk)-e.Used())
		}
	}
	d := New(10)
	e := d.Crash(0, 0)
	e.Room(3)
	d.Room(5)
	checkRoom(t, "P3.2: the old disk's room", d, 5)
	checkRoom(t, "P3.2: the other disk's room", e, 3)
}

// usePart changes each file of a disk in place, and the set of them, and syncs.
func usePart(d *Disk) {
	d.Room(api.MaxDisk)
	for _, name := range d.Names() {
		b, _ := d.Read(name)
		d.Cut(name, 0)
		d.Append(name, bytes.Repeat([]byte("#"), len(b)+3))
	}
	d.Append("new", []byte("N"))
	d.Sync()
	d.Remove("new")
	d.Sync()
	d.Append("newer", []byte("M"))
}

func TestCrashSharesNothing(t *testing.T) {
	for n := -1; n <= 8; n++ {
		for torn := -1; torn <= 4; torn++ {
			what := fmt.Sprintf("P3.2: Crash(%d, %d)", n, torn)
			d := crashed(t)
			e, f := d.Crash(n, torn), d.Crash(n, torn)
			want := tell(t, e)
			usePart(e)
			check(t, what+", the old disk", d, "c= y=0", 7)
			check(t, what+", its like", f, want, 0)
			check(t, what+", asked again", d.Crash(n, torn), want, 0)
			usePart(d)
			check(t, what+", behind changes of the old disk", f, want, 0)
			check(t, what+", crashed, behind changes of the old disk", f.Crash(-1, 0), want, 0)
		}
	}
}

func TestNothingIsShared(t *testing.T) {
	d := New(1000)
	given := [][]byte{roomy("abc"), roomy("def"), roomy("ghi")}
	must(t, d.Append("a", given[0]))
	must(t, d.Append("a", given[1][:3]))
	must(t, d.Append("b", given[2]))
	for i, want := range []string{"abc", "def", "ghi"} {
		if got := string(given[i]); got != want || !bytes.Equal(given[i][:cap(given[i])][3:], make([]byte, cap(given[i])-3)) {
			t.Errorf("P0.3: Append changed what it was given: %q", given[i][:cap(given[i])])
		}
		scribble(given[i])
	}
	check(t, "P0.3: what was given is not kept", d, "a=abcdef b=ghi", 3)
	check(t, "P0.3: nor in what waits", d.Crash(1, 2), "a=abcde", 0)
	check(t, "P0.3: nor in what waits", d.Crash(9, 0), "a=abcdef b=ghi", 0)

	one, _ := d.Read("a")
	other, _ := d.Read("a")
	scribble(one)
	if string(other) != "abcdef" {
		t.Errorf("P0.3: two answers of Read share memory: %q", other)
	}
	names, more := d.Names(), d.Names()
	for i := range names[:cap(names)] {
		names[:cap(names)][i] = "Q"
	}
	if !slices.Equal(more, []string{"a", "b"}) {
		t.Errorf("P0.3: two answers of Names share memory: %q", more)
	}
	check(t, "P0.3: what was answered is not kept", d, "a=abcdef b=ghi", 3)
	d.Sync()
	check(t, "P0.3: what was answered is not kept", d.Crash(-1, 0), "a=abcdef b=ghi", 0)

	must(t, d.Cut("a", 2))
	kept, _ := d.Read("a")
	must(t, d.Append("a", []byte("XYZ")))
	if string(kept) != "ab" {
		t.Errorf("P0.3: Append changed what Read answered: %q", kept)
	}
	scribble(kept)
	check(t, "P0.3: an answer of a file that was cut", d, "a=abXYZ b=ghi", 2)
	check(t, "P3.2: what lasts is not cut in place", d.Crash(-1, 0), "a=abcdef b=ghi", 0)
}

func TestSpareRoomOfRead(t *testing.T) {
	d := New(1000)
	must(t, d.Append("a", []byte("12345678")))
	must(t, d.Cut("a", 3))
	short, _ := d.Read("a")
	if string(short) != "123" || bytes.Contains(short[:cap(short)], []byte("4")) {
		t.Errorf("P0.3: Read hands out what was cut: %q", short[:cap(short)])
	}
	scribble(short)
	must(t, d.Append("a", []byte("9")))
	check(t, "P0.3: spare room of an answer", d, "a=1239", 3)
}

func TestReadOfAnEmptyFile(t *testing.T) {
	d := New(10)
	must(t, d.Append("a", nil))
	if b, ok := d.Read("a"); !ok || len(b) != 0 {
		t.Errorf("P3.1: Read of an empty file: %q, %v", b, ok)
	}
	if b, ok := d.Read("b"); ok || b != nil {
		t.Errorf("P3.1: Read of no file: %q, %v", b, ok)
	}
}

func TestNil(t *testing.T) {
	var d *Disk
	for _, name := range []string{"a", "", "-"} {
		checkErr(t, "P3.2: nil, Append", d.Append(name, []byte("1")), api.ErrRange)
		checkErr(t, "P3.2: nil, Append", d.Append(name, nil), api.ErrRange)
		checkErr(t, "P3.2: nil, Cut", d.Cut(name, 0), api.ErrRange)
		checkErr(t, "P3.2: nil, Remove", d.Remove(name), api.ErrRange)
		checkErr(t, "P3.2: nil, Move", d.Move(name, name), api.ErrRange)
		checkErr(t, "P3.2: nil, Move", d.Move(name, "b"), api.ErrRange)
		if b, ok := d.Read(name); ok || b != nil {
			t.Errorf("P3.2: nil, Read: %q, %v", b, ok)
		}
	}
	d.Sync()
	d.Room(5)
	if names := d.Names(); len(names) != 0 || d.Used() != 0 || d.Waiting() != 0 {
		t.Errorf("P3.2: nil: %q, %d, %d", names, d.Used(), d.Waiting())
	}
	for n := -1; n <= 1; n++ {
		if d.Crash(n, n) != nil {
			t.Errorf("P3.2: nil, Crash(%d, %d)", n, n)
		}
	}
}

func TestZeroDisk(t *testing.T) {
	var d Disk
	check(t, "P0.1: the zero Disk", &d, "", 0)
	checkErr(t, "P0.1: the zero Disk has no room", d.Append("a", []byte("1")), api.ErrFull)
	must(t, d.Append("a", nil))
	d.Sync()
	check(t, "P0.1: the zero Disk", d.Crash(0, 0), "a=", 0)
}

// state is a disk's files in the model: a value that is copied whole at each change.
type state map[string]string

func (s state) used() int {
	total := 0
	for _, data := range s {
		total += len(data)
	}
	return total
}

func (s state) tell() string {
	var all []string
	for _, name := range slices.Sorted(maps.Keys(s)) {
		all = append(all, name+"="+s[name])
	}
	return strings.Join(all, " ")
}

// plain is a disk as the chapter tells it: all states since the last Sync, and what each Append between them appended.
type plain struct {
	room   int
	states []state
	adds   []struct {
		is         bool
		name, data string
	}
}

func (p *plain) now() state {
	return p.states[len(p.states)-1]
}

func (p *plain) push(s state, is bool, name, data string) {
	p.states = append(p.states, s)
	p.adds = append(p.adds, struct {
		is         bool
		name, data string
	}{is, name, data})
}

func (p *plain) crash(n, torn int) state {
	if n < 0 {
		return p.states[0]
	}
	if n >= len(p.adds) {
		return p.now()
	}
	s := maps.Clone(p.states[n])
	if next := p.adds[n]; next.is && torn >= 0 {
		s[next.name] += next.data[:min(torn, len(next.data))]
	}
	return s
}

// step does one thing that the bytes tell, to both; it answers whether their errors are the same.
func (p *plain) step(d *Disk, op byte, from, to string, n int) (api.Errno, api.Errno) {
	s := maps.Clone(p.now())
	old, there := s[from]
	switch op % 8 {
	case 0, 1, 2:
		data := strings.Repeat(string(rune('a'+op%26)), max(n, 0))
		got := d.Append(from, []byte(data))
		if s.used()+len(data) > p.room || !there && len(s) == api.MaxFiles {
			return got, api.ErrFull
		}
		s[from] += data
		p.push(s, true, from, data)
		return got, api.OK
	case 3:
		got := d.Cut(from, n)
		if !there {
			return got, api.ErrNone
		}
		if n < 0 || n > len(old) {
			return got, api.ErrRange
		}
		s[from] = old[:n]
		p.push(s, false, "", "")
		return got, api.OK
	case 4:
		got := d.Remove(from)
		if !there {
			return got, api.ErrNone
		}
		delete(s, from)
		p.push(s, false, "", "")
		return got, api.OK
	case 5, 6:
		got := d.Move(from, to)
		if !there {
			return got, api.ErrNone
		}
		delete(s, from)
		s[to] = old
		p.push(s, false, "", "")
		return got, api.OK
	}
	if n%3 == 0 {
		d.Room(n * 9)
		p.room = max(n*9, 0)
	} else {
		d.Sync()
		p.states, p.adds = p.states[len(p.states)-1:], nil
	}
	return api.OK, api.OK
}

// runBoth does what the bytes tell on a disk and on the model, and finds whether they stay alike.
func runBoth(t *testing.T, script []byte, names int) {
	d, p := New(60), &plain{room: 60, states: []state{{}}}
	for i := 0; i+3 < len(script); i += 4 {
		from, to := fmt.Sprint("f", int(script[i+1])%names), fmt.Sprint("f", int(script[i+2])%names)
		n := int(script[i+3]%16) - 2
		got, want := p.step(d, script[i], from, to, n)
		checkErr(t, "P3.1: held against the model", got, want)
		check(t, "P3.1: held against the model", d, p.now().tell(), len(p.adds))
		at, torn := int(script[i+1])%(len(p.adds)+3)-1, int(script[i+2]%12)-2
		check(t, "P3.2: held against the model", d.Crash(at, torn), p.crash(at, torn).tell(), 0)
		if script[i]%64 == 7 {
			d = d.Crash(at, torn)
			p.states, p.adds = []state{p.crash(at, torn)}, nil
		}
		if t.Failed() {
			t.Fatalf("at step %d of %x", i/4, script[:i+4])
		}
	}
}

func TestAgainstTheModel(t *testing.T) {
	source := rand.New(rand.NewSource(3))
	for round := range 400 {
		script := make([]byte, 4*120)
		source.Read(script)
		runBoth(t, script, []int{2, 4, 9, 80}[round%4])
	}
}

func TestManyFilesAgainstTheModel(t *testing.T) {
	source := rand.New(rand.NewSource(4))
	for range 10 {
		script := make([]byte, 4*600)
		source.Read(script)
		for i := 0; i < len(script); i += 4 {
			// Mostly Appends of no bytes, so that the files come to be as many as may be.
			if script[i]%8 > 2 && script[i+3]%5 != 0 {
				script[i], script[i+3] = 0, 2
			}
		}
		runBoth(t, script, 90)
	}
}

func FuzzDisk(f *testing.F) {
	f.Add([]byte{0, 0, 0, 5, 3, 0, 0, 3, 5, 0, 1, 0, 7, 0, 0, 3})
	f.Fuzz(func(t *testing.T, script []byte) {
		runBoth(t, script[:min(len(script), 2000)], 5)
	})
}
