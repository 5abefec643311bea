package keep

import (
	"bytes"
	"fmt"
	"math"
	"slices"
	"strconv"
	"strings"
	"testing"

	"delphi/api"
	"delphi/disk"
	"delphi/frame"
)

const plenty = 1 << 20

// tell says what is kept.
func tell(k *Keep) string {
	return tellOf(k.Hard(), k.Snap(), k.Entries())
}

func tellOf(h api.Hard, s api.Snap, entries []api.Entry) string {
	var all strings.Builder
	fmt.Fprintf(&all, "term %d vote %d", h.Term, h.Vote)
	if s.Index != 0 || s.Term != 0 || len(s.Conf) != 0 || len(s.Data) != 0 {
		fmt.Fprintf(&all, ", snap %d.%d %d %s", s.Index, s.Term, s.Conf, show(s.Data))
	}
	for _, e := range entries {
		fmt.Fprintf(&all, ", %d.%d.%d %s", e.Index, e.Term, e.Kind, show(e.Data))
	}
	return all.String()
}

// show gives bytes to be read or, if they are many, what tells them from others.
func show(b []byte) string {
	if len(b) > 500 {
		return fmt.Sprintf("%d bytes %x", len(b), frame.Sum(b))
	}
	return strconv.Quote(string(b))
}

const nothing = "term 0 vote 0"

func check(t *testing.T, what string, k *Keep, want string) {
	t.Helper()
	if got := tell(k); got != want {
		t.Errorf("%s: %.300s, want %.300s", what, got, want)
	}
}

func checkErr(t *testing.T, what string, got, want api.Errno) {
	t.Helper()
	if got != want {
		t.Errorf("%s: error %d, want %d", what, got, want)
	}
}

func must(t *testing.T, e api.Errno) {
	t.Helper()
	if e != api.OK {
		t.Fatalf("P5.1: a call that goes: error %d", e)
	}
}

func open(t *testing.T, d *disk.Disk) *Keep {
	t.Helper()
	k, e := Open(d)
	if e != api.OK || k == nil {
		t.Fatalf("P5.2: Open: %v, %d", k, e)
	}
	return k
}

// files says what is on a disk.
func files(d *disk.Disk) string {
	var all strings.Builder
	for _, name := range d.Names() {
		b, _ := d.Read(name)
		fmt.Fprintf(&all, " %s=%d:%s", name, len(b), b)
	}
	return all.String()
}

// checkLasts finds whether nothing waits any more, and what is opened is what is kept.
func checkLasts(t *testing.T, what string, k *Keep, d *disk.Disk) {
	t.Helper()
	if d.Waiting() != 0 {
		t.Errorf("%s: %d changes wait", what, d.Waiting())
	}
	opened := open(t, d.Crash(0, -1))
	check(t, what+": opened", opened, tell(k))
	// Both must find a disk full at the same calls.
	if opened.size != k.size {
		t.Errorf("%s: %d bytes are counted, opened %d", what, k.size, opened.size)
	}
}

// mostOnDisk is how many bytes the disk may hold by P5.2.
func mostOnDisk(k *Keep, calls ...api.Ready) int {
	sum := 0
	count := func(s *api.Snap, entries []api.Entry) {
		if s != nil && s.Index > 0 {
			sum += 64 + len(s.Data)
		}
		for _, e := range entries {
			sum += 64 + len(e.Data)
		}
	}
	s := k.Snap()
	count(&s, k.Entries())
	for _, r := range calls {
		count(r.Snap, r.Entries)
	}
	return 2000 + 4*sum
}

func checkRoom(t *testing.T, what string, k *Keep, d *disk.Disk) {
	t.Helper()
	if most := mostOnDisk(k); d.Used() > most {
		t.Errorf("P5.2: %s: %d bytes, want at most %d", what, d.Used(), most)
	}
}

// scribble writes over a list and its spare room.
func scribble(b []byte) {
	b = b[:cap(b)]
	for i := range b {
		b[i] = 'Q'
	}
}

func hard(term int64, vote int) api.Ready {
	return api.Ready{Saved: true, Hard: api.Hard{Term: term, Vote: vote}}
}

func snap(index, term int64, data string) api.Ready {
	return api.Ready{Snap: &api.Snap{Index: index, Term: term, Conf: []int{1, 3}, Data: []byte(data)}}
}

// list gives an entry for each term, from first on.
func list(first int64, terms ...int64) []api.Entry {
	var all []api.Entry
	for i, term := range terms {
		index := first + int64(i)
		all = append(all, api.Entry{Index: index, Term: term, Kind: 1 + i%3, Data: []byte(fmt.Sprint("e", index))})
	}
	return all
}

func from(first int64, terms ...int64) api.Ready {
	return api.Ready{First: first, Entries: list(first, terms...)}
}

// both gives one call of all that the calls bring.
func both(calls ...api.Ready) api.Ready {
	var all api.Ready
	for _, r := range calls {
		if r.Saved {
			all.Saved, all.Hard = true, r.Hard
		}
		if r.Snap != nil {
			all.Snap = r.Snap
		}
		if r.First != 0 || r.Entries != nil {
			all.First, all.Entries = r.First, r.Entries
		}
	}
	return all
}

// saved gives a Keep, on a disk of its own, behind these calls.
func saved(t *testing.T, calls ...api.Ready) (*Keep, *disk.Disk) {
	t.Helper()
	d := disk.New(plenty)
	k := open(t, d)
	for _, r := range calls {
		must(t, k.Save(r))
	}
	return k, d
}

// usual is a Keep of a vote, a snapshot up to 5, and the entries 6 to 9 of the terms 2, 2, 3, 3.
func usual(t *testing.T) (*Keep, *disk.Disk) {
	t.Helper()
	return saved(t, hard(3, 2), snap(5, 2, "five"), from(6, 2, 2, 3, 3))
}

const usualIs = `term 3 vote 2, snap 5.2 [1 3] "five", 6.2.1 "e6", 7.2.2 "e7", 8.3.3 "e8", 9.3.1 "e9"`

// checkSave finds what one Save does to what is usual; want "": it changes nothing.
func checkSave(t *testing.T, what string, r api.Ready, wantErr api.Errno, want string) {
	t.Helper()
	k, d := usual(t)
	before := files(d)
	if want == "" {
		want = usualIs
	}
	checkErr(t, what, k.Save(r), wantErr)
	check(t, what, k, want)
	checkLasts(t, what, k, d)
	if wantErr != api.OK && files(d) != before {
		t.Errorf("%s: an error changed the disk", what)
	}
	must(t, k.Save(hard(100, 1)))
	check(t, what+": going on", k, strings.Replace(want, want[:strings.Index(want+",", ",")], "term 100 vote 1", 1))
	checkLasts(t, what+": going on", k, d)
}

func TestOpenOfAnEmptyDisk(t *testing.T) {
	for _, room := range []int{math.MinInt, -1, 0, 1, plenty, math.MaxInt} {
		d := disk.New(room)
		k := open(t, d)
		check(t, "P5.2: nothing was kept", k, nothing)
		if s := k.Snap(); s.Index != 0 || s.Conf != nil || s.Data != nil || k.Entries() != nil {
			t.Errorf("P5.2: nothing was kept: %v, %v", s, k.Entries())
		}
		if d.Used() != 0 || d.Waiting() != 0 {
			t.Errorf("P5.2: Open of an empty disk: %d bytes, %d changes", d.Used(), d.Waiting())
		}
		checkErr(t, "P5.1: nothing", k.Save(api.Ready{}), api.OK)
		check(t, "P5.1: nothing", k, nothing)
	}
}

func TestOpenWithoutADisk(t *testing.T) {
	if k, e := Open(nil); k != nil || e != api.ErrRange {
		t.Errorf("P5.2: Open(nil): %v, %d", k, e)
	}
}

func TestNilKeep(t *testing.T) {
	var k *Keep
	check(t, "P5.2: a nil Keep", k, nothing)
	for _, r := range []api.Ready{{}, hard(1, 1), hard(-1, 9), snap(1, 1, "a"), from(1, 1), from(7, 0)} {
		checkErr(t, "P5.2: Save of a nil Keep", k.Save(r), api.ErrRange)
	}
	for _, s := range []api.Snap{{}, {Index: 1, Term: 1, Conf: []int{1}}, {Data: make([]byte, 30000)}} {
		checkErr(t, "P5.2: Compact of a nil Keep", k.Compact(s), api.ErrRange)
	}
	check(t, "P5.2: a nil Keep", k, nothing)
}

// A Keep that Open did not make has no disk.
func TestZeroKeep(t *testing.T) {
	k := new(Keep)
	for _, r := range []api.Ready{hard(1, 1), snap(1, 1, "a"), from(1, 1)} {
		checkErr(t, "P0.1: Save of a zero Keep", k.Save(r), api.ErrRange)
	}
	checkErr(t, "P0.1: Compact of a zero Keep", k.Compact(api.Snap{Index: 1}), api.ErrRange)
	check(t, "P0.1: a zero Keep", k, nothing)
}

func TestUsual(t *testing.T) {
	k, d := usual(t)
	check(t, "P5.1: what is usual", k, usualIs)
	checkLasts(t, "P5.1: what is usual", k, d)
}

func TestSaveOfNothing(t *testing.T) {
	checkSave(t, "P5.1: nothing", api.Ready{}, api.OK, "")
	checkSave(t, "P5.1: Hard, but not Saved", api.Ready{Hard: api.Hard{Term: 9, Vote: 1}}, api.OK, "")
	checkSave(t, "P5.1: a bad Hard, but not Saved", api.Ready{Hard: api.Hard{Term: -9, Vote: 77}}, api.OK, "")
	checkSave(t, "P5.1: entries, but First 0", api.Ready{Entries: list(7, 5)}, api.OK, "")
	checkSave(t, "P5.1: entries anywhere, but First 0", api.Ready{Entries: list(700, 5)}, api.OK, "")
	checkSave(t, "P5.1: entries, but First below 0", api.Ready{First: -1, Entries: list(7, 5)}, api.OK, "")
	checkSave(t, "P5.1: First far below 0", api.Ready{First: math.MinInt64}, api.OK, "")
	checkSave(t, "P5.1: what else is ready", api.Ready{Msgs: []api.Msg{{Kind: 1}}, Commit: list(6, 2), Reads: []api.Read{{Ctx: 1}}}, api.OK, "")
}

func TestSaveOfNothingNeedsNoRoom(t *testing.T) {
	k, d := usual(t)
	d.Room(0)
	checkErr(t, "P5.1: nothing", k.Save(api.Ready{}), api.OK)
	checkErr(t, "P5.1: something", k.Save(hard(4, 0)), api.ErrFull)
	check(t, "P5.1: without room", k, usualIs)
	checkLasts(t, "P5.1: without room", k, d)
}

func TestSaveHard(t *testing.T) {
	rest := strings.TrimPrefix(usualIs, "term 3 vote 2")
	for _, c := range []struct {
		term int64
		vote int
	}{{3, 2}, {3, 0}, {3, 7}, {4, 0}, {4, 1}, {4, 7}, {50, 3}} {
		want := fmt.Sprintf("term %d vote %d", c.term, c.vote) + rest
		checkSave(t, fmt.Sprintf("P5.1: Hard %v", c), hard(c.term, c.vote), api.OK, want)
	}
	for _, c := range []struct {
		term int64
		vote int
	}{{2, 2}, {2, 0}, {0, 0}, {-1, 0}, {math.MinInt64, 0}, {3, -1}, {3, 8}, {9, 8}, {9, -1}, {9, math.MinInt}, {9, math.MaxInt}, {9, 1 << 32}} {
		checkSave(t, fmt.Sprintf("P5.1: Hard %v", c), hard(c.term, c.vote), api.ErrForm, "")
	}
}

func TestSaveTheGreatestTerm(t *testing.T) {
	k, d := saved(t, hard(math.MaxInt64, 7))
	check(t, "P5.1: the greatest term", k, "term 9223372036854775807 vote 7")
	checkLasts(t, "P5.1: the greatest term", k, d)
	checkErr(t, "P5.1: below it", k.Save(hard(math.MaxInt64-1, 7)), api.ErrForm)
	k, _ = saved(t)
	checkErr(t, "P5.1: the first term below 0", k.Save(hard(-1, 0)), api.ErrForm)
	checkErr(t, "P5.1: the first term 0", k.Save(hard(0, 3)), api.OK)
	check(t, "P5.1: the first term 0", k, "term 0 vote 3")
}

func TestSaveSnap(t *testing.T) {
	const ahead = "term 3 vote 2, "
	cases := []struct {
		index, term int64
		err         api.Errno
		want        string
	}{
		{0, 2, api.ErrRange, ""}, {1, 2, api.ErrRange, ""}, {4, 2, api.ErrRange, ""}, {5, 2, api.ErrRange, ""}, {5, 9, api.ErrRange, ""},
		{6, 2, api.OK, ahead + `snap 6.2 [1 3] "new", 7.2.2 "e7", 8.3.3 "e8", 9.3.1 "e9"`},
		{6, 3, api.OK, ahead + `snap 6.3 [1 3] "new"`}, {6, 1, api.OK, ahead + `snap 6.1 [1 3] "new"`}, {6, 0, api.OK, ahead + `snap 6.0 [1 3] "new"`},
		{7, 2, api.OK, ahead + `snap 7.2 [1 3] "new", 8.3.3 "e8", 9.3.1 "e9"`},
		{7, 3, api.OK, ahead + `snap 7.3 [1 3] "new"`},
		{8, 3, api.OK, ahead + `snap 8.3 [1 3] "new", 9.3.1 "e9"`},
		{8, 2, api.OK, ahead + `snap 8.2 [1 3] "new"`},
		{9, 3, api.OK, ahead + `snap 9.3 [1 3] "new"`}, {9, 4, api.OK, ahead + `snap 9.4 [1 3] "new"`},
		{10, 3, api.OK, ahead + `snap 10.3 [1 3] "new"`}, {1000, 3, api.OK, ahead + `snap 1000.3 [1 3] "new"`},
		{math.MaxInt64, math.MaxInt64, api.OK, ahead + `snap 9223372036854775807.9223372036854775807 [1 3] "new"`},
		{-1, 2, api.ErrForm, ""}, {math.MinInt64, 2, api.ErrForm, ""}, {6, -1, api.ErrForm, ""}, {7, math.MinInt64, api.ErrForm, ""}, {-1, -1, api.ErrForm, ""},
	}
	for _, c := range cases {
		checkSave(t, fmt.Sprintf("P5.1: a snapshot %d.%d", c.index, c.term), snap(c.index, c.term, "new"), c.err, c.want)
	}
}

func TestSaveSnapsMembers(t *testing.T) {
	good := [][]int{{1}, {7}, {1, 2}, {6, 7}, {1, 3, 5}, {1, 2, 3, 4, 5, 6, 7}}
	for _, conf := range good {
		r := api.Ready{Snap: &api.Snap{Index: 9, Term: 1, Conf: conf}}
		checkSave(t, fmt.Sprintf("P5.1: members %v", conf), r, api.OK, fmt.Sprintf(`term 3 vote 2, snap 9.1 %d ""`, conf))
	}
	bad := [][]int{nil, {}, {0}, {8}, {-1}, {0, 1}, {1, 1}, {2, 1}, {1, 8}, {1, 2, 2}, {1, 3, 2}, {7, 7}, {1, 2, 3, 4, 5, 6, 7, 8},
		{1, 2, 3, 4, 5, 6, 7, 7}, {math.MinInt}, {math.MaxInt}, {1, math.MaxInt}, {1 << 32, 1<<32 + 1}, make([]int, 5000)}
	for _, conf := range bad {
		r := api.Ready{Snap: &api.Snap{Index: 9, Term: 1, Conf: conf}}
		checkSave(t, fmt.Sprintf("P5.1: no members %.40v", conf), r, api.ErrForm, "")
	}
}

func TestSaveEntries(t *testing.T) {
	const ahead = `term 3 vote 2, snap 5.2 [1 3] "five"`
	cases := []struct {
		r    api.Ready
		err  api.Errno
		want string
	}{
		{from(10, 4), api.OK, usualIs + `, 10.4.1 "e10"`},
		{from(10, 4, 3, 9), api.OK, usualIs + `, 10.4.1 "e10", 11.3.2 "e11", 12.9.3 "e12"`},
		{from(9, 4), api.OK, strings.Replace(usualIs, `9.3.1`, `9.4.1`, 1)},
		{from(8, 4, 4, 4), api.OK, ahead + `, 6.2.1 "e6", 7.2.2 "e7", 8.4.1 "e8", 9.4.2 "e9", 10.4.3 "e10"`},
		{from(8, 4), api.OK, ahead + `, 6.2.1 "e6", 7.2.2 "e7", 8.4.1 "e8"`},
		{from(6, 1), api.OK, ahead + `, 6.1.1 "e6"`},
		{from(6, math.MaxInt64), api.OK, ahead + `, 6.9223372036854775807.1 "e6"`},
		{from(10), api.OK, ""}, {from(9), api.OK, strings.Replace(usualIs, `, 9.3.1 "e9"`, ``, 1)},
		{from(8), api.OK, ahead + `, 6.2.1 "e6", 7.2.2 "e7"`}, {from(6), api.OK, ahead},
		{from(1), api.ErrRange, ""}, {from(4), api.ErrRange, ""}, {from(5), api.ErrRange, ""}, {from(11), api.ErrRange, ""}, {from(12), api.ErrRange, ""}, {from(math.MaxInt64), api.ErrRange, ""},
		{from(1, 2), api.ErrRange, ""}, {from(5, 2), api.ErrRange, ""}, {from(5, 2, 2), api.ErrRange, ""}, {from(11, 4), api.ErrRange, ""}, {from(1<<32+6, 4), api.ErrRange, ""},
		{from(math.MaxInt64, 4), api.ErrRange, ""}, {from(math.MaxInt64, 4, 4), api.ErrRange, ""},
		{api.Ready{First: 8, Entries: list(7, 4)}, api.ErrRange, ""}, {api.Ready{First: 8, Entries: list(9, 4)}, api.ErrRange, ""},
		{api.Ready{First: 8, Entries: append(list(8, 4), list(8, 4)...)}, api.ErrRange, ""},
		{api.Ready{First: 8, Entries: append(list(8, 4), list(10, 4)...)}, api.ErrRange, ""},
		{api.Ready{First: 8, Entries: append(list(8, 4, 4), list(9, 4)...)}, api.ErrRange, ""},
		{api.Ready{First: 8, Entries: append(list(8, 4), list(7, 4)...)}, api.ErrRange, ""},
		{api.Ready{First: 8, Entries: list(0, 4)}, api.ErrRange, ""}, {api.Ready{First: 8, Entries: list(-8, 4)}, api.ErrRange, ""},
		{api.Ready{First: 8, Entries: list(math.MinInt64, 4)}, api.ErrRange, ""}, {api.Ready{First: 8, Entries: list(math.MaxInt64, 4)}, api.ErrRange, ""},
		{api.Ready{First: 8, Entries: append(list(8, 4), list(math.MinInt64+7, 4)...)}, api.ErrRange, ""},
	}
	for _, c := range cases {
		what := fmt.Sprintf("P5.1: First %d, %d entries", c.r.First, len(c.r.Entries))
		checkSave(t, what, c.r, c.err, c.want)
	}
}

func TestSaveEntriesForm(t *testing.T) {
	for _, kind := range []int{math.MinInt, -1, 0, 4, 5, 1<<32 + 1, math.MaxInt} {
		checkSave(t, fmt.Sprintf("P5.1: Kind %d", kind), api.Ready{First: 10, Entries: []api.Entry{{Index: 10, Term: 3, Kind: kind}}}, api.ErrForm, "")
		late := append(list(10, 3, 3), api.Entry{Index: 12, Term: 3, Kind: kind})
		checkSave(t, fmt.Sprintf("P5.1: Kind %d, the third entry's", kind), api.Ready{First: 10, Entries: late}, api.ErrForm, "")
	}
	for _, term := range []int64{math.MinInt64, -1, 0} {
		checkSave(t, fmt.Sprintf("P5.1: Term %d", term), from(10, term), api.ErrForm, "")
		checkSave(t, fmt.Sprintf("P5.1: Term %d, the third entry's", term), from(10, 3, 3, term), api.ErrForm, "")
	}
	for kind := 1; kind <= 3; kind++ {
		r := api.Ready{First: 10, Entries: []api.Entry{{Index: 10, Term: 1, Kind: kind}}}
		checkSave(t, fmt.Sprintf("P5.1: Kind %d", kind), r, api.OK, usualIs+fmt.Sprintf(`, 10.1.%d ""`, kind))
	}
}

func TestFirstEntriesOfANewKeep(t *testing.T) {
	k, d := saved(t)
	for _, r := range []api.Ready{from(2, 1), from(2), from(math.MaxInt64)} {
		checkErr(t, "P5.1: beyond the first", k.Save(r), api.ErrRange)
	}
	checkErr(t, "P5.1: none at the first", k.Save(from(1)), api.OK)
	checkErr(t, "P5.1: the first", k.Save(from(1, 5, 4)), api.OK)
	check(t, "P5.1: the first", k, nothing+`, 1.5.1 "e1", 2.4.2 "e2"`)
	checkLasts(t, "P5.1: the first", k, d)
}

func TestSaveOfSeveral(t *testing.T) {
	cases := []struct {
		r    api.Ready
		err  api.Errno
		want string
	}{
		{both(hard(4, 1), from(10, 4)), api.OK, strings.Replace(usualIs, "term 3 vote 2", "term 4 vote 1", 1) + `, 10.4.1 "e10"`},
		{both(hard(4, 1), snap(8, 3, "new")), api.OK, `term 4 vote 1, snap 8.3 [1 3] "new", 9.3.1 "e9"`},
		{both(snap(8, 3, "new"), from(9, 4)), api.OK, `term 3 vote 2, snap 8.3 [1 3] "new", 9.4.1 "e9"`},
		{both(snap(8, 3, "new"), from(10, 4)), api.OK, `term 3 vote 2, snap 8.3 [1 3] "new", 9.3.1 "e9", 10.4.1 "e10"`},
		{both(snap(7, 2, "new"), from(9, 4)), api.OK, `term 3 vote 2, snap 7.2 [1 3] "new", 8.3.3 "e8", 9.4.1 "e9"`},
		{both(snap(8, 2, "new"), from(9, 4)), api.OK, `term 3 vote 2, snap 8.2 [1 3] "new", 9.4.1 "e9"`},
		{both(snap(8, 2, "new"), from(10, 4)), api.ErrRange, ""},
		{both(snap(8, 3, "new"), from(8, 4)), api.ErrRange, ""},
		{both(snap(8, 3, "new"), from(11, 4)), api.ErrRange, ""},
		{both(snap(20, 3, "new"), from(10, 4)), api.ErrRange, ""},
		{both(snap(20, 3, "new"), from(21, 4)), api.OK, `term 3 vote 2, snap 20.3 [1 3] "new", 21.4.1 "e21"`},
		{both(snap(20, 3, "new"), from(21)), api.OK, `term 3 vote 2, snap 20.3 [1 3] "new"`},
		{both(snap(math.MaxInt64, 3, "new"), from(math.MaxInt64, 4)), api.ErrRange, ""},
		{both(snap(math.MaxInt64-1, 3, ""), from(math.MaxInt64, 4)), api.OK, `term 3 vote 2, snap 9223372036854775806.3 [1 3] "", 9223372036854775807.4.1 "e9223372036854775807"`},
		{both(snap(math.MaxInt64-1, 3, ""), from(math.MaxInt64, 4, 4)), api.ErrRange, ""},
		{both(hard(9, 7), snap(30, 8, "all"), from(31, 9, 9)), api.OK, `term 9 vote 7, snap 30.8 [1 3] "all", 31.9.1 "e31", 32.9.2 "e32"`},
		{both(hard(9, 7), snap(9, 3, "all"), from(10)), api.OK, `term 9 vote 7, snap 9.3 [1 3] "all"`},
		{both(hard(9, 7), from(12, 9)), api.ErrRange, ""},
		{both(hard(9, 7), snap(5, 2, "old"), from(10, 9)), api.ErrRange, ""},
	}
	for n, c := range cases {
		checkSave(t, fmt.Sprintf("P5.1: several, %d", n), c.r, c.err, c.want)
	}
}

// Behind the greatest Index there is no place for an entry, and that must be found without counting beyond it.
func TestTheGreatestIndex(t *testing.T) {
	k, d := saved(t, snap(math.MaxInt64, 5, "end"))
	for _, r := range []api.Ready{from(math.MaxInt64, 6), from(1, 6), from(math.MaxInt64)} {
		checkErr(t, "P5.1: behind the greatest Index", k.Save(r), api.ErrRange)
	}
	for term := range int64(100) {
		must(t, k.Save(hard(term, 1)))
	}
	check(t, "P5.1: the greatest Index", k, `term 99 vote 1, snap 9223372036854775807.5 [1 3] "end"`)
	checkLasts(t, "P5.1: the greatest Index", k, d)
	checkErr(t, "P5.2: Compact", k.Compact(api.Snap{Index: math.MaxInt64, Term: 5, Conf: []int{1}}), api.ErrRange)
	k, d = saved(t, both(snap(math.MaxInt64-2, 5, ""), from(math.MaxInt64-1, 5, 6)))
	checkErr(t, "P5.2: Compact", k.Compact(api.Snap{Index: math.MaxInt64, Term: 6, Conf: []int{1}}), api.OK)
	check(t, "P5.2: Compact at the greatest Index", k, nothing+`, snap 9223372036854775807.6 [1] ""`)
	checkLasts(t, "P5.2: Compact at the greatest Index", k, d)
}

func entryOf(size int) api.Ready {
	return api.Ready{First: 10, Entries: []api.Entry{{Index: 10, Term: 3, Kind: 2, Data: bytes.Repeat([]byte("d"), size)}}}
}

func TestSizes(t *testing.T) {
	for _, size := range []int{0, 1, 63, 64, 8191, 8192} {
		want := usualIs + ", 10.3.2 " + show(bytes.Repeat([]byte("d"), size))
		checkSave(t, fmt.Sprintf("P5.1: an entry of %d bytes", size), entryOf(size), api.OK, want)
	}
	for _, size := range []int{8193, 8194, 20000, 32768, 65536, 1 << 20, 1 << 23} {
		checkSave(t, fmt.Sprintf("P5.1: an entry of %d bytes", size), entryOf(size), api.ErrLimit, "")
		late := api.Ready{First: 8, Entries: append(list(8, 3, 3), entryOf(size).Entries...)}
		checkSave(t, fmt.Sprintf("P5.1: a third entry of %d bytes", size), late, api.ErrLimit, "")
	}
	for _, size := range []int{0, 1, 8193, 19999, 20000} {
		data := strings.Repeat("s", size)
		want := "term 3 vote 2, snap 9.3 [1 3] " + show([]byte(data))
		checkSave(t, fmt.Sprintf("P5.1: a snapshot of %d bytes", size), snap(9, 3, data), api.OK, want)
	}
	for _, size := range []int{20001, 32768, 65536, 1 << 20, 1 << 23} {
		data := strings.Repeat("s", size)
		checkSave(t, fmt.Sprintf("P5.1: a snapshot of %d bytes", size), snap(9, 3, data), api.ErrLimit, "")
	}
}

func TestTheErrorThatIsNamedFirst(t *testing.T) {
	long, longSnap := entryOf(8193), snap(9, 3, strings.Repeat("s", 20001))
	longFar := api.Ready{First: 12, Entries: []api.Entry{{Index: 12, Term: 3, Kind: 2, Data: make([]byte, 8193)}}}
	noForm := api.Ready{First: 12, Entries: []api.Entry{{Index: 12, Term: 3, Kind: 9, Data: make([]byte, 8193)}}}
	cases := []struct {
		what string
		r    api.Ready
		err  api.Errno
	}{
		{"form and range", both(hard(1, 1), from(12, 3)), api.ErrForm},
		{"range and form", both(snap(5, 1, ""), from(10, 0)), api.ErrForm},
		{"form and limit", both(hard(9, 9), long), api.ErrForm},
		{"form, range and limit of an entry", noForm, api.ErrForm},
		{"range and limit", longFar, api.ErrRange},
		{"range of the snapshot, limit of an entry", both(snap(5, 2, ""), long), api.ErrRange},
		{"limit of the snapshot, range of the entries", both(longSnap, from(20, 3)), api.ErrRange},
		{"limit of the snapshot, form of Hard", both(longSnap, hard(2, 1)), api.ErrForm},
		{"limit of a snapshot that is old", snap(5, 3, strings.Repeat("s", 20001)), api.ErrRange},
		{"limit of a snapshot without members", api.Ready{Snap: &api.Snap{Index: 9, Data: make([]byte, 20001)}}, api.ErrForm},
		{"limit of both", both(longSnap, long), api.ErrLimit},
		{"form, but First 0", api.Ready{Entries: []api.Entry{{Index: 10, Term: 1, Kind: 4}}}, api.ErrForm},
		{"limit, but First 0", api.Ready{Entries: long.Entries}, api.ErrLimit},
	}
	for _, c := range cases {
		checkSave(t, "P5.1: "+c.what, c.r, c.err, "")
		k, d := usual(t)
		d.Room(0)
		checkErr(t, "P5.1: without room: "+c.what, k.Save(c.r), c.err)
		check(t, "P5.1: without room: "+c.what, k, usualIs)
	}
}

// checkCompact finds what Compact does to what is usual; want "": it changes nothing.
func checkCompact(t *testing.T, what string, s api.Snap, wantErr api.Errno, want string) {
	t.Helper()
	k, d := usual(t)
	before := files(d)
	if want == "" {
		want = usualIs
	}
	checkErr(t, what, k.Compact(s), wantErr)
	check(t, what, k, want)
	checkLasts(t, what, k, d)
	if wantErr != api.OK && files(d) != before {
		t.Errorf("%s: an error changed the disk", what)
	}
}

func TestCompact(t *testing.T) {
	const ahead = "term 3 vote 2, "
	cases := []struct {
		index, term int64
		err         api.Errno
		want        string
	}{
		{6, 2, api.OK, ahead + `snap 6.2 [2] "c", 7.2.2 "e7", 8.3.3 "e8", 9.3.1 "e9"`},
		{7, 2, api.OK, ahead + `snap 7.2 [2] "c", 8.3.3 "e8", 9.3.1 "e9"`},
		{8, 3, api.OK, ahead + `snap 8.3 [2] "c", 9.3.1 "e9"`},
		{9, 3, api.OK, ahead + `snap 9.3 [2] "c"`},
		{5, 2, api.ErrRange, ""}, {4, 2, api.ErrRange, ""}, {1, 2, api.ErrRange, ""}, {0, 0, api.ErrRange, ""}, {-1, 2, api.ErrRange, ""}, {-1, -1, api.ErrRange, ""},
		{10, 3, api.ErrRange, ""}, {11, 3, api.ErrRange, ""}, {math.MaxInt64, 3, api.ErrRange, ""}, {math.MinInt64, 3, api.ErrRange, ""}, {math.MinInt64 + 10, 3, api.ErrRange, ""},
		{6, 3, api.ErrRange, ""}, {6, 1, api.ErrRange, ""}, {6, 0, api.ErrRange, ""}, {6, -2, api.ErrRange, ""}, {8, 2, api.ErrRange, ""}, {8, 4, api.ErrRange, ""}, {9, 1<<32 + 3, api.ErrRange, ""},
	}
	for _, c := range cases {
		s := api.Snap{Index: c.index, Term: c.term, Conf: []int{2}, Data: []byte("c")}
		checkCompact(t, fmt.Sprintf("P5.2: Compact at %d.%d", c.index, c.term), s, c.err, c.want)
	}
}

func TestCompactSizes(t *testing.T) {
	for _, size := range []int{0, 8193, 19999, 20000} {
		s := api.Snap{Index: 9, Term: 3, Conf: []int{2}, Data: bytes.Repeat([]byte("c"), size)}
		checkCompact(t, fmt.Sprintf("P5.2: Compact of %d bytes", size), s, api.OK, "term 3 vote 2, snap 9.3 [2] "+show(s.Data))
	}
	for _, size := range []int{20001, 32768, 65537, 1 << 23} {
		s := api.Snap{Index: 9, Term: 3, Conf: []int{2}, Data: make([]byte, size)}
		checkCompact(t, fmt.Sprintf("P5.2: Compact of %d bytes", size), s, api.ErrLimit, "")
		s.Term = 2
		checkCompact(t, fmt.Sprintf("P5.2: Compact of %d bytes, of another term", size), s, api.ErrRange, "")
	}
}

func TestCompactErrorsWithoutRoom(t *testing.T) {
	k, d := usual(t)
	d.Room(d.Used())
	before := files(d)
	checkErr(t, "P5.2: Compact without room", k.Compact(api.Snap{Index: 9, Term: 3, Conf: []int{2}}), api.ErrFull)
	checkErr(t, "P5.2: too long", k.Compact(api.Snap{Index: 9, Term: 3, Conf: []int{2}, Data: make([]byte, 20001)}), api.ErrLimit)
	checkErr(t, "P5.2: another term", k.Compact(api.Snap{Index: 9, Term: 2, Conf: []int{2}}), api.ErrRange)
	check(t, "P5.2: Compact without room", k, usualIs)
	checkLasts(t, "P5.2: Compact without room", k, d)
	if files(d) != before {
		t.Error("P5.2: an error changed the disk")
	}
}

// The chapter names no error for Compact's members: they are kept as they come.
func TestCompactWithAnyMembers(t *testing.T) {
	many := make([]int, 40000)
	for i := range many {
		many[i] = i * i
	}
	for _, conf := range [][]int{nil, {}, {0}, {9, 2}, {math.MinInt, math.MaxInt, -1}, many} {
		k, d := usual(t)
		checkErr(t, "P5.2: Compact with any members", k.Compact(api.Snap{Index: 8, Term: 3, Conf: conf}), api.OK)
		checkLasts(t, "P5.2: Compact with any members", k, d)
		must(t, k.Save(hard(4, 4)))
		must(t, k.Save(from(9, 9)))
		checkLasts(t, "P5.2: Compact with any members, going on", k, d)
		if got := open(t, d).Snap().Conf; !slices.Equal(got, conf) {
			t.Errorf("P5.2: %.100v, want %.100v", got, conf)
		}
	}
}

// A call may be longer than a record of the log, and than a seal.
func TestLongCalls(t *testing.T) {
	for _, count := range []int{3, 4, 5, 8, 9, 20, 100} {
		var entries []api.Entry
		for i := range count {
			entries = append(entries, api.Entry{Index: int64(i + 31), Term: 4, Kind: 2, Data: bytes.Repeat([]byte{byte(i)}, 8192-i%3)})
		}
		k, d := usual(t)
		r := both(hard(7, 7), snap(30, 4, strings.Repeat("s", 20000)), api.Ready{First: 31, Entries: entries})
		checkErr(t, "P5.1: a long call", k.Save(r), api.OK)
		check(t, "P5.1: a long call", k, tellOf(r.Hard, *r.Snap, entries))
		checkLasts(t, "P5.1: a long call", k, d)
		checkRoom(t, "a long call", k, d)
		checkErr(t, "P5.2: Compact behind a long call", k.Compact(api.Snap{Index: 32, Term: 4, Conf: []int{1}}), api.OK)
		check(t, "P5.2: Compact behind a long call", k, tellOf(r.Hard, api.Snap{Index: 32, Term: 4, Conf: []int{1}}, entries[2:]))
		checkLasts(t, "P5.2: Compact behind a long call", k, d)
		checkRoom(t, "Compact behind a long call", k, d)
	}
}

// A text may end just where a record does.
func TestCallsOfEveryLengthNearARecord(t *testing.T) {
	for size := range 120 {
		var entries []api.Entry
		for i := range 4 {
			entries = append(entries, api.Entry{Index: int64(i + 1), Term: 1, Kind: 2, Data: bytes.Repeat([]byte{byte(i + 1)}, 8192)})
		}
		entries[3].Data = entries[3].Data[size:]
		k, d := saved(t, api.Ready{First: 1, Entries: entries})
		check(t, "P5.1: a call near a record's length", k, tellOf(api.Hard{}, api.Snap{}, entries))
		checkLasts(t, "P5.1: a call near a record's length", k, d)
	}
}

func TestListsWithoutElements(t *testing.T) {
	k, d := saved(t, api.Ready{First: 1, Entries: []api.Entry{{Index: 1, Term: 1, Kind: 1, Data: []byte{}}, {Index: 2, Term: 1, Kind: 1}}})
	must(t, k.Save(api.Ready{First: 3, Entries: []api.Entry{}}))
	must(t, k.Compact(api.Snap{Index: 1, Term: 1, Conf: []int{1}, Data: []byte{}}))
	for _, k := range []*Keep{k, open(t, d.Crash(0, 0))} {
		check(t, "P0.4: lists without elements", k, nothing+`, snap 1.1 [1] "", 2.1.1 ""`)
	}
}

func TestNobodyElsesMemory(t *testing.T) {
	spare := func(s string) []byte { return append(make([]byte, 0, 100), s...) }
	d := disk.New(plenty)
	k := open(t, d)
	entries := append(make([]api.Entry, 0, 10), api.Entry{Index: 6, Term: 2, Kind: 2, Data: spare("six")}, api.Entry{Index: 7, Term: 2, Kind: 2, Data: spare("seven")})
	s := &api.Snap{Index: 5, Term: 2, Conf: append(make([]int, 0, 10), 1, 2), Data: spare("five")}
	given := func() string {
		return fmt.Sprint(entries[:10], s.Conf[:10], entries[0].Data[:100], entries[1].Data[:100], s.Data[:100])
	}
	before := given()
	must(t, k.Save(api.Ready{Snap: s, First: 6, Entries: entries}))
	if given() != before {
		t.Error("P0.3: Save changed what it was given")
	}
	const want = nothing + `, snap 5.2 [1 2] "five", 6.2.2 "six", 7.2.2 "seven"`
	spoil := func(s *api.Snap, entries []api.Entry) {
		scribble(s.Data)
		conf := s.Conf[:cap(s.Conf)]
		for i := range conf {
			conf[i] = 9
		}
		entries = entries[:cap(entries)]
		for i := range entries {
			scribble(entries[i].Data)
			entries[i] = api.Entry{Index: 99, Term: 99}
		}
		s.Index, s.Term = 99, 99
	}
	spoil(s, entries)
	check(t, "P0.3: what was given to Save is written over", k, want)
	told, other := k.Snap(), k.Snap()
	toldEntries, others := k.Entries(), k.Entries()
	spoil(&told, toldEntries)
	check(t, "P0.3: what was told is written over", k, want)
	if got := tellOf(api.Hard{}, other, others); got != want {
		t.Errorf("P0.3: what another call told is written over: %s", got)
	}
	must(t, k.Save(from(8, 3)))
	if got := tellOf(api.Hard{}, other, others); got != want {
		t.Errorf("P0.3: Save changed what was told: %s", got)
	}
	compacted := api.Snap{Index: 6, Term: 2, Conf: append(make([]int, 0, 10), 3), Data: spare("until six")}
	must(t, k.Compact(compacted))
	spoil(&compacted, nil)
	check(t, "P0.3: what was given to Compact is written over", k, nothing+`, snap 6.2 [3] "until six", 7.2.2 "seven", 8.3.1 "e8"`)
	checkLasts(t, "P0.3: what is written over", k, d)
}

// Entries that a failed call was to put behind others must not come to stand there.
func TestFailedCallsLeaveNothingInMemory(t *testing.T) {
	k, d := usual(t)
	for first := int64(6); first <= 10; first++ {
		d.Room(d.Used())
		checkErr(t, "P5.1: without room", k.Save(both(hard(8, 1), from(first, 7, 7, 7))), api.ErrFull)
		check(t, "P5.1: without room", k, usualIs)
		d.Room(plenty)
		checkLasts(t, "P5.1: without room", k, d)
	}
	must(t, k.Save(from(10, 4)))
	check(t, "P5.1: room once more", k, usualIs+`, 10.4.1 "e10"`)
	checkLasts(t, "P5.1: room once more", k, d)
}
