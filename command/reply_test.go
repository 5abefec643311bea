package command

import (
	"bytes"
	"encoding/binary"
	"math"
	"slices"
	"strings"
	"testing"

	"delphi/api"
)

func plainReply(r api.Reply) string {
	var b strings.Builder
	b.WriteString(nums(int64(r.Err)))
	if r.Changed {
		b.WriteString("\x01")
	} else {
		b.WriteString("\x00")
	}
	b.WriteString(nums(int64(len(r.Rows))))
	for _, row := range r.Rows {
		b.WriteString(text(row))
	}
	return b.String()
}

func sameReply(a, b api.Reply) bool {
	return a.Err == b.Err && a.Changed == b.Changed && slices.Equal(a.Rows, b.Rows)
}

// replies checks a reply both ways.
func replies(t *testing.T, r api.Reply) {
	t.Helper()
	want := plainReply(r)
	if b := Reply(r); string(b) != want {
		t.Errorf("P17.1: Reply(%#.80v): %.80x, want %.80x", r, b, want)
	}
	if x, err := ReadReply([]byte(want)); err != api.OK || !sameReply(x, r) {
		t.Errorf("P17.1: ReadReply(%.80x): %#.80v, %v, want %#.80v", want, x, err, r)
	}
}

// writesOnly checks a reply that is written as each is, but whose bytes are not read.
func writesOnly(t *testing.T, r api.Reply) {
	t.Helper()
	want := plainReply(r)
	if b := Reply(r); string(b) != want {
		t.Errorf("P17.1: Reply(%#.80v): %.80x, want %.80x", r, b, want)
	}
	noReply(t, want)
}

func noReply(t *testing.T, b string) {
	t.Helper()
	if x, err := ReadReply([]byte(b)); err != api.ErrForm || !sameReply(x, api.Reply{}) {
		t.Errorf("P17.1: ReadReply(%.80x): %#.80v, %v, want ErrForm", b, x, err)
	}
}

func TestBytesOfReplies(t *testing.T) {
	for _, c := range []struct {
		of   api.Reply
		want string
	}{
		{api.Reply{}, "\x00\x00\x00"},
		{api.Reply{Changed: true}, "\x00\x01\x00"},
		{api.Reply{Err: api.ErrNone}, "\x1c\x00\x00"},
		{api.Reply{Err: api.ErrSyntax, Changed: true, Rows: []string{""}}, "\x08\x01\x02\x00"},
		{api.Reply{Rows: []string{"p(b)", "", "p(a)"}}, "\x00\x00\x06\x08p(b)\x00\x08p(a)"},
	} {
		if b := Reply(c.of); string(b) != c.want {
			t.Errorf("P17.1: Reply(%v): %x, want %x", c.of, b, c.want)
		}
		if x, err := ReadReply([]byte(c.want)); err != api.OK || !sameReply(x, c.of) {
			t.Errorf("P17.1: ReadReply(%x): %v, %v, want %v", c.want, x, err, c.of)
		}
	}
	if a, b := Reply(api.Reply{Rows: []string{}}), Reply(api.Reply{}); !bytes.Equal(a, b) {
		t.Errorf("P0.4: an empty list of rows is %x, none %x", a, b)
	}
}

func TestErrorsOfReplies(t *testing.T) {
	for err := api.OK; err <= api.ErrNone; err++ {
		for _, changed := range []bool{false, true} {
			for _, rows := range [][]string{nil, {""}, {"p(a)", "p(b)"}} {
				replies(t, api.Reply{Err: err, Changed: changed, Rows: rows})
			}
		}
	}
	for _, n := range []int64{math.MinInt64, -1<<32 + 1, -256, -15, -14, -1, 15, 16, 63, 64, 256, 257, 1 << 32, 1<<32 + 1, 1 << 62, math.MaxInt64} {
		writesOnly(t, api.Reply{Err: api.Errno(n)})
		writesOnly(t, api.Reply{Err: api.Errno(n), Changed: true, Rows: []string{"p(a)"}})
	}
}

func TestFlagsOfReplies(t *testing.T) {
	for b := 2; b < 256; b++ {
		noReply(t, "\x00"+string([]byte{byte(b)})+"\x00")
	}
}

// Rows are any texts, of any length, in the order in which they stand, and may come twice.
func TestRowsOfReplies(t *testing.T) {
	replies(t, api.Reply{Rows: []string{"b", "a", "b", "b", "", "a"}})
	replies(t, api.Reply{Rows: []string{strings.Repeat("a", 63), strings.Repeat("a", 64), strings.Repeat("a", 4001), strings.Repeat("a", 100000)}})
	for b := range 256 {
		replies(t, api.Reply{Rows: []string{string([]byte{byte(b)}), string([]byte{byte(b), 'a'})}})
	}
	for _, n := range []int{1, 2, 63, 64, 100, 999, 1000} {
		replies(t, api.Reply{Rows: make([]string, n)})
		replies(t, api.Reply{Changed: true, Rows: slices.Repeat([]string{"path(a, b)"}, n)})
	}
	for _, n := range []int{1001, 1002, 2000, 8192, 65536 + 1} {
		writesOnly(t, api.Reply{Rows: make([]string, n)})
		writesOnly(t, api.Reply{Err: api.ErrStale, Rows: slices.Repeat([]string{"path(a, b)"}, n)})
	}
}

// A count of rows that are not there, or below 0, and rows that were not counted.
func TestCountsOfReplies(t *testing.T) {
	for count := -1001; count <= 1001; count++ {
		for _, n := range []int{0, 1, 2, 999, 1000, 1001} {
			if b := "\x00\x00" + nums(int64(count)) + strings.Repeat("\x00", n); count != n || n > 1000 {
				noReply(t, b)
			}
		}
	}
	for _, count := range []int64{math.MinInt64, -1 << 40, 1 << 20, 1 << 40, 1 << 62, math.MaxInt64} {
		noReply(t, "\x00\x00"+nums(count))
		noReply(t, "\x00\x00"+nums(count)+strings.Repeat("\x00", 1000))
	}
}

func TestRepliesCutAndFollowed(t *testing.T) {
	for _, r := range []api.Reply{{}, {Err: api.ErrArity, Changed: true}, {Rows: []string{"p(a)", "", "p(abc)"}}, {Rows: make([]string, 1000)}} {
		b := plainReply(r)
		for n := range len(b) {
			noReply(t, b[:n])
		}
		for n := range 256 {
			noReply(t, b+string([]byte{byte(n)}))
		}
		noReply(t, b+b)
	}
	if x, err := ReadReply(nil); err != api.ErrForm || !sameReply(x, api.Reply{}) {
		t.Errorf("P17.1: ReadReply(nil): %v, %v", x, err)
	}
}

func TestNoReplies(t *testing.T) {
	for _, b := range []string{
		"\x80\x00\x00\x00", "\x82\x00\x00\x00", "\x00\x00\x80\x00", "\x00\x00\x82\x00\x00", "\x00\x00\x02\x80\x00",
		"\x00\x00\x02\x01", "\x00\x00\x02\x04a", "\x00\x00\x02\x01a", "\x00\x00\x04\x02a", "\x00\x00\x02" + nums(math.MaxInt64) + "a",
		"\x80\x80\x80\x80\x80\x80\x80\x80\x80\x02\x00\x00", strings.Repeat("\xff", 1000),
	} {
		noReply(t, b)
	}
}

// replyOf is the plain way back from a reply's bytes.
func replyOf(b []byte) (api.Reply, bool) {
	rest := b
	num := func() int64 {
		n, size := binary.Varint(rest)
		rest = rest[max(size, 0):]
		return n
	}
	r := api.Reply{Err: api.Errno(num())}
	if len(rest) > 0 {
		r.Changed, rest = rest[0] == 1, rest[1:]
	}
	for range min(num(), 1000) {
		size := num()
		if size < 0 || size > int64(len(rest)) {
			return api.Reply{}, false
		}
		r.Rows, rest = append(r.Rows, string(rest[:size])), rest[size:]
	}
	if r.Err < 0 || r.Err > 14 || plainReply(r) != string(b) {
		return api.Reply{}, false
	}
	return r, true
}

// Each change of bytes gives any such reply or none, as the plain way back says.
func TestRepliesNearby(t *testing.T) {
	taken, refused := 0, 0
	for _, r := range []api.Reply{
		{},
		{Err: api.ErrNone, Changed: true, Rows: []string{"p(a)", "", "q"}},
		{Rows: []string{strings.Repeat("r", 70), "", "", "", "", "", "", "", "", ""}},
	} {
		for b := range nearby([]byte(plainReply(r))) {
			want, ok := replyOf(b)
			x, err := ReadReply(b)
			if (err == api.OK) != ok || err != api.OK && err != api.ErrForm || !sameReply(x, want) {
				t.Fatalf("P17.1: ReadReply(%x): %v, %v, want %v, %v", b, x, err, want, ok)
			}
			if !ok {
				refused++
				continue
			}
			taken++
			if again := Reply(x); !bytes.Equal(again, b) {
				t.Fatalf("P17.1: Reply(%v): %x, want %x", x, again, b)
			}
		}
	}
	if taken < 1000 || refused < 1000 {
		t.Errorf("P17.1: %d texts were taken, %d refused", taken, refused)
	}
}
