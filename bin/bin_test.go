package bin

import (
	"bytes"
	"encoding/binary"
	"math"
	"strings"
	"testing"
)

// numbers are pairs of a number and its bytes, at every place where a byte more is needed.
var numbers = []struct {
	n    int64
	want string
}{
	{0, "\x00"},
	{-1, "\x01"},
	{1, "\x02"},
	{-2, "\x03"},
	{63, "\x7e"},
	{-64, "\x7f"},
	{64, "\x80\x01"},
	{-65, "\x81\x01"},
	{300, "\xd8\x04"},
	{8191, "\xfe\x7f"},
	{-8192, "\xff\x7f"},
	{8192, "\x80\x80\x01"},
	{-8193, "\x81\x80\x01"},
	{1<<62 - 1, "\xfe\xff\xff\xff\xff\xff\xff\xff\x7f"},
	{-1 << 62, "\xff\xff\xff\xff\xff\xff\xff\xff\x7f"},
	{1 << 62, "\x80\x80\x80\x80\x80\x80\x80\x80\x80\x01"},
	{-1<<62 - 1, "\x81\x80\x80\x80\x80\x80\x80\x80\x80\x01"},
	{math.MaxInt64 - 1, "\xfc\xff\xff\xff\xff\xff\xff\xff\xff\x01"},
	{math.MaxInt64, "\xfe\xff\xff\xff\xff\xff\xff\xff\xff\x01"},
	{math.MinInt64 + 1, "\xfd\xff\xff\xff\xff\xff\xff\xff\xff\x01"},
	{math.MinInt64, "\xff\xff\xff\xff\xff\xff\xff\xff\xff\x01"},
}

// noNumbers are bytes at whose beginning no number stands.
var noNumbers = []struct{ name, bytes string }{
	{"nothing", ""},
	{"a byte that lacks its next", "\x80"},
	{"nine bytes that lack their next", "\xff\xff\xff\xff\xff\xff\xff\xff\xff"},
	{"ten bytes that lack their next", "\xff\xff\xff\xff\xff\xff\xff\xff\xff\x81"},
	{"0 in two bytes", "\x80\x00"},
	{"0 in two bytes, more behind it", "\x80\x00\x02\x02"},
	{"-1 in two bytes", "\x81\x00"},
	{"63 in three bytes", "\xfe\x80\x00"},
	{"1<<62 - 1 in ten bytes", "\xfe\xff\xff\xff\xff\xff\xff\xff\xff\x00"},
	{"one bit beyond int64", "\x80\x80\x80\x80\x80\x80\x80\x80\x80\x02"},
	{"the greatest and a bit beyond", "\xfe\xff\xff\xff\xff\xff\xff\xff\xff\x03"},
	{"all bits of ten bytes", "\xff\xff\xff\xff\xff\xff\xff\xff\xff\x7f"},
	{"eleven bytes", "\x80\x80\x80\x80\x80\x80\x80\x80\x80\x80\x01"},
	{"eleven bytes, the tenth within", "\xff\xff\xff\xff\xff\xff\xff\xff\xff\x81\x00"},
	{"a hundred bytes", strings.Repeat("\x80", 99) + "\x01"},
}

func checkFailed(t *testing.T, r *Reader) {
	t.Helper()
	for range 2 {
		if r.OK() || r.Left() != 0 {
			t.Errorf("OK %v, Left %d, want a failed reader", r.OK(), r.Left())
		}
		if n, b, f := r.Num(), r.Text(), r.Flag(); n != 0 || b != nil || f {
			t.Errorf("behind a failure: %d, %x, %v", n, b, f)
		}
	}
}

func checkDone(t *testing.T, r *Reader) {
	t.Helper()
	if !r.OK() || r.Left() != 0 {
		t.Errorf("OK %v, Left %d, want all read", r.OK(), r.Left())
	}
}

func TestZeroWriterIsEmpty(t *testing.T) {
	var w Writer
	if b := w.Bytes(); len(b) != 0 {
		t.Errorf("P1.1: %x", b)
	}
}

func TestNumWrites(t *testing.T) {
	for _, c := range numbers {
		var w Writer
		w.Num(c.n)
		if got := string(w.Bytes()); got != c.want {
			t.Errorf("P1.1: Num(%d): %x, want %x", c.n, got, c.want)
		}
	}
}

func TestNumReads(t *testing.T) {
	for _, c := range numbers {
		r := Read([]byte(c.want + "\x00"))
		if got := r.Num(); got != c.n || !r.OK() || r.Left() != 1 {
			t.Errorf("P1.2: %x: %d, OK %v, Left %d, want %d", c.want, got, r.OK(), r.Left(), c.n)
		}
	}
}

// The library's zigzag numbers are another maker's bytes of the same form.
func TestNumAtEveryWidth(t *testing.T) {
	var w Writer
	var want []byte
	var all []int64
	for width := range 64 {
		for by := int64(-2); by <= 2; by++ {
			n := int64(uint64(1)<<width) ^ by
			all = append(all, n, -1-n)
		}
	}
	for _, n := range all {
		w.Num(n)
		want = binary.AppendVarint(want, n)
	}
	if got := w.Bytes(); !bytes.Equal(got, want) {
		t.Fatalf("P1.1: %x, want %x", got, want)
	}
	r := Read(want)
	for _, n := range all {
		if got := r.Num(); got != n {
			t.Errorf("P1.2: %d, want %d", got, n)
		}
	}
	checkDone(t, r)
}

func TestNoNumber(t *testing.T) {
	for _, c := range noNumbers {
		t.Run(c.name, func(t *testing.T) {
			r := Read([]byte(c.bytes))
			if got := r.Num(); got != 0 {
				t.Errorf("P1.2: Num: %d", got)
			}
			checkFailed(t, r)
		})
		t.Run(c.name+" as a length", func(t *testing.T) {
			r := Read([]byte(c.bytes))
			if got := r.Text(); got != nil {
				t.Errorf("P1.2: Text: %x", got)
			}
			checkFailed(t, r)
		})
	}
}

func TestTextWritesAndReads(t *testing.T) {
	long := strings.Repeat("x", 64)
	texts := []struct{ text, want string }{
		{"", "\x00"},
		{"a", "\x02a"},
		{"abc", "\x06abc"},
		{"\x00\xff\x80", "\x06\x00\xff\x80"},
		{long[:63], "\x7e" + long[:63]},
		{long, "\x80\x01" + long},
	}
	for _, c := range texts {
		var w Writer
		w.Text([]byte(c.text))
		if got := string(w.Bytes()); got != c.want {
			t.Errorf("P1.1: Text(%q): %x, want %x", c.text, got, c.want)
		}
		r := Read([]byte(c.want))
		if got := string(r.Text()); got != c.text {
			t.Errorf("P1.2: %x: %q, want %q", c.want, got, c.text)
		}
		checkDone(t, r)
	}
}

func TestNilTextIsEmptyText(t *testing.T) {
	var w Writer
	w.Text(nil)
	w.Text([]byte{})
	if got := string(w.Bytes()); got != "\x00\x00" {
		t.Errorf("P0.4: %x", got)
	}
}

func TestNoText(t *testing.T) {
	cases := []struct{ name, bytes string }{
		{"a length of -1", "\x01abc"},
		{"the least length", "\xff\xff\xff\xff\xff\xff\xff\xff\xff\x01abc"},
		{"one more than is left", "\x08abc"},
		{"one, and nothing is left", "\x02"},
		{"the greatest length", "\xfe\xff\xff\xff\xff\xff\xff\xff\xff\x01abc"},
		{"a length beyond 32 bits", "\x80\x80\x80\x80\x20abc"},
	}
	for _, c := range cases {
		t.Run(c.name, func(t *testing.T) {
			r := Read([]byte(c.bytes))
			if got := r.Text(); got != nil {
				t.Errorf("P1.2: %x", got)
			}
			checkFailed(t, r)
		})
	}
}

func TestFlag(t *testing.T) {
	var w Writer
	w.Flag(true)
	w.Flag(false)
	if got := string(w.Bytes()); got != "\x01\x00" {
		t.Errorf("P1.1: %x", got)
	}
	r := Read(w.Bytes())
	if first, second := r.Flag(), r.Flag(); !first || second {
		t.Errorf("P1.2: %v, %v", first, second)
	}
	checkDone(t, r)
}

func TestNoFlag(t *testing.T) {
	if r := Read(nil); r.Flag() {
		t.Error("P1.2: a flag of nothing")
	} else {
		checkFailed(t, r)
	}
	for b := 2; b < 256; b++ {
		r := Read([]byte{byte(b), 1})
		if r.Flag() {
			t.Errorf("P1.2: the byte %d is true", b)
		}
		checkFailed(t, r)
	}
}

func TestManyInARow(t *testing.T) {
	var w Writer
	w.Num(-3)
	w.Text([]byte("one"))
	w.Flag(true)
	w.Text(nil)
	w.Num(1000)
	w.Flag(false)
	want := "\x05\x06one\x01\x00\xd0\x0f\x00"
	if got := string(w.Bytes()); got != want {
		t.Fatalf("P1.1: %x, want %x", got, want)
	}
	r := Read([]byte(want))
	if n, b, f, e := r.Num(), string(r.Text()), r.Flag(), r.Text(); n != -3 || b != "one" || !f || len(e) != 0 {
		t.Errorf("P1.2: %d, %q, %v, %x", n, b, f, e)
	}
	if r.Left() != 3 || !r.OK() {
		t.Errorf("P1.2: Left %d, OK %v", r.Left(), r.OK())
	}
	if n, f := r.Num(), r.Flag(); n != 1000 || f {
		t.Errorf("P1.2: %d, %v", n, f)
	}
	checkDone(t, r)
}

func TestNothingReadIsOK(t *testing.T) {
	checkDone(t, Read(nil))
	checkDone(t, Read([]byte{}))
	if r := Read([]byte{0xff, 0xff}); !r.OK() || r.Left() != 2 {
		t.Errorf("P1.2: OK %v, Left %d", r.OK(), r.Left())
	}
}

func TestFailureDropsWhatIsBehind(t *testing.T) {
	r := Read([]byte("\x02a\x05\x02b\x01"))
	if got := string(r.Text()); got != "a" || !r.OK() || r.Left() != 4 {
		t.Errorf("P1.2: %q, OK %v, Left %d", got, r.OK(), r.Left())
	}
	if r.Flag() {
		t.Error("P1.2: the byte 5 is true")
	}
	checkFailed(t, r)
}

func TestBytesIsACopy(t *testing.T) {
	var w Writer
	w.Text([]byte("abc"))
	first, second := w.Bytes(), w.Bytes()
	scribble(first)
	if string(second) != "\x06abc" || string(w.Bytes()) != "\x06abc" {
		t.Errorf("P1.1: %x, %x", second, w.Bytes())
	}
	w.Flag(true)
	scribble(second)
	w.Flag(false)
	if got := string(w.Bytes()); got != "\x06abc\x01\x00" {
		t.Errorf("P1.1: %x", got)
	}
}

func TestBytesStandsWhenMoreIsWritten(t *testing.T) {
	var w Writer
	for n := range int64(100) {
		b := w.Bytes()
		before := string(b) + string(b[len(b):cap(b)])
		w.Num(n)
		if after := string(b) + string(b[len(b):cap(b)]); after != before {
			t.Fatalf("P0.3: %x, then %x", before, after)
		}
	}
}

func TestWriterKeepsNoText(t *testing.T) {
	room := []byte("abcdef")
	var w Writer
	w.Text(room[:3])
	w.Num(5)
	if string(room) != "abcdef" {
		t.Errorf("P0.3: %s", room)
	}
	scribble(room)
	if got := string(w.Bytes()); got != "\x06abc\x0a" {
		t.Errorf("P0.3: %x", got)
	}
}

func TestReadReadsACopy(t *testing.T) {
	room := []byte("\x04ab\x04cd\x01rest")
	r := Read(room[:7])
	scribble(room)
	first := r.Text()
	scribble(first)
	if second := string(r.Text()); second != "cd" || !r.Flag() {
		t.Errorf("P1.2: %q", second)
	}
	checkDone(t, r)
}

func TestReadChangesNothing(t *testing.T) {
	const all = "\x04ab\x02rest"
	room := []byte(all)
	r := Read(room[:4])
	scribble(r.Text())
	r.Num()
	r.Num()
	if string(room) != all {
		t.Errorf("P0.3: %x", room)
	}
}

func TestReadersOfOneListAreApart(t *testing.T) {
	b := []byte("\x02a\x02b")
	one, other := Read(b), Read(b)
	scribble(one.Text())
	if got := string(other.Text()); got != "a" || one.Left() != 2 {
		t.Errorf("P0.3: %q, Left %d", got, one.Left())
	}
}

func TestNilWriter(t *testing.T) {
	var w *Writer
	w.Num(math.MinInt64)
	w.Text([]byte("a"))
	w.Text(nil)
	w.Flag(true)
	if b := w.Bytes(); len(b) != 0 {
		t.Errorf("P1.1: %x", b)
	}
}

func TestNilReader(t *testing.T) {
	var r *Reader
	checkFailed(t, r)
}

// Whatever reads as a number is what would be written for it, so each number has one form.
func FuzzReadWrite(f *testing.F) {
	for _, c := range numbers {
		f.Add([]byte(c.want))
	}
	for _, c := range noNumbers {
		f.Add([]byte(c.bytes))
	}
	f.Add([]byte("\x06abc\x01\x00"))
	f.Fuzz(func(t *testing.T, b []byte) {
		r := Read(b)
		n := r.Num()
		if !r.OK() {
			checkFailed(t, r)
			return
		}
		var w Writer
		w.Num(n)
		if size := len(b) - r.Left(); string(w.Bytes()) != string(b[:size]) {
			t.Errorf("P1.2: %x is read as %d, which is written as %x", b[:size], n, w.Bytes())
		}
	})
}

// scribble writes over a list and its spare room.
func scribble(b []byte) {
	b = b[:cap(b)]
	for i := range b {
		b[i] = 0xee
	}
}
