package frame

import (
	"bytes"
	"encoding/binary"
	"hash/crc32"
	"slices"
	"testing"

	"delphi/api"
)

// seal makes a seal's bytes by the library alone, of any length, so that Seal and Open have another maker beside them.
func seal(body []byte) []byte {
	head := binary.LittleEndian.AppendUint32(nil, uint32(len(body)))
	sum := crc32.ChecksumIEEE(append(bytes.Clone(head), body...))
	return append(binary.LittleEndian.AppendUint32(head, sum), body...)
}

// mixed gives n bytes that are not all alike.
func mixed(n int) []byte {
	b := make([]byte, n)
	state := uint32(n)*2654435761 + 1
	for i := range b {
		state = state*1664525 + 1013904223
		b[i] = byte(state >> 24)
	}
	return b
}

// bodies are what may be sealed: nothing, each length near a place where the length takes a byte more, the limit.
func bodies() [][]byte {
	all := [][]byte{nil, {}, {0}, {0xff}, []byte("ab"), make([]byte, 8), seal(nil), seal([]byte("inner"))}
	for _, n := range []int{1, 2, 3, 4, 7, 8, 9, 254, 255, 256, 257, 4000, 65534, 65535, 65536} {
		all = append(all, mixed(n))
	}
	return append(all, make([]byte, api.MaxRecord), bytes.Repeat([]byte{0xff}, api.MaxRecord))
}

func short(b []byte) []byte {
	return b[:min(len(b), 20)]
}

func checkNoSeal(t *testing.T, what string, b []byte) {
	t.Helper()
	if body, ok := Open(b); ok || body != nil {
		t.Errorf("P2.1: Open of %s: %x, %v", what, short(body), ok)
	}
}

func checkScan(t *testing.T, what string, b []byte, want [][]byte, size int) {
	t.Helper()
	got, n := Scan(b)
	if n != size || !slices.EqualFunc(got, want, bytes.Equal) {
		t.Errorf("P2.1: Scan of %s: %d seals, %d bytes, want %d seals, %d bytes", what, len(got), n, len(want), size)
	}
}

func TestSum(t *testing.T) {
	sums := []struct {
		text string
		want uint32
	}{
		{"", 0},
		{"\x00", 0xd202ef8d},
		{"a", 0xe8b7be43},
		{"abc", 0x352441c2},
		{"123456789", 0xcbf43926},
		{"\x00\x00\x00\x00", 0x2144df1c},
		{"\xff\xff\xff\xff", 0xffffffff},
		{"The quick brown fox jumps over the lazy dog", 0x414fa339},
	}
	for _, c := range sums {
		if got := Sum([]byte(c.text)); got != c.want {
			t.Errorf("P2.1: Sum(%q): %08x, want %08x", c.text, got, c.want)
		}
	}
	if got := Sum(nil); got != 0 {
		t.Errorf("P0.4: Sum(nil): %08x", got)
	}
}

func TestSumOfEveryByte(t *testing.T) {
	for c := range 256 {
		b := []byte{'x', byte(c), 'y'}
		if got, want := Sum(b), crc32.ChecksumIEEE(b); got != want {
			t.Errorf("P2.1: Sum(%x): %08x, want %08x", b, got, want)
		}
	}
}

func TestSumIsTheLibrarys(t *testing.T) {
	for _, b := range append(bodies(), mixed(65537), mixed(1<<20)) {
		if got, want := Sum(b), crc32.ChecksumIEEE(b); got != want {
			t.Errorf("P2.1: %d bytes: %08x, want %08x", len(b), got, want)
		}
	}
}

func TestSealBytes(t *testing.T) {
	seals := []struct{ body, want string }{
		{"", "\x00\x00\x00\x00\x1c\xdf\x44\x21"},
		{"ab", "\x02\x00\x00\x00\x3a\x5a\x50\x23ab"},
	}
	for _, c := range seals {
		if got := string(Seal([]byte(c.body))); got != c.want {
			t.Errorf("P2.1: Seal(%q): %x, want %x", c.body, got, c.want)
		}
	}
	if got := string(Seal(nil)); got != seals[0].want {
		t.Errorf("P0.4: Seal(nil): %x", got)
	}
}

func TestSealAndOpenUndoEachOther(t *testing.T) {
	for _, body := range bodies() {
		got := Seal(body)
		if want := seal(body); !bytes.Equal(got, want) {
			t.Errorf("P2.1: Seal of %d bytes: %x, want %x", len(body), short(got), short(want))
		}
		back, ok := Open(got)
		if !ok || !bytes.Equal(back, body) {
			t.Errorf("P2.1: Open of a seal of %d bytes: %d bytes, %v", len(body), len(back), ok)
		}
		if again := Seal(back); !bytes.Equal(again, got) {
			t.Errorf("P2.1: Seal of what was opened, %d bytes: %x", len(body), short(again))
		}
	}
}

func TestTooLongIsNotSealed(t *testing.T) {
	for _, n := range []int{api.MaxRecord + 1, api.MaxRecord + 2, 1<<17 + 1, 1 << 24} {
		if got := Seal(make([]byte, n)); len(got) != 0 {
			t.Errorf("P2.1: Seal of %d bytes: %d bytes", n, len(got))
		}
	}
}

// What Seal does not make is no seal, its sum may be right or not.
func TestTooLongIsNotOpened(t *testing.T) {
	for _, n := range []int{api.MaxRecord + 1, 1 << 17, 1<<24 + 2} {
		b := seal(mixed(n))
		checkNoSeal(t, "too many bytes", b)
		checkScan(t, "too many bytes", b, nil, 0)
		ahead := Seal([]byte("ahead"))
		checkScan(t, "too many bytes behind a seal", append(ahead, b...), [][]byte{[]byte("ahead")}, len(ahead))
	}
}

func TestNoSeals(t *testing.T) {
	cases := []struct{ name, bytes string }{
		{"nothing", ""},
		{"a byte", "\x00"},
		{"a length alone", "\x00\x00\x00\x00"},
		{"a head that lacks a byte", "\x00\x00\x00\x00\x1c\xdf\x44"},
		{"zeros", "\x00\x00\x00\x00\x00\x00\x00\x00"},
		{"more zeros", "\x00\x00\x00\x00\x00\x00\x00\x00\x00\x00\x00\x00"},
		{"all ones", "\xff\xff\xff\xff\xff\xff\xff\xff"},
		{"a length of all ones, more behind it", "\xff\xff\xff\xff\xff\xff\xff\xff\xff\xff\xff\xff"},
		{"a length of the sign bit", "\x00\x00\x00\x80\x00\x00\x00\x00\x00"},
		{"a length of -8", "\xf8\xff\xff\xff\x00\x00\x00\x00\x00"},
		{"the length, the highest first", "\x00\x00\x00\x02\x3a\x5a\x50\x23ab"},
		{"the sum, the highest first", "\x02\x00\x00\x00\x23\x50\x5a\x3aab"},
		{"the sum of what was sealed alone", "\x02\x00\x00\x00\x6d\x48\x83\x9eab"},
		{"a text", "what was never sealed"},
	}
	for _, c := range cases {
		checkNoSeal(t, c.name, []byte(c.bytes))
		checkScan(t, c.name, []byte(c.bytes), nil, 0)
	}
	checkNoSeal(t, "nil", nil)
	checkScan(t, "nil", nil, nil, 0)
}

func TestOneBitChanged(t *testing.T) {
	for _, body := range []string{"", "a", "ab", "twenty-three bytes long"} {
		whole := Seal([]byte(body))
		for i := range whole {
			for bit := range 8 {
				b := bytes.Clone(whole)
				b[i] ^= 1 << bit
				checkNoSeal(t, "a seal with a bit changed", b)
				checkScan(t, "a seal with a bit changed", b, nil, 0)
			}
		}
	}
}

func TestOneByteChanged(t *testing.T) {
	whole := Seal([]byte("abc"))
	for i, was := range whole {
		for c := range 256 {
			if b := bytes.Clone(whole); byte(c) != was {
				b[i] = byte(c)
				checkNoSeal(t, "a seal with a byte changed", b)
				checkScan(t, "a seal with a byte changed", b, nil, 0)
			}
		}
	}
}

// A long seal changed at its ends and its middle.
func TestLongSealChanged(t *testing.T) {
	whole := Seal(mixed(api.MaxRecord))
	for _, i := range []int{0, 1, 2, 3, 4, 7, 8, 9, len(whole) / 2, len(whole) - 2, len(whole) - 1} {
		b := bytes.Clone(whole)
		b[i] ^= 0x10
		checkNoSeal(t, "a long seal with a bit changed", b)
		checkScan(t, "a long seal with a bit changed", b, nil, 0)
	}
}

func TestCutShort(t *testing.T) {
	for _, body := range [][]byte{nil, []byte("a"), []byte("abc"), mixed(300)} {
		whole := Seal(body)
		for n := range whole {
			checkNoSeal(t, "a seal cut short", whole[:n])
			checkScan(t, "a seal cut short", whole[:n], nil, 0)
		}
	}
	long := Seal(mixed(api.MaxRecord))
	checkNoSeal(t, "the longest seal without its last byte", long[:len(long)-1])
	checkScan(t, "the longest seal without its last byte", long[:len(long)-1], nil, 0)
}

// The bytes of a seal that lie behind the list's end, in its spare room, are not there.
func TestSpareRoomIsNotRead(t *testing.T) {
	whole := Seal([]byte("abc"))
	for n := range whole {
		part := whole[:n:len(whole)]
		checkNoSeal(t, "a seal half in the spare room", part)
		checkScan(t, "a seal half in the spare room", part, nil, 0)
	}
}

func TestBytesBehindASeal(t *testing.T) {
	body := []byte("abc")
	whole := Seal(body)
	for _, behind := range [][]byte{{0}, {0xff}, make([]byte, 8), whole, Seal(nil)} {
		checkNoSeal(t, "a seal with bytes behind it", append(bytes.Clone(whole), behind...))
	}
	checkNoSeal(t, "two empty seals", append(Seal(nil), Seal(nil)...))
	checkNoSeal(t, "a seal with a byte ahead", append([]byte{0}, whole...))
	checkScan(t, "a seal with a byte ahead", append([]byte{0}, whole...), nil, 0)
	checkScan(t, "a seal with bytes behind it", append(bytes.Clone(whole), 1, 2, 3), [][]byte{body}, len(whole))
}

func TestScanOfWholeSeals(t *testing.T) {
	all := bodies()
	var b []byte
	for i, body := range all {
		checkScan(t, "whole seals", b, all[:i], len(b))
		b = append(b, Seal(body)...)
	}
	checkScan(t, "whole seals", b, all, len(b))
}

func TestScanOfManyEmptySeals(t *testing.T) {
	const many = 10000
	b := bytes.Repeat(Seal(nil), many)
	checkScan(t, "empty seals", b, make([][]byte, many), len(b))
}

// Wherever the bytes end, the seals that are whole by then are told.
func TestScanCutAnywhere(t *testing.T) {
	all := [][]byte{[]byte("ab"), nil, []byte("c"), seal([]byte("inner")), mixed(40)}
	var b []byte
	ends := []int{0}
	for _, body := range all {
		b = append(b, Seal(body)...)
		ends = append(ends, len(b))
	}
	for n := range len(b) + 1 {
		whole := 0
		for whole < len(all) && ends[whole+1] <= n {
			whole++
		}
		checkScan(t, "seals cut short", b[:n], all[:whole], ends[whole])
	}
}

// A seal that is spoilt hides those behind it, whole as they are.
func TestScanStopsAtASpoiltSeal(t *testing.T) {
	all := [][]byte{[]byte("first"), []byte("second"), []byte("third")}
	var b []byte
	ends := []int{0}
	for _, body := range all {
		b = append(b, Seal(body)...)
		ends = append(ends, len(b))
	}
	for spoilt := range all {
		for i := ends[spoilt]; i < ends[spoilt+1]; i++ {
			c := bytes.Clone(b)
			c[i] ^= 0x40
			checkScan(t, "a spoilt seal among others", c, all[:spoilt], ends[spoilt])
		}
	}
}

func TestArgumentsStand(t *testing.T) {
	room := append(Seal([]byte("abc")), "spare room"...)
	before := string(room)
	whole := room[:len(room)-len("spare room")]
	Sum(whole)
	scribble(Seal(whole))
	body, _ := Open(whole)
	scribble(body)
	list, _ := Scan(whole)
	for _, b := range list {
		scribble(b)
	}
	if string(room) != before {
		t.Errorf("P0.3: %x, want %x", room, before)
	}
}

func TestAnswersAreNewMemory(t *testing.T) {
	whole := Seal([]byte("abc"))
	again := Seal([]byte("abc"))
	one, _ := Open(whole)
	other, _ := Open(whole)
	scribble(one)
	scribble(again)
	if string(other) != "abc" {
		t.Errorf("P0.3: Open: %s", other)
	}
	kept := bytes.Clone(whole)
	scribble(other)
	if !bytes.Equal(whole, kept) {
		t.Errorf("P0.3: Seal: %x", whole)
	}
	scribble(whole)
	if fresh := Seal([]byte("abc")); !bytes.Equal(fresh, kept) {
		t.Errorf("P0.3: Seal: %x", fresh)
	}
}

func TestSealKeepsNoArgument(t *testing.T) {
	body := []byte("abc")
	whole := Seal(body)
	scribble(body)
	if back, ok := Open(whole); !ok || string(back) != "abc" {
		t.Errorf("P0.3: %s, %v", back, ok)
	}
	back, _ := Open(whole)
	scribble(whole)
	if string(back) != "abc" {
		t.Errorf("P0.3: %s", back)
	}
}

func TestScanAnswersNewMemory(t *testing.T) {
	b := slices.Concat(Seal([]byte("one")), Seal(nil), Seal([]byte("two")), Seal([]byte("three")))
	want := []string{"one", "", "two", "three"}
	for i := range want {
		list, _ := Scan(b)
		beside, _ := Scan(b)
		scribble(list[i])
		for k := range list {
			if k != i && string(list[k]) != want[k] {
				t.Errorf("P0.3: element %d wrote over element %d: %x", i, k, list[k])
			}
			if string(beside[k]) != want[k] {
				t.Errorf("P0.3: another scan's element %d: %x", k, beside[k])
			}
		}
		clear(list[:cap(list)])
		if string(beside[i]) != want[i] {
			t.Errorf("P0.3: another scan's element %d: %x", i, beside[i])
		}
	}
	list, _ := Scan(b)
	scribble(b)
	for k := range want {
		if string(list[k]) != want[k] {
			t.Errorf("P0.3: element %d lies in the argument: %x", k, list[k])
		}
	}
}

// Whatever is given, Scan tells just the seals whose bytes they are, and Open agrees with it.
func FuzzScan(f *testing.F) {
	f.Add([]byte(nil))
	f.Add(seal(nil))
	f.Add(append(seal([]byte("ab")), seal([]byte("c"))...))
	f.Add(append(seal([]byte("ab")), 1, 0, 0, 0))
	f.Add([]byte("\xff\xff\xff\xff\xff\xff\xff\xff\xff"))
	f.Fuzz(func(t *testing.T, b []byte) {
		list, size := Scan(b)
		var made []byte
		for _, body := range list {
			made = append(made, seal(body)...)
		}
		if size != len(made) || !bytes.HasPrefix(b, made) {
			t.Fatalf("P2.1: %x: %d bytes, want %d", b, size, len(made))
		}
		body, ok := Open(b)
		if alone := len(list) == 1 && size == len(b); ok != alone || ok && !bytes.Equal(body, list[0]) {
			t.Errorf("P2.1: Open(%x): %x, %v", b, body, ok)
		}
		if back, fine := Open(Seal(b)); fine != (len(b) <= api.MaxRecord) || fine && !bytes.Equal(back, b) {
			t.Errorf("P2.1: what was sealed, %x: %x, %v", short(b), short(back), fine)
		}
	})
}

// scribble writes over a list and its spare room.
func scribble(b []byte) {
	b = b[:cap(b)]
	for i := range b {
		b[i] = 0xee
	}
}
