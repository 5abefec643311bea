package command

import (
	"bytes"
	"encoding/binary"
	"math"
	"strings"
	"testing"

	"delphi/api"
)

// nums and text write bin's bytes by the library: its zigzag numbers are another maker's bytes of the same form.
func nums(ns ...int64) string {
	var b []byte
	for _, n := range ns {
		b = binary.AppendVarint(b, n)
	}
	return string(b)
}

func text(s string) string {
	return nums(int64(len(s))) + s
}

func plainCommand(c api.Command) string {
	return nums(int64(c.Kind), int64(c.Client), c.Seq) + text(c.Text)
}

// encodes checks a command that may be, both ways.
func encodes(t *testing.T, c api.Command) {
	t.Helper()
	want := plainCommand(c)
	if b, err := Encode(c); err != api.OK || string(b) != want {
		t.Errorf("P17.1: Encode(%#.80v): %.80x, %v, want %.80x", c, b, err, want)
	}
	if x, err := Decode([]byte(want)); err != api.OK || x != c {
		t.Errorf("P17.1: Decode(%.80x): %#.80v, %v, want %#.80v", want, x, err, c)
	}
}

// mayNot checks a command that may not be, both ways: its bytes are no command's.
func mayNot(t *testing.T, c api.Command) {
	t.Helper()
	if b, err := Encode(c); err != api.ErrForm || len(b) != 0 {
		t.Errorf("P17.1: Encode(%#.80v): %.80x, %v, want ErrForm", c, b, err)
	}
	noCommand(t, plainCommand(c))
}

func noCommand(t *testing.T, b string) {
	t.Helper()
	if x, err := Decode([]byte(b)); err != api.ErrForm || x != (api.Command{}) {
		t.Errorf("P17.1: Decode(%.80x): %#.80v, %v, want ErrForm", b, x, err)
	}
}

func TestBytesOfCommands(t *testing.T) {
	for _, c := range []struct {
		of   api.Command
		want string
	}{
		{api.Command{Kind: api.CInstall, Client: 1, Seq: 1}, "\x02\x02\x02\x00"},
		{api.Command{Kind: api.CInsert, Client: 2, Seq: 63, Text: "p(a)"}, "\x04\x04\x7e\x08p(a)"},
		{api.Command{Kind: api.CRetract, Client: 8, Seq: 64, Text: "p"}, "\x06\x10\x80\x01\x02p"},
		{api.Command{Kind: api.CQuery, Client: 7, Seq: 1 << 40, Text: "\xff\x00"}, "\x08\x0e\x80\x80\x80\x80\x80\x40\x04\xff\x00"},
	} {
		if b, err := Encode(c.of); err != api.OK || string(b) != c.want {
			t.Errorf("P17.1: Encode(%v): %x, %v, want %x", c.of, b, err, c.want)
		}
		if x, err := Decode([]byte(c.want)); err != api.OK || x != c.of {
			t.Errorf("P17.1: Decode(%x): %v, %v, want %v", c.want, x, err, c.of)
		}
	}
}

// Every kind, every client, the ends of Seq and of Text, each with each.
func TestCommandsThatMayBe(t *testing.T) {
	for kind := 1; kind <= 4; kind++ {
		for client := 1; client <= 8; client++ {
			for _, seq := range []int64{1, 2, 63, 64, 1<<31 - 1, 1 << 31, 1<<32 + 1, 1<<40 - 1, 1 << 40} {
				for _, text := range []string{"", "p", "p(X)", strings.Repeat("a", 63), strings.Repeat("b", 64), strings.Repeat("c", 3999), strings.Repeat("d", 4000)} {
					encodes(t, api.Command{Kind: kind, Client: client, Seq: seq, Text: text})
				}
			}
		}
	}
}

// turned gives a command that may be, but for what turn does to it.
func turned(turn func(c *api.Command)) api.Command {
	c := api.Command{Kind: api.CInsert, Client: 3, Seq: 64, Text: "p(a)"}
	turn(&c)
	return c
}

// Numbers that would be within, if only their low bits were looked at, are not.
func TestCommandsThatMayNotBe(t *testing.T) {
	wide := []int64{math.MinInt64, math.MinInt64 + 1, -1 << 40, -1<<32 + 1, -1 << 31, -256, -8, -3, -1, 0, 101, 256 + 1, 1<<16 + 1, 1<<31 - 1, 1 << 31, 1<<32 + 1, 1<<32 + 3, 1 << 62, math.MaxInt64}
	for _, n := range append(wide, 5, 6, 9, 10) {
		mayNot(t, turned(func(c *api.Command) { c.Kind = int(n) }))
	}
	for _, n := range append(wide, 9, 10) {
		mayNot(t, turned(func(c *api.Command) { c.Client = int(n) }))
	}
	for _, n := range []int64{math.MinInt64, -1 << 40, -64, -1, 0, 1<<40 + 1, 1 << 41, 1 << 62, math.MaxInt64} {
		mayNot(t, turned(func(c *api.Command) { c.Seq = n }))
	}
	for _, n := range []int{4001, 4002, 8192, 65536 + 4, 1 << 20} {
		mayNot(t, turned(func(c *api.Command) { c.Text = strings.Repeat("a", n) }))
	}
	mayNot(t, api.Command{})
	mayNot(t, api.Command{Kind: 5, Client: 9, Seq: -1, Text: strings.Repeat("a", 4001)})
}

// The text counts by its bytes, and may be any bytes.
func TestTextsOfCommands(t *testing.T) {
	for b := range 256 {
		encodes(t, turned(func(c *api.Command) { c.Text = "a" + string([]byte{byte(b)}) + "z" }))
	}
	encodes(t, turned(func(c *api.Command) { c.Text = strings.Repeat("\u20ac", 1333) + "a" }))
	mayNot(t, turned(func(c *api.Command) { c.Text = strings.Repeat("\u20ac", 1333) + "ab" }))
	encodes(t, turned(func(c *api.Command) { c.Text = strings.Repeat("\x00", 4000) }))
	mayNot(t, turned(func(c *api.Command) { c.Text = strings.Repeat("\xff", 4001) }))
}

// What lacks something, or has something behind, is no command.
func TestCommandsCutAndFollowed(t *testing.T) {
	for _, c := range []api.Command{
		{Kind: 1, Client: 1, Seq: 1},
		{Kind: 4, Client: 8, Seq: 1 << 40, Text: "p(a, X)."},
		{Kind: 2, Client: 5, Seq: 1000, Text: strings.Repeat("q", 100)},
	} {
		b := plainCommand(c)
		for n := range len(b) {
			noCommand(t, b[:n])
		}
		for n := range 256 {
			noCommand(t, b+string([]byte{byte(n)}))
		}
		noCommand(t, b+b)
		for n := 1; n < len(b); n++ {
			noCommand(t, b+b[:n])
		}
	}
	if x, err := Decode(nil); err != api.ErrForm || x != (api.Command{}) {
		t.Errorf("P17.1: Decode(nil): %v, %v", x, err)
	}
}

// Numbers of more bytes than they need, or beyond int64, and lengths that do not go.
func TestNoCommands(t *testing.T) {
	for _, b := range []string{
		"\x82\x00\x02\x02\x00", "\x02\x82\x00\x02\x00", "\x02\x02\x82\x00\x00", "\x02\x02\x02\x80\x00",
		"\x02\x02\x82\x80\x80\x80\x80\x80\x80\x80\x80\x02\x00",
		"\x02\x02\x02\x01", "\x02\x02\x02\x03", "\x02\x02\x02\x02", "\x02\x02\x02\x04a", "\x02\x02\x02\x01a",
		"\x02\x02\x02" + nums(math.MaxInt64) + "a", "\x02\x02\x02" + nums(math.MinInt64) + "a",
		strings.Repeat("\x80", 100), strings.Repeat("\xff", 1000), "\x03\x02\x02\x00", "\x02\x03\x02\x00", "\x02\x02\x03\x00",
	} {
		noCommand(t, b)
	}
}

// ofBytes is the plain way back from a command's bytes.
func ofBytes(b []byte) (api.Command, bool) {
	var at [4]int64
	rest := b
	for i := range at {
		n, size := binary.Varint(rest)
		if size <= 0 {
			return api.Command{}, false
		}
		at[i], rest = n, rest[size:]
	}
	c := api.Command{Kind: int(at[0]), Client: int(at[1]), Seq: at[2], Text: string(rest)}
	may := c.Kind >= 1 && c.Kind <= 4 && c.Client >= 1 && c.Client <= 8 && c.Seq >= 1 && c.Seq <= 1<<40 && len(c.Text) <= 4000
	if !may || plainCommand(c) != string(b) {
		return api.Command{}, false
	}
	return c, true
}

// Each change of bytes gives just such a command or none, as the plain way back says.
func TestCommandsNearby(t *testing.T) {
	taken, refused := 0, 0
	for _, c := range []api.Command{
		{Kind: 1, Client: 1, Seq: 1},
		{Kind: 3, Client: 8, Seq: 1 << 40, Text: "p(a)"},
		{Kind: 4, Client: 4, Seq: 12345, Text: strings.Repeat("r", 70)},
	} {
		for b := range nearby([]byte(plainCommand(c))) {
			want, ok := ofBytes(b)
			x, err := Decode(b)
			if (err == api.OK) != ok || err != api.OK && err != api.ErrForm || x != want {
				t.Fatalf("P17.1: Decode(%x): %v, %v, want %v, %v", b, x, err, want, ok)
			}
			if !ok {
				refused++
				continue
			}
			taken++
			if again, err := Encode(x); err != api.OK || !bytes.Equal(again, b) {
				t.Fatalf("P17.1: Encode(%v): %x, %v, want %x", x, again, err, b)
			}
		}
	}
	if taken < 1000 || refused < 1000 {
		t.Errorf("P17.1: %d texts were taken, %d refused", taken, refused)
	}
}
