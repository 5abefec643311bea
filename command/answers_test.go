package command

import (
	"bytes"
	"slices"
	"testing"

	"delphi/api"
)

// roomy gives a message whose lists have spare room, and what shows all of that room.
func roomy() (api.Msg, func() string) {
	entries := []api.Entry{{Index: 1, Term: 2, Kind: 3, Data: []byte("one")}, {Index: 2, Term: 2, Kind: 2}, {Index: 77, Term: 78}}
	conf, data := []int{1, 2, 3, 99, 98}, []byte("data, and spare room")
	m := api.Msg{Kind: 5, Entries: entries[:2], Conf: conf[:3], Data: data[:4], Ctx: 9}
	return m, func() string { return told(entries) + told(conf) + string(data) }
}

// What is handed in, its spare room too, stays as it was.
func TestNothingHandedInIsChanged(t *testing.T) {
	m, all := roomy()
	before := all()
	Msg(m)
	Snap(api.Snap{Conf: m.Conf, Data: m.Data})
	if got := all(); got != before {
		t.Errorf("P0.3: writing made %s of %s", got, before)
	}
	rows := []string{"p(b)", "p(a)", "spare"}
	kept := slices.Clone(rows)
	Reply(api.Reply{Rows: rows[:2]})
	if !slices.Equal(rows, kept) {
		t.Errorf("P0.3: writing made %v of %v", rows, kept)
	}
	for _, text := range texts(t) {
		room := append(bytes.Clone(text), "spare room"...)
		kept := bytes.Clone(room)
		for n := range len(text) + 1 {
			Decode(room[:n])
			ReadReply(room[:n])
			ReadMsg(room[:n])
			ReadSnap(room[:n])
		}
		if !bytes.Equal(room, kept) {
			t.Errorf("P0.3: reading made %x of %x", room, kept)
		}
	}
}

// texts are bytes of one of each.
func texts(t *testing.T) [][]byte {
	t.Helper()
	c, err := Encode(api.Command{Kind: api.CQuery, Client: 8, Seq: 5, Text: "p(a, X)"})
	if err != api.OK {
		t.Fatal(err)
	}
	m, _ := roomy()
	return [][]byte{c, Reply(api.Reply{Changed: true, Rows: []string{"p(b)", "p(a)"}}), Msg(m), Snap(api.Snap{Index: 3, Conf: m.Conf, Data: m.Data})}
}

// Written bytes are new: whoever writes into them, or into their spare room, changes no others.
func TestWrittenBytesAreNew(t *testing.T) {
	first, second := texts(t), texts(t)
	for n, text := range first {
		kept := bytes.Clone(second[n])
		if !bytes.Equal(text, kept) {
			t.Errorf("P0.5: %x, and once more %x", text, kept)
		}
		clear(text[:cap(text)])
		if !bytes.Equal(second[n], kept) || !bytes.Equal(texts(t)[n], kept) {
			t.Errorf("P0.3: writing into one answer made another %x; it was %x", second[n], kept)
		}
	}
	m, all := roomy()
	before := all()
	for _, b := range [][]byte{Msg(m), Snap(api.Snap{Conf: m.Conf, Data: m.Data})} {
		clear(b[:cap(b)])
	}
	if got := all(); got != before {
		t.Errorf("P0.3: writing into an answer made %s of %s", got, before)
	}
}

// What is read is new: it shares nothing with the bytes, with another answer, or with another list of its own.
func TestWhatIsReadIsNew(t *testing.T) {
	m, _ := roomy()
	m.Entries = append(slices.Clone(m.Entries), api.Entry{Data: []byte("three")})
	text, want := Msg(m), told(m)
	first, _ := ReadMsg(text)
	second, _ := ReadMsg(text)
	clear(text[:cap(text)])
	if told(first) != want {
		t.Errorf("P0.3: writing into the bytes made %s of %s", told(first), want)
	}
	clear(first.Data[:cap(first.Data)])
	clear(first.Conf[:cap(first.Conf)])
	one := first.Entries[0].Data
	clear(one[:cap(one)])
	if got := string(first.Entries[2].Data); got != "three" {
		t.Errorf("P0.3: writing into lists of one answer made another of its lists %q", got)
	}
	clear(first.Entries[:cap(first.Entries)])
	if told(second) != want {
		t.Errorf("P0.3: writing into one answer made another %s; it was %s", told(second), want)
	}
}

func TestSnapsThatAreReadAreNew(t *testing.T) {
	s := api.Snap{Index: 1, Term: 2, Conf: []int{1, 2, 3}, Data: []byte("state")}
	text, want := Snap(s), told(s)
	first, _ := ReadSnap(text)
	second, _ := ReadSnap(text)
	clear(text[:cap(text)])
	if told(first) != want {
		t.Errorf("P0.3: writing into the bytes made %s of %s", told(first), want)
	}
	clear(first.Conf[:cap(first.Conf)])
	if string(first.Data) != "state" {
		t.Errorf("P0.3: writing into Conf made Data %q", first.Data)
	}
	clear(first.Data[:cap(first.Data)])
	if told(second) != want {
		t.Errorf("P0.3: writing into one answer made another %s; it was %s", told(second), want)
	}
}

func TestRepliesAndCommandsThatAreReadAreNew(t *testing.T) {
	all := texts(t)
	c, _ := Decode(all[0])
	first, _ := ReadReply(all[1])
	second, _ := ReadReply(all[1])
	for _, text := range all {
		clear(text[:cap(text)])
	}
	if c.Text != "p(a, X)" || first.Rows[0] != "p(b)" || first.Rows[1] != "p(a)" {
		t.Errorf("P0.3: writing into the bytes made %q and %q", c.Text, first.Rows)
	}
	clear(first.Rows[:cap(first.Rows)])
	if second.Rows[0] != "p(b)" || second.Rows[1] != "p(a)" {
		t.Errorf("P0.3: writing into one answer made another %q", second.Rows)
	}
}

// Bytes of one kind say nothing of another: reading in between changes no answer.
func TestCallsAreApart(t *testing.T) {
	for _, b := range texts(t) {
		for _, other := range texts(t) {
			m, mErr := ReadMsg(b)
			r, rErr := ReadReply(b)
			Decode(other)
			ReadReply(other)
			ReadMsg(other[:len(other)-1])
			ReadSnap(other)
			m2, mErr2 := ReadMsg(b)
			r2, rErr2 := ReadReply(b)
			if told(m) != told(m2) || mErr != mErr2 || !sameReply(r, r2) || rErr != rErr2 {
				t.Errorf("P0.5: %x is read as %v, %v and as %v, %v", b, m, r, m2, r2)
			}
		}
	}
}
