package command

import (
	"math"

	"delphi/api"
	"delphi/bin"
)

// noBound is for the lists that may be of any length.
const noBound = math.MaxInt64

// Msg: see the chapter.
func Msg(m api.Msg) []byte {
	var w bin.Writer
	w.Num(int64(m.Kind))
	w.Num(int64(m.From))
	w.Num(int64(m.To))
	w.Num(m.Term)
	w.Num(m.Index)
	w.Num(m.LogTerm)
	w.Num(m.Commit)
	writeList(&w, m.Entries, writeEntry)
	w.Flag(m.Ok)
	w.Num(m.Hint)
	writeList(&w, m.Conf, writeId)
	w.Text(m.Data)
	w.Num(int64(m.Offset))
	w.Num(int64(m.Size))
	w.Num(m.Ctx)
	return w.Bytes()
}

// ReadMsg: see the chapter. The fields are read in the order in which they stand in the literal.
func ReadMsg(b []byte) (api.Msg, api.Errno) {
	in := read(b)
	m := api.Msg{
		Kind:    int(in.Num()),
		From:    int(in.Num()),
		To:      int(in.Num()),
		Term:    in.Num(),
		Index:   in.Num(),
		LogTerm: in.Num(),
		Commit:  in.Num(),
		Entries: readList(in, noBound, readEntry),
		Ok:      in.Flag(),
		Hint:    in.Num(),
		Conf:    readList(in, noBound, readId),
		Data:    in.data(),
		Offset:  int(in.Num()),
		Size:    int(in.Num()),
		Ctx:     in.Num(),
	}
	return taken(in, m)
}

// Snap: see the chapter.
func Snap(s api.Snap) []byte {
	var w bin.Writer
	w.Num(s.Index)
	w.Num(s.Term)
	writeList(&w, s.Conf, writeId)
	w.Text(s.Data)
	return w.Bytes()
}

// ReadSnap: see the chapter.
func ReadSnap(b []byte) (api.Snap, api.Errno) {
	in := read(b)
	s := api.Snap{Index: in.Num(), Term: in.Num(), Conf: readList(in, noBound, readId), Data: in.data()}
	return taken(in, s)
}

func writeEntry(w *bin.Writer, e api.Entry) {
	w.Num(e.Index)
	w.Num(e.Term)
	w.Num(int64(e.Kind))
	w.Text(e.Data)
}

func readEntry(in *reader) api.Entry {
	return api.Entry{Index: in.Num(), Term: in.Num(), Kind: int(in.Num()), Data: in.data()}
}

func writeId(w *bin.Writer, id int) {
	w.Num(int64(id))
}

func readId(in *reader) int {
	return int(in.Num())
}
