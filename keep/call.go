package keep

import (
	"delphi/api"
	"delphi/bin"
)

// A call's text says all that the call brings. If it begins anew, nothing of what was there ahead of it stays: so the
// whole of what is kept can be written as one call.

// encode gives the text of a call.
func encode(anew bool, r api.Ready) []byte {
	var w bin.Writer
	w.Flag(anew)
	w.Flag(r.Saved)
	if r.Saved {
		w.Num(r.Hard.Term)
		w.Num(int64(r.Hard.Vote))
	}
	w.Flag(r.Snap != nil)
	if r.Snap != nil {
		writeSnap(&w, *r.Snap)
	}
	if r.First > 0 {
		w.Num(r.First)
		writeEntries(&w, r.Entries)
	}
	return w.Bytes()
}

// decode gives the call of a text; false: it is no call's.
func decode(text []byte) (anew bool, r api.Ready, ok bool) {
	in := bin.Read(text)
	anew, r.Saved = in.Flag(), in.Flag()
	if r.Saved {
		r.Hard = api.Hard{Term: in.Num(), Vote: int(in.Num())}
	}
	if in.Flag() {
		r.Snap = readSnap(in)
	}
	if in.Left() > 0 {
		r.First = in.Num()
		r.Entries = readEntries(in)
	}
	return anew, r, in.OK()
}

func writeSnap(w *bin.Writer, s api.Snap) {
	w.Num(s.Index)
	w.Num(s.Term)
	w.Num(int64(len(s.Conf)))
	for _, id := range s.Conf {
		w.Num(int64(id))
	}
	w.Text(s.Data)
}

func readSnap(in *bin.Reader) *api.Snap {
	s := &api.Snap{Index: in.Num(), Term: in.Num()}
	// A count that nothing stands behind must not be gone through to its end.
	for count := in.Num(); count > 0 && in.OK(); count-- {
		s.Conf = append(s.Conf, int(in.Num()))
	}
	s.Data = in.Text()
	return s
}

func writeEntries(w *bin.Writer, entries []api.Entry) {
	for _, e := range entries {
		w.Num(e.Index)
		w.Num(e.Term)
		w.Num(int64(e.Kind))
		w.Text(e.Data)
	}
}

// readEntries reads to the text's end: entries come last.
func readEntries(in *bin.Reader) []api.Entry {
	var entries []api.Entry
	for in.Left() > 0 {
		e := api.Entry{Index: in.Num(), Term: in.Num(), Kind: int(in.Num())}
		e.Data = in.Text()
		entries = append(entries, e)
	}
	return entries
}
