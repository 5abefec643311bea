package command

import (
	"delphi/api"
	"delphi/bin"
)

// reader reads one text. A text that bin reads may still be none that is written: that is kept in wrong.
type reader struct {
	*bin.Reader
	wrong bool
}

func read(b []byte) *reader {
	return &reader{Reader: bin.Read(b)}
}

// must says that the text is none that is written, unless this holds.
func (in *reader) must(holds bool) {
	in.wrong = in.wrong || !holds
}

// goesOn says whether the text, as far as it was read, may be one that is written.
func (in *reader) goesOn() bool {
	return in.OK() && !in.wrong
}

// data reads a text; an empty one is told as none, as it was written.
func (in *reader) data() []byte {
	b := in.Text()
	if len(b) == 0 {
		return nil
	}
	return b
}

// taken gives what was read, if all of the text is one that is written.
func taken[T any](in *reader, what T) (T, api.Errno) {
	if !in.goesOn() || in.Left() > 0 {
		var none T
		return none, api.ErrForm
	}
	return what, api.OK
}

func writeList[T any](w *bin.Writer, list []T, write func(*bin.Writer, T)) {
	w.Num(int64(len(list)))
	for _, x := range list {
		write(w, x)
	}
}

// readList reads a list of at most so many.
func readList[T any](in *reader, most int64, one func(*reader) T) []T {
	count := in.Num()
	in.must(0 <= count && count <= most)
	var list []T
	// A count that nothing stands behind must not be gone through to its end.
	for ; count > 0 && in.goesOn(); count-- {
		list = append(list, one(in))
	}
	return list
}
