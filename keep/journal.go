package keep

import (
	"delphi/api"
	"delphi/bin"
)

// A call's text stands in one record of the log or, in pieces, in several: a call is done if its last piece is there. So
// a crash, which leaves a front of the records, leaves each call whole or, as far as Open is concerned, not at all.

// A record begins with a flag: its piece is the call's last one. It may have 32,768 bytes.
const maxPiece = 32768 - 1

// recordExtra is how many bytes a record takes at most beside its own.
const recordExtra = 40

// lastNumber is the greatest one that a record may have when a log is opened: no Keep counts so far, and none that goes on
// from there comes to where numbers end.
const lastNumber = 1 << 62

// mostBytes is how long the log may be while this is kept. Writing all anew takes the room of what is to be kept twice
// more, since the log copies it: with the log that is there that is within the four times that the chapter grants.
func mostBytes(s state) int {
	return 500 + 2*s.weight()
}

// write brings a call to the log, which does not last yet. Where the log would become too long, all that is to be kept
// takes the place of what is there.
func (k *Keep) write(r api.Ready, next state) api.Errno {
	text := encode(false, r)
	size := k.size + sizeOf(text)
	anew := k.size > 0 && size > mostBytes(next)
	if anew {
		text = encode(true, next.whole())
		size = sizeOf(text)
	}
	last := k.log.Last()
	err := k.appendPieces(text)
	if err == api.OK && anew {
		err = k.log.Until(last)
	}
	if err != api.OK {
		k.undo(last)
		return err
	}
	k.size = size
	return api.OK
}

// undo takes off what stands behind the record last. That has to last at once: a crash must not bring back a call that
// was told to have failed.
func (k *Keep) undo(last int64) {
	k.log.From(last + 1)
	k.log.Sync()
}

// appendPieces puts a text's pieces behind the log's records.
func (k *Keep) appendPieces(text []byte) api.Errno {
	for len(text) > 0 {
		size := min(len(text), maxPiece)
		record := append(flag(size == len(text)), text[:size]...)
		if err := k.log.Append(k.log.Last()+1, record); err != api.OK {
			return err
		}
		text = text[size:]
	}
	return api.OK
}

func flag(b bool) []byte {
	var w bin.Writer
	w.Flag(b)
	return w.Bytes()
}

// sizeOf is how many bytes a text's records take at most.
func sizeOf(text []byte) int {
	pieces := (len(text) + maxPiece - 1) / maxPiece
	return len(text) + pieces*(1+recordExtra)
}

// load does the log's calls once more, as far as they are whole. What stands behind them is cut off: of a call that
// comes behind it nothing could be read.
func (k *Keep) load() {
	if k.log.Last() > lastNumber {
		k.log.From(1)
	}
	var text []byte
	done := max(k.log.First(), 1) - 1
	for n := done + 1; n <= k.log.Last(); n++ {
		piece, ends, ok := k.piece(n)
		if !ok {
			break
		}
		text = append(text, piece...)
		if !ends {
			continue
		}
		if !k.redo(text, done) {
			break
		}
		done, text = n, nil
	}
	k.log.From(done + 1)
}

// piece gives what the record holds of a call, and whether the call ends there; false: it is no call's.
func (k *Keep) piece(n int64) ([]byte, bool, bool) {
	record, _ := k.log.Get(n)
	in := bin.Read(record)
	ends := in.Flag()
	if !in.OK() {
		return nil, false, false
	}
	return record[1:], ends, true
}

// redo does a call that stands behind the record last; false: it is none.
func (k *Keep) redo(text []byte, last int64) bool {
	anew, r, ok := decode(text)
	was := k.now
	if anew {
		was = state{}
	}
	next, fits := was.after(r)
	if !ok || !fits {
		return false
	}
	k.now = next
	k.size += sizeOf(text)
	// A crash may have left what was to be taken away. If there is no room to do it now, it stays for the next call.
	if anew && last > 0 && k.log.Until(last) == api.OK {
		k.size = sizeOf(text)
	}
	return true
}
