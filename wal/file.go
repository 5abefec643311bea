package wal

import (
	"strings"

	"delphi/api"
	"delphi/bin"
	"delphi/disk"
	"delphi/frame"
)

// Files of these names are the log's alone. One holds the records; the other is there only while Until copies.
const (
	namesBegin = "w"
	logFile    = "w"
	copyFile   = "w.copy"
)

// headSize is how many bytes a seal has ahead of what it holds.
const headSize = 8

// seal gives a record as it stands in the file: its number goes with it, so that a file tells where its log begins.
func seal(n int64, data []byte) []byte {
	var w bin.Writer
	w.Num(n)
	w.Text(data)
	return frame.Seal(w.Bytes())
}

// unseal reads what a record's seal holds; false: it is no record's.
func unseal(body []byte) (int64, []byte, bool) {
	r := bin.Read(body)
	n, data := r.Num(), r.Text()
	if !r.OK() || r.Left() > 0 || len(data) > maxData {
		return 0, nil, false
	}
	return n, data, true
}

// removeStrays takes away what a crash left of a copy, and whatever else takes room under the log's names.
func removeStrays(d *disk.Disk) {
	for _, name := range d.Names() {
		if strings.HasPrefix(name, namesBegin) && name != logFile {
			d.Remove(name)
		}
	}
}

// load takes the records from the file as far as they are whole and in order. What stands behind them is cut off, for
// records that come behind it would never be read.
func (l *Log) load() {
	file, _ := l.disk.Read(logFile)
	bodies, _ := frame.Scan(file)
	for _, body := range bodies {
		n, data, ok := unseal(body)
		if !ok || !l.mayFollow(n) {
			break
		}
		l.add(n, data, headSize+len(body))
	}
	if end := l.endOf(len(l.records)); end < len(file) {
		l.disk.Cut(logFile, end)
	}
}

// cutFront takes so many records off the file's front. The others are copied whole ahead of the one change that puts
// the copy in the file's place, so that a crash leaves the one or the other.
func (l *Log) cutFront(gone int) api.Errno {
	if gone == len(l.records) {
		return l.disk.Cut(logFile, 0)
	}
	if err := l.disk.Append(copyFile, l.sealsFrom(gone)); err != api.OK {
		return err
	}
	return l.disk.Move(copyFile, logFile)
}

// sealsFrom gives the seals of the records at this place and behind it.
func (l *Log) sealsFrom(place int) []byte {
	var all []byte
	for i := place; i < len(l.records); i++ {
		all = append(all, seal(l.first+int64(i), l.records[i].data)...)
	}
	return all
}
