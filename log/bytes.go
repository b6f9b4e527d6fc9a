package log

import (
	"bytes"
	"strconv"
)

// writer of numbers, each with a blank behind it, and of texts, each behind its length. What it is shown is read alone.
type writer struct{ bytes []byte }

func (w *writer) number(n *int) {
	w.bytes = append(strconv.AppendInt(w.bytes, int64(*n), 10), ' ')
}

func (w *writer) truth(is *bool) {
	n := 0
	if *is {
		n = 1
	}
	w.number(&n)
}

func (w *writer) text(s *string) {
	length := len(*s)
	w.number(&length)
	w.bytes = append(w.bytes, *s...)
}

// reader of what a writer wrote, all of which is there.
type reader struct{ rest []byte }

func (r *reader) number(n *int) {
	digits, rest, _ := bytes.Cut(r.rest, []byte(" "))
	*n, _ = strconv.Atoi(string(digits))
	r.rest = rest
}

func (r *reader) truth(is *bool) {
	var n int
	r.number(&n)
	*is = n == 1
}

func (r *reader) text(s *string) {
	var length int
	r.number(&length)
	*s = string(r.rest[:length])
	r.rest = r.rest[length:]
}

// written is the record of an entry: its parts as one text, by the length of which is told whether all of it is there.
func written(e entry) []byte {
	var body, record writer
	e.parts(&body)
	text := string(body.bytes)
	record.text(&text)
	return record.bytes
}

// read has the entry of the first record, and how long that is, if all of it is there.
func read(b []byte) (e entry, length int, whole bool) {
	digits, rest, _ := bytes.Cut(b, []byte(" "))
	size, err := strconv.Atoi(string(digits))
	if err != nil || size > len(rest) {
		return entry{}, 0, false
	}
	e.parts(&reader{rest[:size]})
	return e, len(b) - len(rest) + size, true
}
