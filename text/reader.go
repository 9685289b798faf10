// Package text stands beside the layers: it reads what is wrong as a whole if any part of it is.
package text

import (
	"retorter/api"
	"retorter/delta"
	"retorter/scan"
)

// Reader goes through bytes. Once it has failed it reads nothing any more, so that it is enough to ask at the end.
type Reader struct {
	bytes  []byte
	at     int
	failed bool
}

// Of tells the Reader that has read nothing of b.
func Of(b []byte) *Reader {
	return &Reader{bytes: b}
}

// Line reads a line: an empty one if there is none.
func (r *Reader) Line() string {
	return next(r, scan.Line)
}

// Delta reads a number that is written in few bytes: 0 if there is none.
func (r *Reader) Delta() int {
	return next(r, delta.Get)
}

// Need lets the reader fail where what it has read is not right.
func (r *Reader) Need(right bool) {
	r.failed = r.failed || !right
}

// Failed tells whether something was missing, or not right.
func (r *Reader) Failed() bool {
	return r.failed
}

// Ended tells whether there is nothing more to be read.
func (r *Reader) Ended() bool {
	return r.failed || r.at == len(r.bytes)
}

// next reads what get tells: the zero value if there is none.
func next[T any](r *Reader, get func(b []byte, at int) (T, int, api.Errno)) T {
	var none T
	if r.failed {
		return none
	}
	found, end, e := get(r.bytes, r.at)
	if e != api.OK {
		r.failed = true
		return none
	}
	r.at = end
	return found
}
