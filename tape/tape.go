// Package tape stands beside the layers: it writes things as bytes, one behind the other, and reads them again.
// The first thing that cannot be written, or read, is kept in mind, so that it is asked for once, at the end.
package tape

import (
	"raddle/api"
	"raddle/wire"
)

// What numbers take as bytes, wherever they stand.
const (
	byteSize  = 1
	seqSize   = 4
	physSize  = 6
	logicSize = 3
)

// Writer has what was written so far.
type Writer struct {
	b   []byte
	bad bool
}

// Add takes what a layer wrote, or its error.
func (w *Writer) Add(b []byte, e api.Errno) {
	if e != api.OK {
		w.bad = true
	}
	if !w.bad {
		w.b = append(w.b, b...)
	}
}

// Number writes n in size bytes.
func (w *Writer) Number(n, size int) {
	// Put gets nothing to write behind: it would copy all that was written, number by number.
	w.Add(wire.Put(nil, n, size))
}

// Byte writes n in one byte.
func (w *Writer) Byte(n int) {
	w.Number(n, byteSize)
}

// Count writes how many of something stand behind it, in size bytes, unless there are more than most.
func (w *Writer) Count(n, size, most int) {
	if n > most {
		w.bad = true
	}
	w.Number(n, size)
}

// Text writes s, its length ahead of it.
func (w *Writer) Text(s string) {
	w.Add(wire.PutText(nil, s))
}

// Dot writes d.
func (w *Writer) Dot(d api.Dot) {
	w.Byte(d.Peer)
	w.Number(d.N, seqSize)
}

// Dots writes l, its count ahead of it, unless there are more than most.
func (w *Writer) Dots(l []api.Dot, most int) {
	w.Count(len(l), byteSize, most)
	for _, d := range l {
		w.Dot(d)
	}
}

// Vector writes v, its count ahead of it.
func (w *Writer) Vector(v []int) {
	w.Count(len(v), byteSize, api.MaxPeers)
	for _, n := range v {
		w.Number(n, seqSize)
	}
}

// Stamp writes s.
func (w *Writer) Stamp(s api.Stamp) {
	w.Number(s.Phys, physSize)
	w.Number(s.Logic, logicSize)
	w.Byte(s.Peer)
}

// AddAll writes l by a layer's call, its count ahead of it in size bytes, unless there are more than most.
func AddAll[T any](w *Writer, l []T, size, most int, write func(x T) ([]byte, api.Errno)) {
	w.Count(len(l), size, most)
	for _, x := range l {
		// Nothing mends what is bad, and the rest may be long.
		if w.bad {
			return
		}
		w.Add(write(x))
	}
}

// Bytes answers all that was written, unless something could not be.
func (w *Writer) Bytes() ([]byte, api.Errno) {
	if w.bad {
		return nil, api.ErrArg
	}
	return w.b, api.OK
}

// Reader has the bytes that are read, and the place where it stands.
type Reader struct {
	b  []byte
	at int
	e  api.Errno
}

// NewReader answers a Reader of b that stands at a place, be it one of b or not.
func NewReader(b []byte, at int) *Reader {
	return &Reader{b: b, at: at}
}

// Take reads what a layer has a call to read by.
func Take[T any](r *Reader, read func(b []byte, at int) (T, int, api.Errno)) T {
	var x T
	if r.e == api.OK {
		x, r.at, r.e = read(r.b, r.at)
	}
	return x
}

// TakeAll reads up to most things by a layer's call that have their count ahead of them, in size bytes.
func TakeAll[T any](r *Reader, size, most int, read func(b []byte, at int) (T, int, api.Errno)) []T {
	var l []T
	// The list grows by what stands there: a count alone must not claim memory.
	for range r.Count(size, most) {
		x := Take(r, read)
		if r.e != api.OK {
			return nil
		}
		l = append(l, x)
	}
	return l
}

// Number reads a number of size bytes.
func (r *Reader) Number(size int) int {
	return Take(r, func(b []byte, at int) (int, int, api.Errno) { return wire.Get(b, at, size) })
}

// Byte reads a number of one byte.
func (r *Reader) Byte() int {
	return r.Number(byteSize)
}

// Count reads how many of something stand behind it; more than most are not to be read.
func (r *Reader) Count(size, most int) int {
	n := r.Number(size)
	if n > most {
		r.e = api.ErrBytes
		return 0
	}
	return n
}

// Text reads a text that has its length ahead of it.
func (r *Reader) Text() string {
	return Take(r, wire.GetText)
}

// Dot reads a dot.
func (r *Reader) Dot() api.Dot {
	var d api.Dot
	d.Peer = r.Byte()
	d.N = r.Number(seqSize)
	return d
}

// Dots reads up to most dots that have their count ahead of them.
func (r *Reader) Dots(most int) []api.Dot {
	l := make([]api.Dot, r.Count(byteSize, most))
	for i := range l {
		l[i] = r.Dot()
	}
	return l
}

// Vector reads a vector that has its count ahead of it.
func (r *Reader) Vector() []int {
	v := make([]int, r.Count(byteSize, api.MaxPeers))
	for i := range v {
		v[i] = r.Number(seqSize)
	}
	return v
}

// Stamp reads a time.
func (r *Reader) Stamp() api.Stamp {
	var s api.Stamp
	s.Phys = r.Number(physSize)
	s.Logic = r.Number(logicSize)
	s.Peer = r.Byte()
	return s
}

// End answers the place behind all that was read, or the error of the first thing that could not be.
func (r *Reader) End() (next int, e api.Errno) {
	if r.e != api.OK {
		return 0, r.e
	}
	return r.at, api.OK
}
