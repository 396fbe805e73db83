package oplog

import (
	"raddle/api"
	"raddle/op"
	"raddle/tape"
	"raddle/value"
	"raddle/wire"
)

// What counts take as bytes, and the greatest that can be written so.
const (
	byteSize = 1
	pairSize = 2
	maxByte  = 1<<(8*byteSize) - 1
	maxPair  = 1<<(8*pairSize) - 1
)

const (
	// maxSnap leaves room for the record's kind in a slot.
	maxSnap = api.MaxBytes - kindSize

	// noVal is a kind of no value: it stands for a value that was never written.
	noVal = 0
)

// SnapBytes answers s as bytes, as long as it can be written.
func SnapBytes(s api.Snap) ([]byte, api.Errno) {
	var w tape.Writer
	w.Vector(s.Have)
	w.Stamp(s.Clock)
	tape.AddAll(&w, s.Tables, byteSize, maxByte, tableBytes)
	tape.AddAll(&w, s.Safe, byteSize, api.MaxPeers, vectorBytes)
	tape.AddAll(&w, s.Ops, pairSize, maxPair, op.Bytes)
	b, e := w.Bytes()
	if e != api.OK {
		return nil, e
	}
	if len(b) > maxSnap {
		return nil, api.ErrLen
	}
	return b, api.OK
}

// ReadSnap answers the Snap that SnapBytes wrote.
func ReadSnap(b []byte) (api.Snap, api.Errno) {
	// SnapBytes never answers more than that, though the rest be right.
	if len(b) > maxSnap {
		return api.Snap{}, api.ErrBytes
	}
	r := tape.NewReader(b, 0)
	var s api.Snap
	s.Have = r.Vector()
	s.Clock = r.Stamp()
	s.Tables = tape.TakeAll(r, byteSize, maxByte, readTable)
	s.Safe = tape.TakeAll(r, byteSize, api.MaxPeers, readVector)
	s.Ops = tape.TakeAll(r, pairSize, maxPair, op.Read)
	next, e := r.End()
	if e != api.OK || next != len(b) {
		return api.Snap{}, api.ErrBytes
	}
	return s, api.OK
}

func tableBytes(rows []api.Row) ([]byte, api.Errno) {
	var w tape.Writer
	tape.AddAll(&w, rows, pairSize, maxPair, rowBytes)
	return w.Bytes()
}

func readTable(b []byte, at int) (rows []api.Row, next int, e api.Errno) {
	r := tape.NewReader(b, at)
	rows = tape.TakeAll(r, pairSize, maxPair, readRow)
	next, e = r.End()
	return rows, next, e
}

func rowBytes(x api.Row) ([]byte, api.Errno) {
	var w tape.Writer
	w.Text(x.Key)
	w.Dots(x.Dots, maxByte)
	tape.AddAll(&w, x.Cells, byteSize, maxByte, cellBytes)
	return w.Bytes()
}

func readRow(b []byte, at int) (x api.Row, next int, e api.Errno) {
	r := tape.NewReader(b, at)
	x.Key = r.Text()
	x.Dots = r.Dots(maxByte)
	x.Cells = tape.TakeAll(r, byteSize, maxByte, readCell)
	next, e = r.End()
	return x, next, e
}

func cellBytes(c api.Cell) ([]byte, api.Errno) {
	var w tape.Writer
	w.Add(valBytes(c.Val))
	w.Stamp(c.Stamp)
	w.Dot(c.Dot)
	return w.Bytes()
}

func readCell(b []byte, at int) (c api.Cell, next int, e api.Errno) {
	r := tape.NewReader(b, at)
	c.Val = tape.Take(r, readVal)
	c.Stamp = r.Stamp()
	c.Dot = r.Dot()
	next, e = r.End()
	return c, next, e
}

// valBytes writes a value that was never written, too: it is noughts, and none that value knows.
func valBytes(v api.Value) ([]byte, api.Errno) {
	if v == (api.Value{}) {
		return []byte{noVal}, api.OK
	}
	return value.Bytes(v)
}

func readVal(b []byte, at int) (v api.Value, next int, e api.Errno) {
	kind, next, e := wire.Get(b, at, byteSize)
	if e != api.OK || kind == noVal {
		return api.Value{}, next, e
	}
	return value.Read(b, at)
}

func vectorBytes(v []int) ([]byte, api.Errno) {
	var w tape.Writer
	w.Vector(v)
	return w.Bytes()
}

func readVector(b []byte, at int) (v []int, next int, e api.Errno) {
	r := tape.NewReader(b, at)
	v = r.Vector()
	next, e = r.End()
	return v, next, e
}
