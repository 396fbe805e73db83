package oplog_test

import (
	"bytes"
	"math"
	"slices"
	"strings"
	"testing"

	"raddle/api"
	"raddle/op"
	"raddle/oplog"
)

const (
	// least and most are the ends of what an int may be.
	least = math.MinInt
	most  = math.MaxInt

	// noughtSnap and noughtRow are what a Snap and a row without anything take as bytes, noughtCell what a cell never written takes.
	noughtSnap = 15
	noughtRow  = 3
	noughtCell = 16

	// maxSnap is as many bytes as a Snap may have.
	maxSnap = api.MaxBytes - 1
)

func null() api.Value         { return api.Value{Kind: api.Null} }
func truth(i int) api.Value   { return api.Value{Kind: api.Bool, I: i} }
func num(i int) api.Value     { return api.Value{Kind: api.Int, I: i} }
func text(s string) api.Value { return api.Value{Kind: api.Text, S: s} }

// insert, update and remove are right Ops.
func insert() api.Op {
	return api.Op{
		Dot: api.Dot{Peer: 1, N: 3}, Deps: []int{70, 2, 4}, Stamp: api.Stamp{Phys: 7, Logic: 5, Peer: 1},
		Kind: api.OpInsert, Table: 1, Key: "key", Vals: []api.Value{num(-2), text("v")},
	}
}

func update() api.Op {
	x := insert()
	x.Kind, x.Col, x.Vals = api.OpUpdate, 1, []api.Value{text("w")}
	return x
}

func remove() api.Op {
	x := insert()
	x.Kind, x.Vals, x.Dots = api.OpDelete, nil, []api.Dot{{Peer: 0, N: 70}, {Peer: 1, N: 2}}
	return x
}

// filled has something in each field.
func filled() api.Snap {
	return api.Snap{
		Have:  []int{0x01020304, 2, 3},
		Clock: api.Stamp{Phys: 0x010203040506, Logic: 0x070809, Peer: 10},
		Tables: [][]api.Row{
			{
				{Key: "ab", Dots: []api.Dot{{Peer: 1, N: 2}, {Peer: 3, N: 0x04050607}}, Cells: []api.Cell{
					{Val: num(-258), Stamp: api.Stamp{Phys: 0x0a0b0c0d0e0f, Logic: 0x101112, Peer: 19}, Dot: api.Dot{Peer: 20, N: 0x15161718}},
					{Val: text("xyz"), Stamp: api.Stamp{Phys: 1, Logic: 2, Peer: 3}, Dot: api.Dot{Peer: 4, N: 5}},
				}},
				{Key: "", Cells: []api.Cell{{}, {Val: truth(1), Dot: api.Dot{N: 6}}, {Val: null()}}},
			},
			nil,
			{{Key: "c", Dots: []api.Dot{{N: 9}}}},
		},
		Safe: [][]int{{1, 2, 3}, nil, {0x05060708}},
		Ops:  []api.Op{insert(), update(), remove()},
	}
}

// greatest has each number as great as it can be written, and each list of vectors, numbers and dots as long, the Ops aside.
func greatest() api.Snap {
	v := func() []int { return slices.Repeat([]int{1<<32 - 1}, api.MaxPeers) }
	at := api.Stamp{Phys: 1<<48 - 1, Logic: 1<<24 - 1, Peer: 255}
	d := api.Dot{Peer: 255, N: 1<<32 - 1}
	cell := api.Cell{Val: text(strings.Repeat("v", api.MaxText)), Stamp: at, Dot: d}
	row := api.Row{Key: strings.Repeat("k", api.MaxText), Dots: slices.Repeat([]api.Dot{d}, 255), Cells: slices.Repeat([]api.Cell{cell}, 255)}
	return api.Snap{
		Have: v(), Clock: at, Tables: slices.Repeat([][]api.Row{{row}}, 3), Safe: [][]int{v(), v(), v(), v(), v()},
		Ops: []api.Op{{
			Dot: d, Deps: v(), Stamp: at, Kind: 255, Table: 255, Key: row.Key, Col: 255,
			Vals: slices.Repeat([]api.Value{cell.Val}, api.MaxArity), Dots: slices.Repeat([]api.Dot{d}, api.MaxDots),
		}},
	}
}

// crowd has lists of as many as their counts can tell, of what is as short as can be.
func crowd() api.Snap {
	return api.Snap{
		Have: make([]int, api.MaxPeers), Safe: make([][]int, api.MaxPeers),
		Tables: slices.Repeat([][]api.Row{{{Dots: make([]api.Dot, 40), Cells: make([]api.Cell, 1)}}}, 255),
	}
}

// odd could be no peer's, but can be written.
func odd() api.Snap {
	return api.Snap{
		Have: []int{9}, Clock: api.Stamp{Logic: 1 << 20, Peer: 77},
		Tables: [][]api.Row{{{Key: "b", Dots: []api.Dot{{N: 5}, {N: 4}, {N: 4}}}, {Key: "a"}, {Key: "a"}}},
		Safe:   [][]int{{1, 2}, {3}}, Ops: []api.Op{{}, {Kind: 200, Key: "\x00\xff"}},
	}
}

// writable has Snaps that can be written.
func writable() []api.Snap {
	empty := api.Snap{Have: []int{}, Tables: [][]api.Row{}, Safe: [][]int{}, Ops: []api.Op{}}
	return []api.Snap{{}, empty, filled(), greatest(), crowd(), odd(), ofSize(maxSnap - 1), ofSize(maxSnap)}
}

// ofSize takes so many bytes.
func ofSize(size int) api.Snap {
	rest := size - noughtSnap - 2
	rows := make([]api.Row, rest/noughtRow)
	rows[len(rows)/2].Key = "xx"[:rest%noughtRow]
	return api.Snap{Tables: [][]api.Row{rows}}
}

func sameOp(a, b api.Op) bool {
	return a.Dot == b.Dot && slices.Equal(a.Deps, b.Deps) && a.Stamp == b.Stamp && a.Kind == b.Kind && a.Table == b.Table &&
		a.Key == b.Key && a.Col == b.Col && slices.Equal(a.Vals, b.Vals) && slices.Equal(a.Dots, b.Dots)
}

func sameOps(a, b []api.Op) bool { return slices.EqualFunc(a, b, sameOp) }

func sameRow(a, b api.Row) bool {
	return a.Key == b.Key && slices.Equal(a.Dots, b.Dots) && slices.Equal(a.Cells, b.Cells)
}

func sameRows(a, b []api.Row) bool { return slices.EqualFunc(a, b, sameRow) }

func same(a, b api.Snap) bool {
	return slices.Equal(a.Have, b.Have) && a.Clock == b.Clock && slices.EqualFunc(a.Tables, b.Tables, sameRows) &&
		slices.EqualFunc(a.Safe, b.Safe, slices.Equal[[]int]) && sameOps(a.Ops, b.Ops)
}

func isZero(s api.Snap) bool { return same(s, api.Snap{}) }

func opBytes(x api.Op) []byte {
	b, e := op.Bytes(x)
	if e != api.OK {
		panic("an Op that cannot be written")
	}
	return b
}

// put and those behind it write as the chapter says, number by number.
func put(b []byte, n, size int) []byte {
	for i := size - 1; i >= 0; i-- {
		b = append(b, byte(n>>(8*i)))
	}
	return b
}

func putText(b []byte, s string) []byte { return append(put(b, len(s), 1), s...) }

func putDot(b []byte, d api.Dot) []byte { return put(put(b, d.Peer, 1), d.N, 4) }

func putStamp(b []byte, s api.Stamp) []byte {
	return put(put(put(b, s.Phys, 6), s.Logic, 3), s.Peer, 1)
}

func putVector(b []byte, v []int) []byte {
	b = put(b, len(v), 1)
	for _, n := range v {
		b = put(b, n, 4)
	}
	return b
}

func putVal(b []byte, v api.Value) []byte {
	b = put(b, v.Kind, 1)
	switch {
	case v.Kind == api.Bool:
		b = put(b, v.I, 1)
	case v.Kind == api.Int && v.I < 0:
		b = put(put(b, 1, 1), -v.I, 8)
	case v.Kind == api.Int:
		b = put(put(b, 0, 1), v.I, 8)
	case v.Kind == api.Text:
		b = putText(b, v.S)
	}
	return b
}

func putRow(b []byte, r api.Row) []byte {
	b = put(putText(b, r.Key), len(r.Dots), 1)
	for _, d := range r.Dots {
		b = putDot(b, d)
	}
	b = put(b, len(r.Cells), 1)
	for _, c := range r.Cells {
		b = putDot(putStamp(putVal(b, c.Val), c.Stamp), c.Dot)
	}
	return b
}

// asBytes is what a Snap that can be written must be as bytes.
func asBytes(s api.Snap) []byte {
	b := putStamp(putVector(nil, s.Have), s.Clock)
	b = put(b, len(s.Tables), 1)
	for _, rows := range s.Tables {
		b = put(b, len(rows), 2)
		for _, r := range rows {
			b = putRow(b, r)
		}
	}
	b = put(b, len(s.Safe), 1)
	for _, v := range s.Safe {
		b = putVector(b, v)
	}
	b = put(b, len(s.Ops), 2)
	for _, x := range s.Ops {
		b = append(b, opBytes(x)...)
	}
	return b
}

func wantBytes(t *testing.T, what string, s api.Snap, want []byte) {
	t.Helper()
	b, e := oplog.SnapBytes(s)
	if e != api.OK || !bytes.Equal(b, want) {
		t.Errorf("%s: got %d bytes, %d; want %d bytes", what, len(b), e, len(want))
	}
}

func wantRefused(t *testing.T, what string, s api.Snap, want api.Errno) {
	t.Helper()
	if b, e := oplog.SnapBytes(s); b != nil || e != want {
		t.Errorf("%s: got %d bytes, %d; want %d", what, len(b), e, want)
	}
}

func wantRead(t *testing.T, what string, b []byte, want api.Snap) {
	t.Helper()
	if s, e := oplog.ReadSnap(b); e != api.OK || !same(s, want) {
		t.Errorf("%s: got %d, or another Snap", what, e)
	}
}

func wantUnread(t *testing.T, what string, b []byte) {
	t.Helper()
	if s, e := oplog.ReadSnap(b); e != api.ErrBytes || !isZero(s) {
		t.Errorf("%s: got %d, zero %v", what, e, isZero(s))
	}
}

// wantBoth asks that s is written as it must be, and read again.
func wantBoth(t *testing.T, what string, s api.Snap) {
	t.Helper()
	wantBytes(t, what, s, asBytes(s))
	wantRead(t, what, asBytes(s), s)
}

// P10.1

func TestSnapBytesOfNothing(t *testing.T) {
	wantBytes(t, "zero", api.Snap{}, make([]byte, noughtSnap))
	wantRead(t, "zero", make([]byte, noughtSnap), api.Snap{})
}

func TestSnapBytesByTheirPlaces(t *testing.T) {
	want := bytes.Join([][]byte{
		{3, 1, 2, 3, 4, 0, 0, 0, 2, 0, 0, 0, 3}, {1, 2, 3, 4, 5, 6, 7, 8, 9, 10},
		{3}, {0, 2},
		{2, 'a', 'b'}, {2, 1, 0, 0, 0, 2, 3, 4, 5, 6, 7}, {2},
		{3, 1, 0, 0, 0, 0, 0, 0, 1, 2}, {10, 11, 12, 13, 14, 15, 16, 17, 18, 19}, {20, 21, 22, 23, 24},
		{4, 3, 'x', 'y', 'z'}, {0, 0, 0, 0, 0, 1, 0, 0, 2, 3}, {4, 0, 0, 0, 5},
		{0}, {0}, {3},
		{0}, make([]byte, 15),
		{2, 1}, make([]byte, 10), {0, 0, 0, 0, 6},
		{1}, make([]byte, 15),
		{0, 0},
		{0, 1}, {1, 'c'}, {1, 0, 0, 0, 0, 9}, {0},
		{3}, {3, 0, 0, 0, 1, 0, 0, 0, 2, 0, 0, 0, 3}, {0}, {1, 5, 6, 7, 8},
		{0, 3}, opBytes(insert()), opBytes(update()), opBytes(remove()),
	}, nil)
	wantBytes(t, "filled", filled(), want)
	wantRead(t, "filled", want, filled())
}

func TestSnapBytesOfWhatCanBeWritten(t *testing.T) {
	for _, s := range writable() {
		wantBoth(t, "writable", s)
	}
}

// place is a number of a Snap, and what it takes as bytes.
type place struct {
	name string
	of   func(s *api.Snap) *int
	size int
}

// places has filled's numbers, those of the Ops too.
func places() []place {
	cell := func(s *api.Snap) *api.Cell { return &s.Tables[0][0].Cells[1] }
	return []place{
		{"Have 0", func(s *api.Snap) *int { return &s.Have[0] }, 4},
		{"Have 2", func(s *api.Snap) *int { return &s.Have[2] }, 4},
		{"Clock.Phys", func(s *api.Snap) *int { return &s.Clock.Phys }, 6},
		{"Clock.Logic", func(s *api.Snap) *int { return &s.Clock.Logic }, 3},
		{"Clock.Peer", func(s *api.Snap) *int { return &s.Clock.Peer }, 1},
		{"a row's Dot.Peer", func(s *api.Snap) *int { return &s.Tables[0][0].Dots[1].Peer }, 1},
		{"a row's Dot.N", func(s *api.Snap) *int { return &s.Tables[2][0].Dots[0].N }, 4},
		{"a cell's Stamp.Phys", func(s *api.Snap) *int { return &cell(s).Stamp.Phys }, 6},
		{"a cell's Stamp.Logic", func(s *api.Snap) *int { return &cell(s).Stamp.Logic }, 3},
		{"a cell's Stamp.Peer", func(s *api.Snap) *int { return &cell(s).Stamp.Peer }, 1},
		{"a cell's Dot.Peer", func(s *api.Snap) *int { return &cell(s).Dot.Peer }, 1},
		{"a cell's Dot.N", func(s *api.Snap) *int { return &cell(s).Dot.N }, 4},
		{"a nought cell's Dot.N", func(s *api.Snap) *int { return &s.Tables[0][1].Cells[0].Dot.N }, 4},
		{"a nought cell's Stamp.Phys", func(s *api.Snap) *int { return &s.Tables[0][1].Cells[0].Stamp.Phys }, 6},
		{"Safe 0 0", func(s *api.Snap) *int { return &s.Safe[0][0] }, 4},
		{"Safe 2 0", func(s *api.Snap) *int { return &s.Safe[2][0] }, 4},
		{"an Op's Kind", func(s *api.Snap) *int { return &s.Ops[0].Kind }, 1},
		{"an Op's Dot.N", func(s *api.Snap) *int { return &s.Ops[1].Dot.N }, 4},
		{"an Op's Deps", func(s *api.Snap) *int { return &s.Ops[2].Deps[2] }, 4},
		{"an Op's Stamp.Logic", func(s *api.Snap) *int { return &s.Ops[2].Stamp.Logic }, 3},
		{"an Op's Col", func(s *api.Snap) *int { return &s.Ops[2].Col }, 1},
		{"an Op's last Dot.N", func(s *api.Snap) *int { return &s.Ops[2].Dots[1].N }, 4},
	}
}

func TestSnapBytesOfEachNumber(t *testing.T) {
	for _, p := range places() {
		beyond := 1 << (8 * p.size)
		for _, n := range []int{0, 1, 255, beyond/2 - 1, beyond / 2, beyond - 1} {
			s := filled()
			*p.of(&s) = n
			wantBoth(t, p.name, s)
		}
		for _, n := range []int{-1, -2, -beyond, least, least + 1, beyond, beyond + 1, 2 * beyond, 1 << 56, most} {
			s := filled()
			*p.of(&s) = n
			wantRefused(t, p.name, s, api.ErrArg)
		}
	}
}

// bend is something that is done to a Snap.
type bend struct {
	name string
	do   func(s *api.Snap)
}

func bent(s api.Snap, b bend) api.Snap {
	b.do(&s)
	return s
}

// counts has how many of each list there may be, and what makes so many.
func counts() []struct {
	name string
	most int
	do   func(s *api.Snap, n int)
} {
	return []struct {
		name string
		most int
		do   func(s *api.Snap, n int)
	}{
		{"Have", 5, func(s *api.Snap, n int) { s.Have = make([]int, n) }},
		{"Tables", 255, func(s *api.Snap, n int) { s.Tables = make([][]api.Row, n) }},
		{"Dots", 255, func(s *api.Snap, n int) { s.Tables[0][1].Dots = make([]api.Dot, n) }},
		{"Dots of the last", 255, func(s *api.Snap, n int) { s.Tables[2][0].Dots = make([]api.Dot, n) }},
		{"Cells", 255, func(s *api.Snap, n int) { s.Tables[0][1].Cells = make([]api.Cell, n) }},
		{"Cells of the last", 255, func(s *api.Snap, n int) { s.Tables[2][0].Cells = make([]api.Cell, n) }},
		{"Safe", 5, func(s *api.Snap, n int) { s.Safe = make([][]int, n) }},
		{"numbers in the first of Safe", 5, func(s *api.Snap, n int) { s.Safe[0] = make([]int, n) }},
		{"numbers in the last of Safe", 5, func(s *api.Snap, n int) { s.Safe[2] = make([]int, n) }},
		{"an Op's Deps", 5, func(s *api.Snap, n int) { s.Ops[2].Deps = make([]int, n) }},
		{"an Op's Dots", 64, func(s *api.Snap, n int) { s.Ops[0].Dots = make([]api.Dot, n) }},
		{"an Op's Vals", 12, func(s *api.Snap, n int) { s.Ops[0].Vals = slices.Repeat([]api.Value{null()}, n) }},
	}
}

func TestSnapBytesOfAsManyAsMayBe(t *testing.T) {
	for _, c := range counts() {
		for _, n := range []int{0, 1, 2, c.most - 1, c.most} {
			s := filled()
			c.do(&s, n)
			wantBoth(t, c.name, s)
		}
		for _, n := range []int{c.most + 1, c.most + 2, 256, 257, 256 + c.most, 1000} {
			s := filled()
			c.do(&s, n)
			wantRefused(t, c.name, s, api.ErrArg)
		}
	}
}

// Two bytes tell a count of 65535, but no slot has room for so much; one more cannot be told.
func TestSnapBytesOfManyRowsAndOps(t *testing.T) {
	for _, n := range []int{255, 256, 257, 2000, (maxSnap - noughtSnap - 2) / noughtRow} {
		wantBoth(t, "rows", api.Snap{Tables: [][]api.Row{make([]api.Row, n)}})
	}
	for _, n := range []int{255, 256, 257, 2000, (maxSnap - noughtSnap) / len(opBytes(api.Op{}))} {
		wantBoth(t, "Ops", api.Snap{Ops: make([]api.Op, n)})
	}
	for _, n := range []int{(maxSnap-noughtSnap-2)/noughtRow + 1, 65534, 65535} {
		wantRefused(t, "rows", api.Snap{Tables: [][]api.Row{make([]api.Row, n)}}, api.ErrLen)
		wantRefused(t, "Ops", api.Snap{Ops: make([]api.Op, n)}, api.ErrLen)
	}
	for _, n := range []int{65536, 65537, 131072, 131073} {
		wantRefused(t, "rows", api.Snap{Tables: [][]api.Row{nil, make([]api.Row, n)}}, api.ErrArg)
		wantRefused(t, "Ops", api.Snap{Ops: make([]api.Op, n)}, api.ErrArg)
	}
}

func rightVals() []api.Value {
	return []api.Value{
		{}, null(), truth(0), truth(1), num(0), num(1), num(-1), num(api.MaxValue), num(-api.MaxValue), num(api.MaxInt + 1),
		text(""), text("v"), text("\x00\xff"), text(strings.Repeat("v", api.MaxText)),
	}
}

func wrongVals() []api.Value {
	return []api.Value{
		{I: 1}, {I: -1}, {I: least}, {S: "x"}, {I: 1, S: "x"},
		{Kind: api.Null, I: 1}, {Kind: api.Null, S: "x"}, {Kind: api.Bool, I: 2}, {Kind: api.Bool, I: -1}, {Kind: api.Bool, S: "x"},
		{Kind: api.Int, S: "x"}, num(api.MaxValue + 1), num(-api.MaxValue - 1), num(least), num(most),
		{Kind: api.Text, I: 1}, text(strings.Repeat("v", api.MaxText+1)), text(strings.Repeat("v", 300)),
		{Kind: 5}, {Kind: -1}, {Kind: 255}, {Kind: 256}, {Kind: 256 + api.Null}, {Kind: least}, {Kind: most},
	}
}

func TestSnapBytesOfEachVal(t *testing.T) {
	for cell := range 3 {
		for _, v := range rightVals() {
			s := filled()
			s.Tables[0][1].Cells[cell].Val = v
			wantBoth(t, "a right Val", s)
		}
		for _, v := range wrongVals() {
			s := filled()
			s.Tables[0][1].Cells[cell].Val = v
			wantRefused(t, "a wrong Val", s, api.ErrArg)
		}
	}
}

// A nought stands for a cell's Val alone: an Op's must be right.
func TestSnapBytesTellsAnOpsNoughtVal(t *testing.T) {
	s := filled()
	s.Ops[0].Vals[1] = api.Value{}
	wantRefused(t, "an Op's Val", s, api.ErrArg)
}

func TestSnapBytesOfEachKey(t *testing.T) {
	for n := range 60 {
		s := filled()
		s.Tables[0][1].Key = strings.Repeat("k", n)
		x := filled()
		x.Ops[2].Key = strings.Repeat("k", n)
		if n <= api.MaxText {
			wantBoth(t, "Key", s)
			wantBoth(t, "an Op's Key", x)
		} else {
			wantRefused(t, "Key", s, api.ErrArg)
			wantRefused(t, "an Op's Key", x, api.ErrArg)
		}
	}
	for _, key := range []string{"\x00", "\xff\xfe", "ü", "a\nb"} {
		s := filled()
		s.Tables[2][0].Key = key
		wantBoth(t, "Key", s)
	}
	for _, n := range []int{255, 256, 257, 280, 70000} {
		s := filled()
		s.Tables[2][0].Key = strings.Repeat("k", n)
		wantRefused(t, "Key", s, api.ErrArg)
	}
}

func TestSnapBytesOfAsMuchAsASlotHasRoomFor(t *testing.T) {
	for _, size := range []int{maxSnap - 100, maxSnap - 1, maxSnap} {
		b, e := oplog.SnapBytes(ofSize(size))
		if len(b) != size || e != api.OK {
			t.Errorf("got %d bytes, %d; want %d", len(b), e, size)
		}
	}
	for _, size := range []int{maxSnap + 1, maxSnap + 2, maxSnap + 100, 2 * maxSnap} {
		wantRefused(t, "too long", ofSize(size), api.ErrLen)
	}
}

// What cannot be written is told ahead of what is too long, wherever it stands.
func TestSnapBytesTellsWhatCannotBeFirst(t *testing.T) {
	long := func() api.Snap {
		s := filled()
		s.Tables = append(s.Tables, slices.Repeat([]api.Row{{Key: strings.Repeat("k", api.MaxText)}}, 2500))
		return s
	}
	wantRefused(t, "long", long(), api.ErrLen)
	for _, p := range places() {
		s := long()
		*p.of(&s) = -1
		wantRefused(t, p.name, s, api.ErrArg)
	}
	for _, b := range []bend{
		{"the last row's Key", func(s *api.Snap) { s.Tables[3][2499].Key = strings.Repeat("k", 25) }},
		{"the last row's cell", func(s *api.Snap) { s.Tables[3][2499].Cells = []api.Cell{{Val: api.Value{Kind: 9}}} }},
		{"Safe", func(s *api.Snap) { s.Safe = make([][]int, 6) }},
		{"the last Op", func(s *api.Snap) { s.Ops[2].Key = strings.Repeat("k", 25) }},
		{"all those Ops", func(s *api.Snap) { s.Ops = make([]api.Op, 65536) }},
	} {
		wantRefused(t, b.name, bent(long(), b), api.ErrArg)
	}
}

func TestReadSnapOfNoBytes(t *testing.T) {
	wantUnread(t, "nil", nil)
	wantUnread(t, "empty", []byte{})
}

func TestReadSnapOfWhatIsCutShort(t *testing.T) {
	for _, s := range []api.Snap{{}, filled(), odd()} {
		b := asBytes(s)
		for cut := range b {
			wantUnread(t, "cut short", b[:cut])
			// What lies behind the length in b's memory must not help.
			wantUnread(t, "cut short", slices.Clone(b[:cut]))
		}
	}
	b := asBytes(greatest())
	for cut := 0; cut < len(b); cut += 97 {
		wantUnread(t, "cut short", b[:cut])
	}
	wantUnread(t, "cut short", b[:len(b)-1])
}

func TestReadSnapOfWhatHasMoreBehindIt(t *testing.T) {
	for _, s := range []api.Snap{{}, filled(), greatest(), odd(), ofSize(maxSnap - 1)} {
		for _, more := range [][]byte{{0}, {1}, {255}, make([]byte, 30), asBytes(s)} {
			wantUnread(t, "more behind", append(asBytes(s), more...))
		}
	}
}

// What SnapBytes would not answer is not such bytes, though a Snap could be told from them.
func TestReadSnapOfMoreThanASlotHasRoomFor(t *testing.T) {
	wantRead(t, "as much as there is room for", asBytes(ofSize(maxSnap)), ofSize(maxSnap))
	for _, size := range []int{maxSnap + 1, maxSnap + 2, 2 * maxSnap} {
		wantUnread(t, "too long", asBytes(ofSize(size)))
	}
}

// part is what stands around a count in a Snap's bytes.
type part struct {
	name   string
	ahead  []byte
	behind []byte
}

// In each place where a count stands, more than may be is told, though as many stand there.
func TestReadSnapBoundsTheCounts(t *testing.T) {
	tail := []byte{0, 0, 0}
	for _, c := range []struct {
		part
		size int
		most int
	}{
		{part{"Have", nil, make([]byte, 14)}, 4, 5},
		{part{"Safe", make([]byte, 12), make([]byte, 2)}, 1, 5},
		{part{"numbers in one of Safe", append(make([]byte, 12), 1), make([]byte, 2)}, 4, 5},
		{part{"Tables", make([]byte, 11), tail}, 2, 255},
		{part{"Dots", append(make([]byte, 11), 1, 0, 1, 0), append([]byte{0}, tail...)}, 5, 255},
		{part{"Cells", append(make([]byte, 11), 1, 0, 1, 0, 0), tail}, noughtCell, 255},
		{part{"Key", append(make([]byte, 11), 1, 0, 1), append([]byte{0, 0}, tail...)}, 1, 24},
		{part{"a Val's text", append(make([]byte, 11), 1, 0, 1, 0, 0, 1, 4), append(make([]byte, 15), tail...)}, 1, 24},
		{part{"an Op's Deps", append(make([]byte, noughtSnap-1), append([]byte{1}, make([]byte, 6)...)...), make([]byte, 15)}, 4, 5},
		{part{"an Op's Dots", append(make([]byte, noughtSnap-1), append([]byte{1}, make([]byte, 21)...)...), nil}, 5, 64},
	} {
		for n := range 256 {
			b := slices.Concat(c.ahead, []byte{byte(n)}, make([]byte, n*c.size), c.behind)
			s, e := oplog.ReadSnap(b)
			if n <= c.most && (e != api.OK || !bytes.Equal(asBytes(s), b)) {
				t.Errorf("%d of %s: got %d", n, c.name, e)
			}
			if n > c.most {
				wantUnread(t, c.name, b)
			}
		}
	}
}

// A count that tells other than stands there makes the rest be something else, or be cut short.
func TestReadSnapOfCountsThatAreNotRight(t *testing.T) {
	for _, at := range []int{0, 11, 12, 13} {
		for n := 1; n < 256; n++ {
			b := make([]byte, noughtSnap)
			b[at] = byte(n)
			wantUnread(t, "a count beyond", b)
		}
	}
	// The last byte of the rows' count, and of the Ops' one: what stands there is used up by fewer, or more.
	rows := asBytes(api.Snap{Tables: [][]api.Row{{{Key: "abc"}, {Key: "def"}}}})
	ops := asBytes(api.Snap{Ops: []api.Op{insert(), insert()}})
	for n := range 256 {
		if n != 2 {
			rows[13], ops[14] = byte(n), byte(n)
			wantUnread(t, "rows", rows)
			wantUnread(t, "Ops", ops)
		}
	}
	for n := 1; n < 256; n++ {
		rows[12], rows[13], ops[13], ops[14] = byte(n), 2, byte(n), 2
		wantUnread(t, "rows", rows)
		wantUnread(t, "Ops", ops)
	}
}

// cellAround is what stands around the Val of a Snap's only cell.
func cellAround(val ...byte) []byte {
	return slices.Concat(make([]byte, 11), []byte{1, 0, 1, 0, 0, 1}, val, make([]byte, 15), make([]byte, 3))
}

func TestReadSnapOfEachValsBytes(t *testing.T) {
	cell := func(v api.Value) api.Snap { return api.Snap{Tables: [][]api.Row{{{Cells: []api.Cell{{Val: v}}}}}} }
	wantRead(t, "noughts", cellAround(0), cell(api.Value{}))
	wantRead(t, "Null", cellAround(1), cell(null()))
	wantRead(t, "Bool", cellAround(2, 1), cell(truth(1)))
	wantRead(t, "Int", cellAround(3, 1, 0, 0, 0, 0, 0, 0, 0, 2), cell(num(-2)))
	wantRead(t, "Text", cellAround(4, 1, 'v'), cell(text("v")))
	for kind := 5; kind < 256; kind++ {
		wantUnread(t, "a kind that is none", cellAround(byte(kind)))
		wantUnread(t, "a kind that is none", cellAround(byte(kind), 0))
		wantUnread(t, "a kind that is none", cellAround(byte(kind), 0, 0, 0, 0, 0, 0, 0, 0, 0))
	}
	for n := 2; n < 256; n++ {
		wantUnread(t, "a Bool that is none", cellAround(2, byte(n)))
		wantUnread(t, "a sign that is none", cellAround(3, byte(n), 0, 0, 0, 0, 0, 0, 0, 2))
	}
	wantUnread(t, "-0", cellAround(3, 1, 0, 0, 0, 0, 0, 0, 0, 0))
	wantUnread(t, "beyond MaxValue", cellAround(3, 0, 16, 0, 0, 0, 0, 0, 0, 1))
	wantUnread(t, "beyond all", cellAround(3, 1, 255, 255, 255, 255, 255, 255, 255, 255))
	wantUnread(t, "a nought more", cellAround(0, 0))
}

// An Op's Val is never noughts, be it in a Snap.
func TestReadSnapOfAnOpsNoughtVal(t *testing.T) {
	b := asBytes(api.Snap{Ops: []api.Op{{Vals: []api.Value{null()}}}})
	at := len(b) - 2
	if b[at] != api.Null || b[at-1] != 1 {
		t.Fatal("no Null stands there")
	}
	b[at] = 0
	wantUnread(t, "an Op's Val", b)
}

// next tells a number below bound that nothing but the ones ahead of it hangs together with.
func next(x *uint32, bound int) int {
	*x = *x*1664525 + 1013904223
	return int(*x>>8) % bound
}

// some makes a list of up to n things.
func some[T any](x *uint32, n int, one func() T) []T {
	var l []T
	for range next(x, n+1) {
		l = append(l, one())
	}
	return l
}

// anyNumber tells one that size bytes have room for: a small one, mostly.
func anyNumber(x *uint32, size int) int {
	if next(x, 4) > 0 {
		return next(x, 200)
	}
	return 1<<(8*size) - 1 - next(x, 200)
}

func anySnap(x *uint32) api.Snap {
	number := func() int { return anyNumber(x, 4) }
	stamp := func() api.Stamp {
		return api.Stamp{Phys: anyNumber(x, 6), Logic: anyNumber(x, 3), Peer: anyNumber(x, 1)}
	}
	dot := func() api.Dot { return api.Dot{Peer: anyNumber(x, 1), N: number()} }
	val := func() api.Value { return rightVals()[next(x, len(rightVals()))] }
	cell := func() api.Cell { return api.Cell{Val: val(), Stamp: stamp(), Dot: dot()} }
	key := func() string { return strings.Repeat("key", 8)[:next(x, api.MaxText+1)] }
	row := func() api.Row { return api.Row{Key: key(), Dots: some(x, 3, dot), Cells: some(x, 4, cell)} }
	vector := func() []int { return some(x, api.MaxPeers, number) }
	one := func() api.Op {
		v := append(rightVals(), null())[1+next(x, len(rightVals()))]
		return api.Op{Dot: dot(), Deps: vector(), Stamp: stamp(), Kind: anyNumber(x, 1), Table: anyNumber(x, 1), Key: key(), Col: anyNumber(x, 1), Vals: []api.Value{v}, Dots: some(x, 3, dot)}
	}
	return api.Snap{
		Have: vector(), Clock: stamp(), Tables: some(x, 3, func() []api.Row { return some(x, 3, row) }),
		Safe: some(x, api.MaxPeers, vector), Ops: some(x, 3, one),
	}
}

func TestManySnapsAreWrittenAndRead(t *testing.T) {
	x := uint32(1)
	for range 1000 {
		wantBoth(t, "some Snap", anySnap(&x))
	}
}

// Whatever bytes are read are those that are written of it: no Snap has two.
func TestWhatIsReadIsWritten(t *testing.T) {
	x := uint32(2)
	read := 0
	for range 5000 {
		b := asBytes(anySnap(&x))
		for range 1 + next(&x, 2) {
			b[next(&x, len(b))] = byte(next(&x, 6))
		}
		s, e := oplog.ReadSnap(b)
		if e != api.OK {
			wantUnread(t, "bent", b)
			continue
		}
		read++
		wantBytes(t, "bent", s, b)
	}
	if read < 500 {
		t.Errorf("only %d were read", read)
	}
}
