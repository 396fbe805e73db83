package msg_test

import (
	"bytes"
	"math"
	"slices"
	"strings"
	"testing"

	"raddle/api"
	"raddle/crc"
	"raddle/msg"
	"raddle/op"
)

const (
	// least and most are the ends of what an int may be.
	least = math.MinInt
	most  = math.MaxInt

	// sumSize is what sealing adds.
	sumSize = 4

	// noughtOp is what an Op of noughts takes as bytes: no Op takes fewer.
	noughtOp = 22

	// maxOps is the greatest count of Ops that two bytes can tell.
	maxOps = 65535
)

func num(i int) api.Value     { return api.Value{Kind: api.Int, I: i} }
func text(s string) api.Value { return api.Value{Kind: api.Text, S: s} }

func forms() []api.Table {
	return []api.Table{{Cols: []int{api.Bool}}, {Cols: []int{api.Int, api.Text}}}
}

// insert, update and remove are right Ops, of three peers and forms.
func insert() api.Op {
	return api.Op{
		Dot: api.Dot{Peer: 1, N: 3}, Deps: []int{70, 2, 4}, Stamp: api.Stamp{Phys: 7, Logic: 5, Peer: 1},
		Kind: api.OpInsert, Table: 1, Key: "key", Vals: []api.Value{num(-2), text("v")},
	}
}

func update() api.Op {
	x := insert()
	x.Kind, x.Col, x.Vals = api.OpUpdate, 1, []api.Value{text("w")}
	return x
}

func remove() api.Op {
	x := insert()
	x.Kind, x.Vals, x.Dots = api.OpDelete, nil, []api.Dot{{Peer: 0, N: 70}, {Peer: 1, N: 2}}
	return x
}

// ops has a right one of each kind.
func ops() []api.Op { return []api.Op{insert(), update(), remove()} }

// single, digest and reply are right Msgs of each kind, of three peers and forms.
func single() api.Msg {
	return api.Msg{Kind: api.MsgOp, From: 1, To: 2, Ops: []api.Op{insert()}}
}

func digest() api.Msg {
	return api.Msg{Kind: api.MsgDigest, From: 2, To: 0, Have: []int{7, 2, 9}, Safe: []int{6, 2, 0}}
}

func reply() api.Msg {
	return api.Msg{Kind: api.MsgReply, From: 0, To: 1, Have: []int{70, 3, 4}, Safe: []int{70, 0, 3}, Ops: ops()}
}

// bare is a reply that has nothing to hand over.
func bare() api.Msg {
	m := reply()
	m.Ops = nil
	return m
}

// kinds has what makes a right Msg of each kind.
func kinds() []func() api.Msg { return []func() api.Msg{single, digest, reply, bare} }

// told has those kinds that tell vectors.
func told() []func() api.Msg { return []func() api.Msg{digest, reply, bare} }

// greatest has each number and list as great as it can be written, the Ops aside.
func greatest() api.Msg {
	v := func() []int { return slices.Repeat([]int{1<<32 - 1}, api.MaxPeers) }
	return api.Msg{Kind: 255, From: 255, To: 255, Have: v(), Safe: v(), Ops: ops()}
}

// oddOps can be written, but none is right.
func oddOps() []api.Op {
	undone := remove()
	undone.Dots = nil
	return []api.Op{{}, undone, {
		Dot: api.Dot{Peer: 255, N: 1<<32 - 1}, Deps: slices.Repeat([]int{1<<32 - 1}, api.MaxPeers), Kind: 255, Table: 255, Col: 255, Key: strings.Repeat("k", api.MaxText),
		Stamp: api.Stamp{Phys: 1<<48 - 1, Logic: 1<<24 - 1, Peer: 255}, Vals: slices.Repeat([]api.Value{text(strings.Repeat("v", api.MaxText))}, api.MaxArity),
		Dots: slices.Repeat([]api.Dot{{Peer: 255, N: 1<<32 - 1}}, api.MaxDots),
	}}
}

// writable has Msgs that can be written, right ones and others.
func writable() []api.Msg {
	empty := api.Msg{Have: []int{}, Safe: []int{}, Ops: []api.Op{}}
	mixed := api.Msg{Kind: api.MsgDigest, From: 3, To: 3, Have: []int{1}, Safe: []int{2, 3}, Ops: append(oddOps(), ops()...)}
	return []api.Msg{single(), digest(), reply(), bare(), {}, empty, greatest(), mixed, {Kind: api.MsgOp, Have: []int{9}}, {Safe: []int{9}}, {Ops: oddOps()}}
}

// noughts has so many Ops as may be sealed by their bytes, one more if over is 1.
func noughts(over int) api.Msg {
	return api.Msg{Ops: make([]api.Op, (api.MaxBytes-sumSize-7)/noughtOp+over)}
}

// bend is something that is done to a Msg.
type bend func(m *api.Msg)

func sameOp(a, b api.Op) bool {
	return a.Dot == b.Dot && slices.Equal(a.Deps, b.Deps) && a.Stamp == b.Stamp && a.Kind == b.Kind && a.Table == b.Table &&
		a.Key == b.Key && a.Col == b.Col && slices.Equal(a.Vals, b.Vals) && slices.Equal(a.Dots, b.Dots)
}

func same(a, b api.Msg) bool {
	return a.Kind == b.Kind && a.From == b.From && a.To == b.To && slices.Equal(a.Have, b.Have) && slices.Equal(a.Safe, b.Safe) &&
		slices.EqualFunc(a.Ops, b.Ops, sameOp)
}

func wantCheck(t *testing.T, n int, f []api.Table, m api.Msg, want api.Errno) {
	t.Helper()
	if e := msg.Check(n, f, m); e != want {
		t.Errorf("Check(%d, %v, %+v): got %d, want %d", n, f, m, e, want)
	}
}

// wantBent bends each, of three peers and forms, in each way by itself.
func wantBent(t *testing.T, makers []func() api.Msg, want api.Errno, ways ...bend) {
	t.Helper()
	for _, of := range makers {
		wantCheck(t, 3, forms(), of(), api.OK)
		for i, way := range ways {
			m := of()
			way(&m)
			if e := msg.Check(3, forms(), m); e != want {
				t.Errorf("way %d: Check of %+v: got %d, want %d", i, m, e, want)
			}
		}
	}
}

func wantBytes(t *testing.T, m api.Msg, want []byte, wantE api.Errno) {
	t.Helper()
	b, e := msg.Bytes(m)
	if !bytes.Equal(b, want) || e != wantE {
		t.Errorf("Bytes(%+v): got %v, %d; want %v, %d", m, b, e, want, wantE)
	}
}

// wantRefused is for Msgs too long to be told.
func wantRefused(t *testing.T, m api.Msg, want api.Errno) {
	t.Helper()
	if b, e := msg.Bytes(m); len(b) != 0 || e != want {
		t.Errorf("Bytes of %d Have, %d Safe, %d Ops: got %d bytes, %d; want %d", len(m.Have), len(m.Safe), len(m.Ops), len(b), e, want)
	}
}

func wantRead(t *testing.T, b []byte, want api.Msg, wantE api.Errno) {
	t.Helper()
	m, e := msg.Read(b)
	if !same(m, want) || e != wantE {
		t.Errorf("Read(%v): got %+v, %d; want %+v, %d", b, m, e, want, wantE)
	}
}

// written is for Msgs that can be.
func written(t *testing.T, m api.Msg) []byte {
	t.Helper()
	b, e := msg.Bytes(m)
	if e != api.OK {
		t.Fatalf("Bytes(%+v): %d", m, e)
	}
	return b
}

// body is what stands ahead of the sum.
func body(t *testing.T, m api.Msg) []byte {
	t.Helper()
	b := written(t, m)
	return b[:len(b)-sumSize]
}

// sealed has its parts one behind the other, and a right sum.
func sealed(t *testing.T, parts ...[]byte) []byte {
	t.Helper()
	b, e := crc.Seal(slices.Concat(parts...))
	if e != api.OK {
		t.Fatalf("Seal: %d", e)
	}
	return b
}

// opBytes is for Ops that can be written.
func opBytes(t *testing.T, x api.Op) []byte {
	t.Helper()
	b, e := op.Bytes(x)
	if e != api.OK {
		t.Fatalf("Bytes(%+v): %d", x, e)
	}
	return b
}

// P8.1: Check

func TestCheckTakesRightMsgs(t *testing.T) {
	for _, of := range kinds() {
		wantCheck(t, 3, forms(), of(), api.OK)
	}
}

func TestCheckTellsTheFormsErrorFirst(t *testing.T) {
	wide := api.Table{Cols: slices.Repeat([]int{api.Int}, api.MaxCols+1)}
	for _, n := range []int{least, 0, 3, api.MaxPeers + 1, most} {
		for _, m := range []api.Msg{single(), digest(), reply(), {}, {Kind: -1, From: -1}} {
			wantCheck(t, n, nil, m, api.ErrLen)
			wantCheck(t, n, []api.Table{}, m, api.ErrLen)
			wantCheck(t, n, slices.Repeat(forms()[:1], api.MaxTables+1), m, api.ErrLen)
			wantCheck(t, n, []api.Table{forms()[0], {}}, m, api.ErrLen)
			wantCheck(t, n, []api.Table{forms()[0], wide}, m, api.ErrLen)
			wantCheck(t, n, []api.Table{{Cols: []int{0}}, {}}, m, api.ErrLen)
			wantCheck(t, n, []api.Table{forms()[0], {Cols: []int{api.Null}}}, m, api.ErrType)
			wantCheck(t, n, []api.Table{{Cols: []int{api.Text + 1}}, forms()[1]}, m, api.ErrType)
		}
	}
}

// ofPeers has a right Msg of each kind of n peers, from one to another one.
func ofPeers(n, from, to int) []api.Msg {
	x := insert()
	x.Dot, x.Deps, x.Stamp.Peer = api.Dot{N: 1}, make([]int, n), 0
	v := func() []int { return make([]int, n) }
	return []api.Msg{
		{Kind: api.MsgOp, From: from, To: to, Ops: []api.Op{x}},
		{Kind: api.MsgDigest, From: from, To: to, Have: v(), Safe: v()},
		{Kind: api.MsgReply, From: from, To: to, Have: v(), Safe: v(), Ops: []api.Op{x, x}},
		{Kind: api.MsgReply, From: from, To: to, Have: v(), Safe: v()},
	}
}

// isOf tells whether a Msg of n peers may go from one to another one.
func isOf(n, from, to int) bool {
	return n >= 1 && n <= api.MaxPeers && from >= 0 && from < n && to >= 0 && to < n && from != to
}

func TestCheckOfEveryCountOfPeers(t *testing.T) {
	for n := range api.MaxPeers + 3 {
		for from := -1; from <= n+1; from++ {
			for to := -1; to <= n+1; to++ {
				want := api.ErrArg
				if isOf(n, from, to) {
					want = api.OK
				}
				for _, m := range ofPeers(n, from, to) {
					wantCheck(t, n, forms(), m, want)
				}
			}
		}
	}
}

func TestCheckTellsWrongCountsOfPeers(t *testing.T) {
	for _, n := range []int{least, -1, 0, 1, 2, 4, api.MaxPeers, api.MaxPeers + 1, 256 + 3, 1<<32 + 3, most} {
		for _, of := range kinds() {
			wantCheck(t, n, forms(), of(), api.ErrArg)
		}
	}
}

func TestCheckOfFromAndTo(t *testing.T) {
	for _, n := range []int{least, -1, 3, 4, api.MaxPeers, 256, 256 + 1, 1 << 32, most} {
		wantBent(t, kinds(), api.ErrArg,
			func(m *api.Msg) { m.From = n },
			func(m *api.Msg) { m.To = n },
			func(m *api.Msg) { m.From, m.To = n, n })
	}
	wantBent(t, kinds(), api.ErrArg,
		func(m *api.Msg) { m.From = m.To },
		func(m *api.Msg) { m.To = m.From },
		func(m *api.Msg) { m.From, m.To = 0, 0 },
		func(m *api.Msg) { m.From, m.To = 2, 2 })
	wantBent(t, kinds(), api.OK,
		func(m *api.Msg) { m.From, m.To = 0, 2 },
		func(m *api.Msg) { m.From, m.To = m.To, m.From })
}

func TestCheckOfTheKind(t *testing.T) {
	for _, kind := range []int{least, -1, 0, api.MsgReply + 1, 256 + api.MsgOp, 256 + api.MsgDigest, 1<<32 + api.MsgReply, most} {
		wantBent(t, kinds(), api.ErrArg, func(m *api.Msg) { m.Kind = kind })
	}
	as := func(kind int) bend { return func(m *api.Msg) { m.Kind = kind } }
	wantBent(t, []func() api.Msg{single}, api.ErrArg, as(api.MsgDigest), as(api.MsgReply))
	wantBent(t, []func() api.Msg{digest, bare, reply}, api.ErrArg, as(api.MsgOp))
	wantBent(t, []func() api.Msg{reply}, api.ErrArg, as(api.MsgDigest))
	// What has vectors and no Ops is either of the two.
	wantBent(t, []func() api.Msg{digest, bare}, api.OK, as(api.MsgDigest), as(api.MsgReply))
}

func TestCheckOfASingleOp(t *testing.T) {
	wantBent(t, []func() api.Msg{single}, api.ErrArg,
		func(m *api.Msg) { m.Ops = nil },
		func(m *api.Msg) { m.Ops = []api.Op{} },
		func(m *api.Msg) { m.Ops = ops() },
		func(m *api.Msg) { m.Ops = append(m.Ops, insert()) },
		func(m *api.Msg) { m.Have = []int{70, 3, 4} },
		func(m *api.Msg) { m.Have = []int{0} },
		func(m *api.Msg) { m.Safe = []int{0, 0, 0} },
		func(m *api.Msg) { m.Safe = []int{0} },
		func(m *api.Msg) { m.Have, m.Safe = []int{70, 3, 4}, []int{0, 0, 0} })
	wantBent(t, []func() api.Msg{single}, api.OK,
		func(m *api.Msg) { m.Have, m.Safe = []int{}, []int{} },
		func(m *api.Msg) { m.Ops[0] = update() },
		func(m *api.Msg) { m.Ops[0] = remove() })
}

// No peer but the Op's own may have issued it, but each may send it.
func TestCheckOfAnOpOfAnother(t *testing.T) {
	wantBent(t, []func() api.Msg{single}, api.OK,
		func(m *api.Msg) { m.From, m.To = 2, 1 },
		func(m *api.Msg) { m.From, m.To = 0, 2 })
}

func TestCheckOfTheVectors(t *testing.T) {
	for _, of := range []func(m *api.Msg) *[]int{
		func(m *api.Msg) *[]int { return &m.Have },
		func(m *api.Msg) *[]int { return &m.Safe },
	} {
		wantBent(t, told(), api.ErrArg,
			func(m *api.Msg) { *of(m) = nil },
			func(m *api.Msg) { *of(m) = []int{} },
			func(m *api.Msg) { *of(m) = (*of(m))[:2] },
			func(m *api.Msg) { *of(m) = append(*of(m), 0) },
			func(m *api.Msg) { *of(m) = append(*of(m), 0, 0, 0) })
		for at := range 3 {
			for _, n := range []int{least, -1, api.MaxSeq + 1, 1 << 32, most} {
				wantBent(t, told(), api.ErrArg, func(m *api.Msg) { (*of(m))[at] = n })
			}
		}
	}
	wantBent(t, told(), api.ErrArg,
		func(m *api.Msg) { m.Have, m.Safe = nil, nil },
		func(m *api.Msg) { m.Have, m.Safe = []int{1, 1}, []int{1, 1} },
		func(m *api.Msg) { m.Have, m.Safe = []int{1, 1, 1, 1}, []int{1, 1, 1, 1} },
		func(m *api.Msg) { m.Have, m.Safe = []int{-1, 0, 0}, []int{-1, 0, 0} },
		func(m *api.Msg) { m.Have, m.Safe = []int{-1, 0, 0}, []int{-2, 0, 0} },
		func(m *api.Msg) { m.Have[2], m.Safe[2] = api.MaxSeq+1, api.MaxSeq+1 })
}

func TestCheckOfWhatIsSafe(t *testing.T) {
	for at := range 3 {
		set := func(have, safe int) bend { return func(m *api.Msg) { m.Have[at], m.Safe[at] = have, safe } }
		wantBent(t, told(), api.OK, set(0, 0), set(1, 0), set(1, 1), set(api.MaxSeq, 0), set(api.MaxSeq, api.MaxSeq-1), set(api.MaxSeq, api.MaxSeq))
		wantBent(t, told(), api.ErrArg, set(0, 1), set(1, 2), set(0, api.MaxSeq), set(api.MaxSeq-1, api.MaxSeq))
	}
	wantBent(t, told(), api.OK,
		func(m *api.Msg) { m.Safe = m.Have },
		func(m *api.Msg) { m.Safe = []int{0, 0, 0} },
		func(m *api.Msg) { m.Have, m.Safe = []int{0, 0, 0}, []int{0, 0, 0} })
	wantBent(t, told(), api.ErrArg, func(m *api.Msg) { m.Have, m.Safe = m.Safe, m.Have })
}

func TestCheckOfADigestsOps(t *testing.T) {
	wantBent(t, []func() api.Msg{digest}, api.ErrArg,
		func(m *api.Msg) { m.Ops = ops()[:1] },
		func(m *api.Msg) { m.Ops = ops() },
		func(m *api.Msg) { m.Ops = []api.Op{{}} })
	wantBent(t, []func() api.Msg{digest}, api.OK, func(m *api.Msg) { m.Ops = []api.Op{} })
}

// A reply's Ops are asked one by one: whether they are many, twice, or not had is all one.
func TestCheckOfAReplysOps(t *testing.T) {
	wantBent(t, []func() api.Msg{reply}, api.OK,
		func(m *api.Msg) { m.Ops = []api.Op{} },
		func(m *api.Msg) { m.Ops = ops()[:1] },
		func(m *api.Msg) { slices.Reverse(m.Ops) },
		func(m *api.Msg) { m.Ops = append(ops(), ops()...) },
		func(m *api.Msg) { m.Ops = slices.Repeat(ops(), 1000) },
		func(m *api.Msg) { m.Ops = slices.Repeat(ops()[:1], maxOps+1) },
		func(m *api.Msg) { m.Have, m.Safe = []int{0, 0, 0}, []int{0, 0, 0} })
}

// wrongOps has Ops with one thing bent, each by itself.
func wrongOps() []api.Op {
	var all []api.Op
	for _, way := range []func(x *api.Op){
		func(x *api.Op) { x.Dot.Peer = 3 },
		func(x *api.Op) { x.Dot.N = 2 },
		func(x *api.Op) { x.Deps = append(x.Deps, 0) },
		func(x *api.Op) { x.Deps[0] = -1 },
		func(x *api.Op) { x.Stamp.Peer = 2 },
		func(x *api.Op) { x.Stamp.Logic = api.MaxLogic + 1 },
		func(x *api.Op) { x.Kind = 0 },
		func(x *api.Op) { x.Kind = api.OpDelete + 1 },
		func(x *api.Op) { x.Table = 2 },
		func(x *api.Op) { x.Table = -1 },
		func(x *api.Op) { x.Key = "" },
		func(x *api.Op) { x.Col = 2 },
		func(x *api.Op) { x.Vals = slices.Repeat([]api.Value{num(api.MaxInt + 1)}, len(x.Vals)+1) },
		func(x *api.Op) { x.Dots = []api.Dot{{Peer: 1, N: 3}} },
	} {
		for _, x := range ops() {
			way(&x)
			all = append(all, x)
		}
	}
	return append(all, oddOps()...)
}

func TestCheckTellsOpsThatAreNotRight(t *testing.T) {
	for _, bad := range wrongOps() {
		wantBent(t, []func() api.Msg{single}, api.ErrArg, func(m *api.Msg) { m.Ops[0] = bad })
		for at := range ops() {
			wantBent(t, []func() api.Msg{reply}, api.ErrArg, func(m *api.Msg) { m.Ops[at] = bad })
		}
		wantBent(t, []func() api.Msg{reply}, api.ErrArg,
			func(m *api.Msg) { m.Ops = []api.Op{bad} },
			func(m *api.Msg) { m.Ops = append(slices.Repeat(ops(), 200), bad) })
	}
}

// An Op is right or not by the forms that are handed in.
func TestCheckGoesByTheForms(t *testing.T) {
	for _, of := range []func() api.Msg{single, reply} {
		wantCheck(t, 3, forms()[:1], of(), api.ErrArg)
		wantCheck(t, 3, []api.Table{forms()[1], forms()[0]}, of(), api.ErrArg)
		wantCheck(t, 3, append(forms(), forms()[0]), of(), api.OK)
	}
	wantCheck(t, 3, forms()[:1], digest(), api.OK)
	wantCheck(t, 3, forms()[:1], bare(), api.OK)
}

// P8.1: Bytes

func TestBytesByTheirPlaces(t *testing.T) {
	wantBytes(t, api.Msg{}, sealed(t, make([]byte, 7)), api.OK)
	wantBytes(t, api.Msg{Have: []int{}, Safe: []int{}, Ops: []api.Op{}}, sealed(t, make([]byte, 7)), api.OK)
	a, b := insert(), remove()
	m := api.Msg{Kind: 1, From: 2, To: 3, Have: []int{0x04050607, 0x08090a0b}, Safe: []int{0x0c0d0e0f, 0x10111213, 0x14151617}, Ops: []api.Op{a, b}}
	wantBytes(t, m, sealed(t, []byte{
		1, 2, 3,
		2, 4, 5, 6, 7, 8, 9, 10, 11,
		3, 12, 13, 14, 15, 16, 17, 18, 19, 20, 21, 22, 23,
		0, 2,
	}, opBytes(t, a), opBytes(t, b)), api.OK)
}

// A digest of two peers' vectors: 3 + 9 + 9 + 2 + 4 = 27 bytes.
func TestBytesOfTheExample(t *testing.T) {
	m := api.Msg{Kind: api.MsgDigest, From: 1, To: 0, Have: []int{3, 4}, Safe: []int{1, 2}}
	wantCheck(t, 2, forms(), m, api.OK)
	want := sealed(t, []byte{2, 1, 0, 2, 0, 0, 0, 3, 0, 0, 0, 4, 2, 0, 0, 0, 1, 0, 0, 0, 2, 0, 0})
	if len(want) != 27 {
		t.Errorf("got %d bytes", len(want))
	}
	wantBytes(t, m, want, api.OK)
}

func TestBytesOfTheGreatest(t *testing.T) {
	m := greatest()
	v := slices.Concat([]byte{api.MaxPeers}, bytes.Repeat([]byte{255}, 4*api.MaxPeers))
	wantBytes(t, m, sealed(t, []byte{255, 255, 255}, v, v, []byte{0, 3}, opBytes(t, m.Ops[0]), opBytes(t, m.Ops[1]), opBytes(t, m.Ops[2])), api.OK)
}

// places has each number that is written, by its place in a Msg, and the first that is too great for it.
func places() []struct {
	of   func(m *api.Msg) *int
	over int
} {
	return []struct {
		of   func(m *api.Msg) *int
		over int
	}{
		{func(m *api.Msg) *int { return &m.Kind }, 1 << 8},
		{func(m *api.Msg) *int { return &m.From }, 1 << 8},
		{func(m *api.Msg) *int { return &m.To }, 1 << 8},
		{func(m *api.Msg) *int { return &m.Have[0] }, 1 << 32},
		{func(m *api.Msg) *int { return &m.Have[len(m.Have)-1] }, 1 << 32},
		{func(m *api.Msg) *int { return &m.Safe[0] }, 1 << 32},
		{func(m *api.Msg) *int { return &m.Safe[len(m.Safe)-1] }, 1 << 32},
	}
}

func TestBytesOfEachNumber(t *testing.T) {
	for i, p := range places() {
		for _, of := range []func() api.Msg{digest, reply, greatest} {
			for _, n := range []int{least, -1, p.over, p.over + 1, most} {
				m := of()
				*p.of(&m) = n
				wantBytes(t, m, nil, api.ErrArg)
			}
			for _, n := range []int{0, 1, p.over / 2, p.over - 1} {
				m := of()
				*p.of(&m) = n
				b, e := msg.Bytes(m)
				got, readE := msg.Read(b)
				if e != api.OK || readE != api.OK || !same(got, m) {
					t.Errorf("number %d at %d: got %d, %d, %+v", i, n, e, readE, got)
				}
			}
		}
	}
}

func TestBytesOfAsManyAsMayBe(t *testing.T) {
	for n := range api.MaxPeers + 1 {
		v := append([]byte{byte(n)}, make([]byte, 4*n)...)
		wantBytes(t, api.Msg{Have: make([]int, n)}, sealed(t, make([]byte, 3), v, make([]byte, 3)), api.OK)
		wantBytes(t, api.Msg{Safe: make([]int, n)}, sealed(t, make([]byte, 4), v, make([]byte, 2)), api.OK)
	}
	for _, n := range []int{1, 2, 255, 256, 257, 2000} {
		wantBytes(t, api.Msg{Ops: make([]api.Op, n)}, sealed(t, make([]byte, 5), []byte{byte(n >> 8), byte(n)}, make([]byte, noughtOp*n)), api.OK)
	}
}

func TestBytesTellsTooMany(t *testing.T) {
	for _, of := range append(kinds(), greatest) {
		for _, n := range []int{api.MaxPeers + 1, api.MaxPeers + 2, 255, 256, 256 + 1, 1<<16 + 1} {
			have, safe := of(), of()
			have.Have = make([]int, n)
			safe.Safe = make([]int, n)
			wantRefused(t, have, api.ErrArg)
			wantRefused(t, safe, api.ErrArg)
		}
		for _, n := range []int{maxOps + 1, maxOps + 2, 2 * (maxOps + 1)} {
			m := of()
			m.Ops = make([]api.Op, n)
			wantRefused(t, m, api.ErrArg)
		}
		// So many may be told, but their bytes are too many to be sealed.
		m := of()
		m.Ops = make([]api.Op, maxOps)
		wantRefused(t, m, api.ErrLen)
	}
}

// unwritable has Ops that cannot be written.
func unwritable() []api.Op {
	return []api.Op{
		{Kind: -1}, {Kind: 256}, {Dot: api.Dot{Peer: 256}}, {Dot: api.Dot{N: 1 << 32}}, {Deps: make([]int, api.MaxPeers+1)}, {Deps: []int{-1}},
		{Stamp: api.Stamp{Phys: 1 << 48}}, {Table: -1}, {Key: strings.Repeat("k", api.MaxText+1)}, {Col: most}, {Vals: []api.Value{{}}},
		{Vals: slices.Repeat([]api.Value{num(1)}, api.MaxArity+1)}, {Dots: make([]api.Dot, api.MaxDots+1)}, {Dots: []api.Dot{{N: -1}}},
	}
}

func TestBytesTellsOpsThatCannotBeWritten(t *testing.T) {
	for _, bad := range unwritable() {
		if b, e := op.Bytes(bad); len(b) != 0 || e == api.OK {
			t.Fatalf("%+v is written", bad)
		}
		for _, of := range kinds() {
			for at := range len(of().Ops) + 1 {
				m := of()
				m.Ops = slices.Insert(m.Ops, at, bad)
				wantBytes(t, m, nil, api.ErrArg)
			}
		}
	}
}

// What is too long is told behind all that cannot be written.
func TestBytesTellsWhatCannotBeAheadOfWhatIsTooLong(t *testing.T) {
	for _, count := range []int{3000, maxOps} {
		for _, at := range []int{0, count / 2, count - 1} {
			for _, bad := range unwritable() {
				m := api.Msg{Ops: make([]api.Op, count)}
				m.Ops[at] = bad
				wantRefused(t, m, api.ErrArg)
			}
		}
		m := api.Msg{Kind: 256, Ops: make([]api.Op, count)}
		wantRefused(t, m, api.ErrArg)
	}
}

// ofSize has a Msg that is written in so many bytes, the sum too: Keys fill it up.
func ofSize(t *testing.T, size int) api.Msg {
	t.Helper()
	rest := size - sumSize - 7
	m := api.Msg{Ops: make([]api.Op, rest/noughtOp-2)}
	rest -= noughtOp * len(m.Ops)
	for i := 0; rest > 0; i++ {
		n := min(rest, api.MaxText)
		m.Ops[i].Key = strings.Repeat("k", n)
		rest -= n
	}
	return m
}

func TestBytesOfAsMuchAsCanBeSealed(t *testing.T) {
	for _, size := range []int{api.MaxBytes - 30, api.MaxBytes - 1, api.MaxBytes} {
		m := ofSize(t, size)
		b := written(t, m)
		if len(b) != size {
			t.Fatalf("got %d bytes, want %d", len(b), size)
		}
		wantRead(t, b, m, api.OK)
	}
	for _, size := range []int{api.MaxBytes + 1, api.MaxBytes + 2, api.MaxBytes + 30, 2 * api.MaxBytes} {
		wantRefused(t, ofSize(t, size), api.ErrLen)
	}
	full := noughts(0)
	wantRead(t, written(t, full), full, api.OK)
	wantRefused(t, noughts(1), api.ErrLen)
}

// P8.1: Read

func TestReadTellsWhatOpenTells(t *testing.T) {
	for n := range sumSize {
		wantRead(t, make([]byte, n), api.Msg{}, api.ErrLen)
	}
	wantRead(t, nil, api.Msg{}, api.ErrLen)
	wantRead(t, make([]byte, api.MaxBytes+1), api.Msg{}, api.ErrLen)
	wantRead(t, make([]byte, api.MaxBytes), api.Msg{}, api.ErrSum)
	wantRead(t, []byte{1, 2, 3, 4}, api.Msg{}, api.ErrSum)
	wantRead(t, append(written(t, ofSize(t, api.MaxBytes)), 0), api.Msg{}, api.ErrLen)
}

func TestReadTellsSumsThatAreNotRight(t *testing.T) {
	for _, m := range []api.Msg{{}, single(), digest(), reply(), greatest()} {
		b := written(t, m)
		for i := range b {
			for bit := range 8 {
				bent := bytes.Clone(b)
				bent[i] ^= 1 << bit
				wantRead(t, bent, api.Msg{}, api.ErrSum)
			}
		}
	}
}

// wantCut is for what is left of a Msg's bytes.
func wantCut(t *testing.T, b []byte) {
	t.Helper()
	want := api.ErrSum
	switch {
	case len(b) < sumSize:
		want = api.ErrLen
	case bytes.Equal(b, make([]byte, sumSize)):
		// The sum of nothing: it is right, but no Msg stands ahead of it.
		want = api.ErrBytes
	}
	wantRead(t, b, api.Msg{}, want)
}

func TestReadTellsBytesThatAreCutShort(t *testing.T) {
	for _, m := range writable() {
		b := written(t, m)
		for cut := range b {
			wantCut(t, b[:cut])
		}
		for _, x := range []byte{0, 1, 255} {
			wantRead(t, append(bytes.Clone(b), x), api.Msg{}, api.ErrSum)
		}
	}
}

func TestReadTellsWhatIsCutShortInside(t *testing.T) {
	for _, m := range writable() {
		b := body(t, m)
		for cut := range b {
			wantRead(t, sealed(t, b[:cut]), api.Msg{}, api.ErrBytes)
		}
	}
}

func TestReadTellsWhatStandsBehindAMsg(t *testing.T) {
	for _, m := range writable() {
		b := body(t, m)
		for _, more := range [][]byte{{0}, {1}, {255}, {0, 0}, make([]byte, noughtOp), opBytes(t, insert()), b} {
			wantRead(t, sealed(t, b, more), api.Msg{}, api.ErrBytes)
		}
	}
}

// Each count of numbers is read up to MaxPeers, where so many stand behind it, and no further.
func TestReadBoundsTheVectors(t *testing.T) {
	for count := range 256 {
		v := append([]byte{byte(count)}, bytes.Repeat([]byte{1}, 4*count)...)
		have, safe := sealed(t, []byte{1, 2, 3}, v, make([]byte, 3)), sealed(t, []byte{1, 2, 3, 0}, v, make([]byte, 2))
		if count > api.MaxPeers {
			wantRead(t, have, api.Msg{}, api.ErrBytes)
			wantRead(t, safe, api.Msg{}, api.ErrBytes)
			continue
		}
		numbers := slices.Repeat([]int{0x01010101}, count)
		wantRead(t, have, api.Msg{Kind: 1, From: 2, To: 3, Have: numbers}, api.OK)
		wantRead(t, safe, api.Msg{Kind: 1, From: 2, To: 3, Safe: numbers}, api.OK)
	}
}

func TestReadTellsMoreThanStandsThere(t *testing.T) {
	for there := range api.MaxPeers {
		for count := there + 1; count < 256; count++ {
			v := append([]byte{byte(count)}, make([]byte, 4*there)...)
			wantRead(t, sealed(t, make([]byte, 3), v), api.Msg{}, api.ErrBytes)
			wantRead(t, sealed(t, make([]byte, 4), v), api.Msg{}, api.ErrBytes)
		}
	}
	x := opBytes(t, insert())
	for _, there := range []int{0, 1, 2, 255} {
		for _, count := range []int{there + 1, there + 2, there + 256, 0xff00, maxOps} {
			b := sealed(t, make([]byte, 5), []byte{byte(count >> 8), byte(count)}, bytes.Repeat(x, there))
			wantRead(t, b, api.Msg{}, api.ErrBytes)
		}
	}
}

func TestReadTellsFewerThanStandThere(t *testing.T) {
	x := opBytes(t, insert())
	for there := 1; there < 4; there++ {
		for count := range there {
			wantRead(t, sealed(t, make([]byte, 5), []byte{0, byte(count)}, bytes.Repeat(x, there)), api.Msg{}, api.ErrBytes)
		}
	}
}

func TestReadTellsOpsThatCannotBeRead(t *testing.T) {
	good := opBytes(t, insert())
	// An Op with too many Deps; with a Key that is too long; with a Value of no kind; with too many Dots.
	for _, bad := range [][]byte{
		slices.Concat(make([]byte, 6), []byte{api.MaxPeers + 1}, make([]byte, 4*(api.MaxPeers+1)), make([]byte, 15)),
		slices.Concat(make([]byte, 18), []byte{api.MaxText + 1}, make([]byte, api.MaxText+1), make([]byte, 3)),
		slices.Concat(make([]byte, 20), []byte{1, 0, 0}),
		slices.Concat(make([]byte, 21), []byte{api.MaxDots + 1}, make([]byte, 5*(api.MaxDots+1))),
	} {
		wantRead(t, sealed(t, make([]byte, 5), []byte{0, 1}, bad), api.Msg{}, api.ErrBytes)
		wantRead(t, sealed(t, make([]byte, 5), []byte{0, 2}, bad, good), api.Msg{}, api.ErrBytes)
		wantRead(t, sealed(t, make([]byte, 5), []byte{0, 2}, good, bad), api.Msg{}, api.ErrBytes)
	}
}

// What is read need not be right: that is Check's to tell.
func TestReadTakesMsgsThatAreNotRight(t *testing.T) {
	m := api.Msg{Kind: 9, From: 255, To: 255, Have: []int{1}, Safe: []int{2, 1<<32 - 1}, Ops: oddOps()}
	wantCheck(t, 3, forms(), m, api.ErrArg)
	wantRead(t, written(t, m), m, api.OK)
}

// P8.2

func TestWhatIsWrittenIsRead(t *testing.T) {
	for _, m := range append(writable(), ofSize(t, api.MaxBytes), noughts(0)) {
		wantRead(t, written(t, m), m, api.OK)
	}
}

// Bytes that are read are those that would be written, with whatever in each of them.
func TestWhatIsReadIsWritten(t *testing.T) {
	for _, m := range []api.Msg{{}, single(), digest(), reply(), {Ops: make([]api.Op, 2)}} {
		b := body(t, m)
		for i := range b {
			for x := range 256 {
				bent := bytes.Clone(b)
				bent[i] = byte(x)
				whole := sealed(t, bent)
				got, e := msg.Read(whole)
				if e == api.OK {
					wantBytes(t, got, whole, api.OK)
				} else if e != api.ErrBytes || !same(got, api.Msg{}) {
					t.Errorf("%v: got %+v, %d", bent, got, e)
				}
			}
		}
	}
}

// R2

// roomy lays list into memory that goes on behind it, filled with x: it answers the list and all of the memory.
func roomy[T any](list []T, x T) (part, room []T) {
	room = slices.Repeat([]T{x}, len(list)+20)
	copy(room[2:], list)
	return room[2 : 2+len(list)], room
}

// anyMsgs has some that are right, can be written, or neither.
func anyMsgs() []api.Msg {
	all := append(writable(), api.Msg{Have: make([]int, 300), Safe: make([]int, 300)}, noughts(1))
	for _, p := range places() {
		m := reply()
		*p.of(&m) = -1
		all = append(all, m)
	}
	return append(all, api.Msg{Ops: unwritable()}, api.Msg{Kind: api.MsgReply, To: 1, Have: []int{1, 1, 1}, Safe: []int{0, 0, 0}, Ops: wrongOps()})
}

func TestWhatIsHandedInStaysAsItWas(t *testing.T) {
	for _, given := range anyMsgs() {
		m := given
		var haveRoom, safeRoom []int
		var opRoom []api.Op
		m.Have, haveRoom = roomy(given.Have, 77)
		m.Safe, safeRoom = roomy(given.Safe, 78)
		m.Ops, opRoom = roomy(given.Ops, update())
		have, safe, kept := slices.Clone(haveRoom), slices.Clone(safeRoom), slices.Clone(opRoom)
		msg.Check(3, forms(), m)
		msg.Bytes(m)
		if !slices.Equal(haveRoom, have) || !slices.Equal(safeRoom, safe) || !slices.EqualFunc(opRoom, kept, sameOp) {
			t.Errorf("%+v: what was handed in is written to", given)
		}
	}
}

func TestAnOpsListsStayAsTheyWere(t *testing.T) {
	x := remove()
	x.Vals = []api.Value{text("v")}
	want := x
	var depRoom []int
	var valRoom []api.Value
	var dotRoom []api.Dot
	x.Deps, depRoom = roomy(x.Deps, 77)
	x.Vals, valRoom = roomy(x.Vals, num(77))
	x.Dots, dotRoom = roomy(x.Dots, api.Dot{Peer: 77})
	deps, vals, dots := slices.Clone(depRoom), slices.Clone(valRoom), slices.Clone(dotRoom)
	for _, m := range []api.Msg{{Kind: api.MsgOp, To: 1, Ops: []api.Op{x}}, {Ops: []api.Op{x, x}}} {
		msg.Check(3, forms(), m)
		msg.Bytes(m)
	}
	if !sameOp(x, want) || !slices.Equal(depRoom, deps) || !slices.Equal(valRoom, vals) || !slices.Equal(dotRoom, dots) {
		t.Error("what was handed in is written to")
	}
}

func TestFormsStayAsTheyWere(t *testing.T) {
	cols, colRoom := roomy([]int{api.Int, api.Text}, 55)
	f, tableRoom := roomy([]api.Table{{Cols: []int{api.Bool}}, {Cols: cols}}, api.Table{})
	before := slices.Clone(colRoom)
	for _, of := range kinds() {
		wantCheck(t, 3, f, of(), api.OK)
	}
	if !slices.Equal(colRoom, before) || !slices.Equal(f[0].Cols, []int{api.Bool}) {
		t.Error("the types that were handed in are written to")
	}
	for i, table := range tableRoom {
		if i != 2 && i != 3 && table.Cols != nil {
			t.Error("the forms' spare room is written to")
		}
	}
}

func TestReadingLeavesWhatWasHandedIn(t *testing.T) {
	for _, m := range writable() {
		b, room := roomy(written(t, m), 42)
		before := bytes.Clone(room)
		for cut := range len(b) + 1 {
			msg.Read(b[:cut])
		}
		if !bytes.Equal(room, before) {
			t.Errorf("%+v: Read wrote into what was handed in", m)
		}
	}
}

// overwrite writes over all of an answer, its spare room too.
func overwrite[T any](list []T, x T) {
	list = list[:cap(list)]
	for i := range list {
		list[i] = x
	}
}

func TestWhatIsWrittenIsNewMemory(t *testing.T) {
	for _, m := range writable() {
		first, second := written(t, m), written(t, m)
		kept := bytes.Clone(second)
		for _, x := range second[len(second):cap(second)] {
			if x != 0 {
				t.Errorf("%+v: something lies behind the answer", m)
			}
		}
		overwrite(first, 99)
		if !bytes.Equal(second, kept) || !bytes.Equal(written(t, m), kept) {
			t.Errorf("%+v: two answers share memory", m)
		}
	}
}

// wantApart writes over each list of an answer by itself, its spare room too: nothing else of it may change.
func wantApart(t *testing.T, m, want api.Msg) {
	t.Helper()
	wipe := func(l []int, keep []int) {
		overwrite(l, 99)
		copy(l, keep)
		if !same(m, want) {
			t.Fatalf("two lists share memory: %+v", m)
		}
	}
	wipe(m.Have, want.Have)
	wipe(m.Safe, want.Safe)
	for i := range m.Ops {
		x, y := m.Ops[i], want.Ops[i]
		wipe(x.Deps, y.Deps)
		overwrite(x.Vals, num(99))
		copy(x.Vals, y.Vals)
		overwrite(x.Dots, api.Dot{Peer: 99, N: 99})
		copy(x.Dots, y.Dots)
		if !same(m, want) {
			t.Fatalf("two lists share memory: %+v", m)
		}
	}
}

func TestNoTwoListsOfAnAnswerShareMemory(t *testing.T) {
	for _, want := range writable() {
		m, e := msg.Read(written(t, want))
		if e != api.OK {
			t.Fatal(e)
		}
		wantApart(t, m, want)
		for _, x := range m.Ops[len(m.Ops):cap(m.Ops)] {
			if !sameOp(x, api.Op{}) {
				t.Errorf("%+v: something lies behind the answer", want)
			}
		}
	}
}

func TestWhatIsReadIsNewMemory(t *testing.T) {
	for _, want := range writable() {
		b := written(t, want)
		first, _ := msg.Read(b)
		second, _ := msg.Read(b)
		overwrite(first.Have, 99)
		overwrite(first.Safe, 99)
		for _, x := range first.Ops {
			overwrite(x.Deps, 99)
			overwrite(x.Vals, num(99))
			overwrite(x.Dots, api.Dot{Peer: 99, N: 99})
		}
		overwrite(first.Ops, update())
		wantRead(t, b, want, api.OK)
		clear(b)
		if !same(second, want) {
			t.Errorf("got %+v, want %+v", second, want)
		}
	}
}

// nil and an empty list mean the same.
func TestEmptyListsAreNone(t *testing.T) {
	for _, of := range kinds() {
		m, empty := of(), of()
		if m.Have == nil {
			empty.Have, empty.Safe = []int{}, []int{}
		}
		if m.Ops == nil {
			empty.Ops = []api.Op{}
		}
		wantCheck(t, 3, forms(), empty, api.OK)
		wantBytes(t, empty, written(t, m), api.OK)
	}
}

// R3

func TestAnswersHangOnArgumentsAlone(t *testing.T) {
	m := reply()
	before := written(t, m)
	for range 3 {
		msg.Bytes(api.Msg{Kind: -1})
		msg.Bytes(noughts(1))
		msg.Bytes(greatest())
		msg.Read([]byte{1, 2, 3, 4})
		msg.Read(nil)
		wantCheck(t, 2, forms(), m, api.ErrArg)
		wantCheck(t, 3, nil, m, api.ErrLen)
		wantCheck(t, 3, forms(), m, api.OK)
		wantBytes(t, m, before, api.OK)
		wantRead(t, before, m, api.OK)
	}
}

// R6

func TestNothingBehindTheLengthIsRead(t *testing.T) {
	for _, m := range writable() {
		b := written(t, m)
		for cut := range b {
			wantCut(t, b[:cut:len(b)])
		}
		wantRead(t, append(b, 1, 2, 3)[:len(b)], m, api.OK)
	}
	m := reply()
	m.Have = append(m.Have, -1)[:3]
	m.Safe = append(m.Safe, most)[:3]
	m.Ops = append(m.Ops, api.Op{Kind: -1})[:3]
	wantCheck(t, 3, append(forms(), api.Table{})[:2], m, api.OK)
	wantBytes(t, m, written(t, reply()), api.OK)
	m.Have = m.Have[:2]
	wantCheck(t, 3, forms(), m, api.ErrArg)
	one := single()
	one.Have, one.Safe, one.Ops = []int{1, 1, 1}[:0], []int{1, 1, 1}[:0], ops()[:1]
	wantCheck(t, 3, forms(), one, api.OK)
	one.Ops = one.Ops[:0]
	wantCheck(t, 3, forms(), one, api.ErrArg)
}
