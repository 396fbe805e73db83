package op_test

import (
	"bytes"
	"math"
	"slices"
	"strings"
	"testing"

	"raddle/api"
	"raddle/op"
	"raddle/row"
)

// least and most are the ends of what an int may be.
const (
	least = math.MinInt
	most  = math.MaxInt
)

func null() api.Value         { return api.Value{Kind: api.Null} }
func truth(i int) api.Value   { return api.Value{Kind: api.Bool, I: i} }
func num(i int) api.Value     { return api.Value{Kind: api.Int, I: i} }
func text(s string) api.Value { return api.Value{Kind: api.Text, S: s} }

// letters has n bytes.
func letters(n int) string { return strings.Repeat("k", n) }

// form is a table of these types.
func form(types ...int) api.Table { return api.Table{Cols: types} }

// forms has as many tables as may be, the last with as many columns as may be.
func forms() []api.Table {
	return []api.Table{form(api.Bool), form(api.Int, api.Text), form(api.Text, api.Int, api.Bool, api.Int)}
}

// dots has n, rising, of the peer 0.
func dots(n int) []api.Dot {
	l := make([]api.Dot, n)
	for i := range l {
		l[i] = api.Dot{N: i + 1}
	}
	return l
}

// insert, update and remove are right, of three peers and forms: the third operation of the peer 1.
func insert() api.Op {
	return api.Op{
		Dot: api.Dot{Peer: 1, N: 3}, Deps: []int{70, 2, 4}, Stamp: api.Stamp{Phys: 7, Logic: 5, Peer: 1},
		Kind: api.OpInsert, Table: 2, Key: "key", Vals: []api.Value{text("v"), num(-2), truth(1), null()},
	}
}

func update() api.Op {
	x := insert()
	x.Kind, x.Col, x.Vals = api.OpUpdate, 1, []api.Value{num(9)}
	return x
}

func remove() api.Op {
	x := insert()
	x.Kind, x.Vals, x.Dots = api.OpDelete, nil, []api.Dot{{Peer: 0, N: 70}, {Peer: 1, N: 1}, {Peer: 1, N: 2}, {Peer: 2, N: 4}}
	return x
}

// ofEachKind has a right Op of each kind.
func ofEachKind() []api.Op { return []api.Op{insert(), update(), remove()} }

// greatest has each number, text and list as great as it can be written.
func greatest() api.Op {
	d := api.Dot{Peer: 255, N: 1<<32 - 1}
	return api.Op{
		Dot: d, Deps: slices.Repeat([]int{1<<32 - 1}, api.MaxPeers), Stamp: api.Stamp{Phys: 1<<48 - 1, Logic: 1<<24 - 1, Peer: 255},
		Kind: 255, Table: 255, Key: letters(api.MaxText), Col: 255,
		Vals: slices.Repeat([]api.Value{text(letters(api.MaxText))}, api.MaxArity), Dots: slices.Repeat([]api.Dot{d}, api.MaxDots),
	}
}

// writable has Ops that can be written, right ones and others.
func writable() []api.Op {
	twice, unsorted, bare := remove(), remove(), remove()
	twice.Dots = slices.Repeat([]api.Dot{{Peer: 9, N: 0}}, 3)
	slices.Reverse(unsorted.Dots)
	bare.Dots = nil
	return append(ofEachKind(), api.Op{}, api.Op{Deps: []int{}, Vals: []api.Value{}, Dots: []api.Dot{}}, greatest(), twice, unsorted, bare, api.Op{
		Dot: api.Dot{Peer: 1, N: 0x02030405}, Deps: []int{0x06070809}, Stamp: api.Stamp{Phys: 0x0a0b0c0d0e0f, Logic: 0x101112, Peer: 0x13},
		Kind: 0x14, Table: 0x15, Key: "\x00\xff", Col: 0x16, Vals: []api.Value{num(-api.MaxValue), num(api.MaxValue)}, Dots: []api.Dot{{Peer: 0x17, N: 0x18191a1b}},
	})
}

// bend is something that is done to an Op.
type bend func(x *api.Op)

func same(a, b api.Op) bool {
	return a.Dot == b.Dot && slices.Equal(a.Deps, b.Deps) && a.Stamp == b.Stamp && a.Kind == b.Kind && a.Table == b.Table &&
		a.Key == b.Key && a.Col == b.Col && slices.Equal(a.Vals, b.Vals) && slices.Equal(a.Dots, b.Dots)
}

func wantForms(t *testing.T, f []api.Table, want api.Errno) {
	t.Helper()
	if e := op.Forms(f); e != want {
		t.Errorf("Forms(%v): got %d, want %d", f, e, want)
	}
}

func wantCheck(t *testing.T, n int, f []api.Table, x api.Op, want api.Errno) {
	t.Helper()
	if e := op.Check(n, f, x); e != want {
		t.Errorf("Check(%d, %v, %+v): got %d, want %d", n, f, x, e, want)
	}
}

// wantBent bends x, of three peers and forms, in each way by itself.
func wantBent(t *testing.T, x func() api.Op, want api.Errno, ways ...bend) {
	t.Helper()
	wantCheck(t, 3, forms(), x(), api.OK)
	for i, way := range ways {
		y := x()
		way(&y)
		if e := op.Check(3, forms(), y); e != want {
			t.Errorf("way %d: Check of %+v: got %d, want %d", i, y, e, want)
		}
	}
}

func wantBytes(t *testing.T, x api.Op, want []byte, wantE api.Errno) {
	t.Helper()
	b, e := op.Bytes(x)
	if !bytes.Equal(b, want) || e != wantE {
		t.Errorf("Bytes(%+v): got %v, %d; want %v, %d", x, b, e, want, wantE)
	}
}

func wantRead(t *testing.T, b []byte, at int, want api.Op, wantNext int, wantE api.Errno) {
	t.Helper()
	x, next, e := op.Read(b, at)
	if !same(x, want) || next != wantNext || e != wantE {
		t.Errorf("Read(%v, %d): got %+v, %d, %d; want %+v, %d, %d", b, at, x, next, e, want, wantNext, wantE)
	}
}

// written is for Ops that can be.
func written(t *testing.T, x api.Op) []byte {
	t.Helper()
	b, e := op.Bytes(x)
	if e != api.OK {
		t.Fatalf("Bytes(%+v): %d", x, e)
	}
	return b
}

// P7.1: Forms

func TestFormsThatAreRight(t *testing.T) {
	for tables := 1; tables <= api.MaxTables; tables++ {
		for cols := 1; cols <= api.MaxCols; cols++ {
			for _, typ := range []int{api.Bool, api.Int, api.Text} {
				wantForms(t, slices.Repeat([]api.Table{form(slices.Repeat([]int{typ}, cols)...)}, tables), api.OK)
			}
		}
	}
	wantForms(t, forms(), api.OK)
}

func TestFormsTellsTooFewAndTooMany(t *testing.T) {
	one, wide := form(api.Int), form(slices.Repeat([]int{api.Int}, api.MaxCols+1)...)
	wantForms(t, nil, api.ErrLen)
	wantForms(t, []api.Table{}, api.ErrLen)
	wantForms(t, slices.Repeat([]api.Table{one}, api.MaxTables+1), api.ErrLen)
	wantForms(t, slices.Repeat([]api.Table{one}, 256+1), api.ErrLen)
	for _, bad := range []api.Table{{}, {Cols: []int{}}, wide, form(slices.Repeat([]int{api.Int}, 256+1)...)} {
		wantForms(t, []api.Table{bad}, api.ErrLen)
		wantForms(t, []api.Table{bad, one, one}, api.ErrLen)
		wantForms(t, []api.Table{one, bad, one}, api.ErrLen)
		wantForms(t, []api.Table{one, one, bad}, api.ErrLen)
	}
}

func TestFormsTellsWhatIsNoType(t *testing.T) {
	for _, typ := range []int{least, -1, 0, api.Null, api.Text + 1, 256 + api.Int, 1<<32 + api.Int, most} {
		wantForms(t, []api.Table{form(typ)}, api.ErrType)
		for table := range api.MaxTables {
			for col := range api.MaxCols {
				f := make([]api.Table, api.MaxTables)
				for i := range f {
					f[i] = form(slices.Repeat([]int{api.Text}, api.MaxCols)...)
				}
				f[table].Cols[col] = typ
				wantForms(t, f, api.ErrType)
			}
		}
	}
}

func TestFormsTellsTheCountsAheadOfTheTypes(t *testing.T) {
	for _, typ := range []int{0, api.Null, api.Text + 1} {
		bad := form(typ)
		wide := form(slices.Repeat([]int{typ}, api.MaxCols+1)...)
		wantForms(t, []api.Table{bad, {}}, api.ErrLen)
		wantForms(t, []api.Table{{}, bad}, api.ErrLen)
		wantForms(t, []api.Table{bad, bad, {}}, api.ErrLen)
		wantForms(t, []api.Table{wide}, api.ErrLen)
		wantForms(t, []api.Table{bad, wide}, api.ErrLen)
		wantForms(t, slices.Repeat([]api.Table{bad}, api.MaxTables+1), api.ErrLen)
	}
}

// P7.1: Key

func TestKeyByItsLength(t *testing.T) {
	for n := range api.MaxText + 2 {
		for _, s := range []string{letters(n), strings.Repeat("\x00", n), strings.Repeat("\xff", n), strings.Repeat(" ", n)} {
			if got, want := op.Key(s), n >= 1 && n <= api.MaxKey; got != want {
				t.Errorf("Key(%q): got %t", s, got)
			}
		}
	}
	if op.Key(letters(256 + 1)) {
		t.Error("a text of 257 bytes is a key")
	}
}

// It is bytes that count, not letters: six of two bytes each are as many as may be.
func TestKeyCountsBytes(t *testing.T) {
	if !op.Key(strings.Repeat("é", api.MaxKey/2)) || op.Key(strings.Repeat("é", api.MaxKey/2)+"k") {
		t.Error("a key is not as long as its bytes")
	}
}

// P7.1: Check

func TestCheckTakesRightOps(t *testing.T) {
	for _, x := range ofEachKind() {
		wantCheck(t, 3, forms(), x, api.OK)
	}
}

func TestCheckTellsFormsErrorFirst(t *testing.T) {
	for _, n := range []int{least, 0, 3, api.MaxPeers + 1, most} {
		for _, x := range append(ofEachKind(), api.Op{}, api.Op{Table: -1}) {
			wantCheck(t, n, nil, x, api.ErrLen)
			wantCheck(t, n, make([]api.Table, api.MaxTables+1), x, api.ErrLen)
			wantCheck(t, n, []api.Table{form(api.Int), {}}, x, api.ErrLen)
			wantCheck(t, n, []api.Table{form(0), {}}, x, api.ErrLen)
			wantCheck(t, n, append(forms()[:2], form(api.Text, api.Int, api.Bool, api.Null)), x, api.ErrType)
		}
	}
}

// ofPeer bends x to be the first operation of a peer of n.
func ofPeer(n, peer int, x api.Op) api.Op {
	x.Dot = api.Dot{Peer: peer, N: 1}
	x.Deps = make([]int, n)
	x.Stamp.Peer = peer
	return x
}

func TestCheckOfEveryCountOfPeers(t *testing.T) {
	for n := 1; n <= api.MaxPeers; n++ {
		for peer := range n {
			for asked := -1; asked <= api.MaxPeers+1; asked++ {
				want := api.ErrArg
				if asked == n {
					want = api.OK
				}
				wantCheck(t, asked, forms(), ofPeer(n, peer, insert()), want)
				wantCheck(t, asked, forms(), ofPeer(n, peer, update()), want)
			}
		}
	}
}

func TestCheckTellsWrongCountsOfPeers(t *testing.T) {
	for _, n := range []int{least, -1, 0, api.MaxPeers + 1, 256 + 3, 1 << 32, most} {
		for _, x := range ofEachKind() {
			wantCheck(t, n, forms(), x, api.ErrArg)
			x.Deps = nil
			wantCheck(t, n, forms(), x, api.ErrArg)
		}
	}
	over := ofPeer(api.MaxPeers+1, 0, insert())
	wantCheck(t, api.MaxPeers+1, forms(), over, api.ErrArg)
	wantCheck(t, 0, forms(), ofPeer(0, 0, insert()), api.ErrArg)
}

// What holds of every kind is bent in each of them.
func wantBentInAll(t *testing.T, want api.Errno, ways ...bend) {
	t.Helper()
	wantBent(t, insert, want, ways...)
	wantBent(t, update, want, ways...)
	wantBent(t, remove, want, ways...)
}

func TestCheckOfTheDot(t *testing.T) {
	for _, peer := range []int{least, -1, 3, 4, api.MaxPeers, 256 + 1, most} {
		wantBentInAll(t, api.ErrArg,
			func(x *api.Op) { x.Dot.Peer = peer },
			func(x *api.Op) { x.Dot.Peer, x.Stamp.Peer = peer, peer })
	}
	// Another peer's dot must go with that peer's number, and its time.
	wantBentInAll(t, api.ErrArg,
		func(x *api.Op) { x.Dot.Peer = 2 },
		func(x *api.Op) { x.Dot = api.Dot{Peer: 2, N: 5} },
		func(x *api.Op) { x.Dot.Peer, x.Stamp.Peer = 2, 2 })
	wantBentInAll(t, api.OK, func(x *api.Op) { x.Dot, x.Stamp.Peer = api.Dot{Peer: 2, N: 5}, 2 })
	for _, n := range []int{least, -1, 0, 1, 2, 4, 5, 256 + 3, 1<<32 + 3, most} {
		wantBentInAll(t, api.ErrArg, func(x *api.Op) { x.Dot.N = n })
	}
}

func TestCheckOfTheDotsNumber(t *testing.T) {
	at := func(n, dep int) bend {
		return func(x *api.Op) { x.Dot.N, x.Deps[1] = n, dep }
	}
	for _, x := range []func() api.Op{insert, update} {
		wantBent(t, x, api.OK, at(1, 0), at(2, 1), at(api.MaxSeq-1, api.MaxSeq-2), at(api.MaxSeq, api.MaxSeq-1))
	}
	wantBentInAll(t, api.ErrArg, at(0, -1), at(0, 0), at(-1, -2), at(api.MaxSeq+1, api.MaxSeq), at(api.MaxSeq+2, api.MaxSeq+1),
		at(api.MaxSeq, api.MaxSeq), at(least, most), at(most, most-1), at(most, least), at(least+1, least))
}

func TestCheckOfTheDeps(t *testing.T) {
	wantBentInAll(t, api.ErrArg,
		func(x *api.Op) { x.Deps = nil },
		func(x *api.Op) { x.Deps = x.Deps[:2] },
		func(x *api.Op) { x.Deps = append(x.Deps, 0) },
		func(x *api.Op) { x.Deps = append(x.Deps, 0, 0) },
		func(x *api.Op) { x.Deps = append(x.Deps, 0, 0, 0) })
	for _, n := range []int{least, -1, api.MaxSeq + 1, 1 << 32, most} {
		wantBentInAll(t, api.ErrArg, func(x *api.Op) { x.Deps[0] = n }, func(x *api.Op) { x.Deps[2] = n })
	}
	for _, n := range []int{least, -1, 0, 1, 3, api.MaxSeq, most} {
		wantBentInAll(t, api.ErrArg, func(x *api.Op) { x.Deps[1] = n })
	}
	wantBentInAll(t, api.OK, func(x *api.Op) { x.Deps[0] = api.MaxSeq }, func(x *api.Op) { x.Deps[2] = api.MaxSeq })
	for _, x := range []func() api.Op{insert, update} {
		wantBent(t, x, api.OK, func(x *api.Op) { x.Deps[0], x.Deps[2] = 0, 0 })
	}
}

func TestCheckOfTheStamp(t *testing.T) {
	for _, n := range []int{least, -1, api.MaxPhys + 1, most} {
		wantBentInAll(t, api.ErrArg, func(x *api.Op) { x.Stamp.Phys = n })
	}
	for _, n := range []int{least, -1, api.MaxLogic + 1, most} {
		wantBentInAll(t, api.ErrArg, func(x *api.Op) { x.Stamp.Logic = n })
	}
	for _, n := range []int{least, -1, 0, 2, 3, api.MaxPeers, 256 + 1, most} {
		wantBentInAll(t, api.ErrArg, func(x *api.Op) { x.Stamp.Peer = n })
	}
	wantBentInAll(t, api.OK,
		func(x *api.Op) { x.Stamp.Phys, x.Stamp.Logic = 0, 0 },
		func(x *api.Op) { x.Stamp.Phys, x.Stamp.Logic = api.MaxPhys, api.MaxLogic })
}

func TestCheckOfTheKind(t *testing.T) {
	for _, kind := range []int{least, -1, 0, api.OpDelete + 1, 256 + api.OpInsert, 256 + api.OpUpdate, 256 + api.OpDelete, most} {
		wantBentInAll(t, api.ErrArg, func(x *api.Op) { x.Kind = kind })
	}
	for _, x := range ofEachKind() {
		for kind := api.OpInsert; kind <= api.OpDelete; kind++ {
			y := x
			y.Kind = kind
			if kind != x.Kind {
				wantCheck(t, 3, forms(), y, api.ErrArg)
			}
		}
	}
}

func TestCheckOfTheTable(t *testing.T) {
	for _, at := range []int{least, -1, api.MaxTables, api.MaxTables + 1, 256 + 2, most} {
		wantBentInAll(t, api.ErrArg, func(x *api.Op) { x.Table = at })
	}
	for at := range api.MaxTables {
		x := remove()
		x.Table = at
		wantCheck(t, 3, forms(), x, api.OK)
		if at > 0 {
			wantCheck(t, 3, forms()[:at], x, api.ErrArg)
		}
	}
}

func TestCheckOfTheKey(t *testing.T) {
	wantBentInAll(t, api.ErrArg,
		func(x *api.Op) { x.Key = "" },
		func(x *api.Op) { x.Key = letters(api.MaxKey + 1) },
		func(x *api.Op) { x.Key = letters(api.MaxText) },
		func(x *api.Op) { x.Key = letters(256 + 1) })
	wantBentInAll(t, api.OK,
		func(x *api.Op) { x.Key = "\x00" },
		func(x *api.Op) { x.Key = letters(api.MaxKey) })
}

func TestCheckOfWhatIsInserted(t *testing.T) {
	wantBent(t, insert, api.ErrArg,
		func(x *api.Op) { x.Col = 1 },
		func(x *api.Op) { x.Col = -1 },
		func(x *api.Op) { x.Col = most },
		func(x *api.Op) { x.Dots = dots(1) },
		func(x *api.Op) { x.Vals = nil },
		func(x *api.Op) { x.Vals = x.Vals[:3] },
		func(x *api.Op) { x.Vals = append(x.Vals, null()) },
		func(x *api.Op) { x.Vals[0], x.Vals[1] = x.Vals[1], x.Vals[0] },
		func(x *api.Op) { x.Table = 1 })
	wantBent(t, insert, api.OK,
		func(x *api.Op) { x.Dots = []api.Dot{} },
		func(x *api.Op) { x.Vals = slices.Repeat([]api.Value{null()}, 4) },
		func(x *api.Op) { x.Table, x.Vals = 0, []api.Value{truth(0)} },
		func(x *api.Op) { x.Table, x.Vals = 1, []api.Value{num(1), text("")} })
}

// valueCase is a Value, and which types' columns it may be put into.
type valueCase struct {
	v    api.Value
	into []int
}

func valueCases() []valueCase {
	return []valueCase{
		{null(), []int{api.Bool, api.Int, api.Text}},
		{truth(0), []int{api.Bool}}, {truth(1), []int{api.Bool}},
		{truth(2), nil}, {truth(-1), nil}, {api.Value{Kind: api.Bool, S: "x"}, nil},
		{num(0), []int{api.Int}}, {num(api.MaxInt), []int{api.Int}}, {num(-api.MaxInt), []int{api.Int}},
		{num(api.MaxInt + 1), nil}, {num(-api.MaxInt - 1), nil}, {num(api.MaxValue), nil}, {num(least), nil}, {api.Value{Kind: api.Int, S: "x"}, nil},
		{text(""), []int{api.Text}}, {text(letters(api.MaxText)), []int{api.Text}},
		{text(letters(api.MaxText + 1)), nil}, {api.Value{Kind: api.Text, I: 1}, nil},
		{api.Value{}, nil}, {api.Value{Kind: api.Text + 1}, nil}, {api.Value{Kind: api.Null, I: 1}, nil}, {api.Value{Kind: api.Null, S: "x"}, nil},
	}
}

func TestCheckOfEveryValueInEveryColumn(t *testing.T) {
	f := forms()
	for _, c := range valueCases() {
		for col, typ := range f[2].Cols {
			want := api.ErrArg
			if slices.Contains(c.into, typ) {
				want = api.OK
			}
			in, up := insert(), update()
			in.Vals[col] = c.v
			wantCheck(t, 3, f, in, want)
			up.Col, up.Vals = col, []api.Value{c.v}
			wantCheck(t, 3, f, up, want)
		}
	}
}

func TestCheckOfWhatIsUpdated(t *testing.T) {
	wantBent(t, update, api.ErrArg,
		func(x *api.Op) { x.Col = 0 },
		func(x *api.Op) { x.Col = 2 },
		func(x *api.Op) { x.Col, x.Vals[0] = 4, null() },
		func(x *api.Op) { x.Col, x.Vals[0] = -1, null() },
		func(x *api.Op) { x.Col, x.Vals[0] = least, null() },
		func(x *api.Op) { x.Col, x.Vals[0] = most, null() },
		func(x *api.Op) { x.Table, x.Col, x.Vals[0] = 0, 1, null() },
		func(x *api.Op) { x.Vals = nil },
		func(x *api.Op) { x.Vals = append(x.Vals, num(1)) },
		func(x *api.Op) { x.Vals = insert().Vals },
		func(x *api.Op) { x.Dots = dots(1) })
	wantBent(t, update, api.OK,
		func(x *api.Op) { x.Dots = []api.Dot{} },
		func(x *api.Op) { x.Col, x.Vals[0] = 0, text("t") },
		func(x *api.Op) { x.Col = 3 },
		func(x *api.Op) { x.Table, x.Col = 1, 0 },
		func(x *api.Op) { x.Table, x.Col, x.Vals[0] = 0, 0, truth(1) })
}

func TestCheckOfWhatIsDeleted(t *testing.T) {
	wantBent(t, remove, api.ErrArg,
		func(x *api.Op) { x.Col = 1 },
		func(x *api.Op) { x.Col = -1 },
		func(x *api.Op) { x.Vals = []api.Value{null()} },
		func(x *api.Op) { x.Vals = insert().Vals },
		func(x *api.Op) { x.Dots = nil },
		func(x *api.Op) { x.Dots = []api.Dot{} })
	wantBent(t, remove, api.OK,
		func(x *api.Op) { x.Vals = []api.Value{} },
		func(x *api.Op) { x.Dots = dots(1) })
}

func TestCheckOfDotsThatDoNotRise(t *testing.T) {
	for at := 1; at < 4; at++ {
		wantBent(t, remove, api.ErrArg,
			func(x *api.Op) { x.Dots[at], x.Dots[at-1] = x.Dots[at-1], x.Dots[at] },
			func(x *api.Op) { x.Dots[at] = x.Dots[at-1] },
			func(x *api.Op) { x.Dots[at-1] = x.Dots[at] })
	}
	wantBent(t, remove, api.ErrArg, func(x *api.Op) { x.Dots = []api.Dot{{Peer: 0, N: 5}, {Peer: 2, N: 1}, {Peer: 1, N: 2}} })
	// A peer's number counts ahead of the operation's: the second is behind the first.
	wantBent(t, remove, api.OK, func(x *api.Op) { x.Dots = []api.Dot{{Peer: 0, N: 5}, {Peer: 2, N: 1}} })
}

func TestCheckOfDotsThatDepsHaveNot(t *testing.T) {
	wantBent(t, remove, api.ErrArg,
		func(x *api.Op) { x.Dots[0].N = 71 },
		func(x *api.Op) { x.Dots[0].N = 0 },
		func(x *api.Op) { x.Dots[0].N = -1 },
		func(x *api.Op) { x.Dots[0].Peer = -1 },
		func(x *api.Op) { x.Dots[3].N = 5 },
		func(x *api.Op) { x.Dots[3].Peer = 3 },
		func(x *api.Op) { x.Dots[3].N = most },
		func(x *api.Op) { x.Dots[2].N = 3 },
		func(x *api.Op) { x.Dots = []api.Dot{x.Dot} },
		func(x *api.Op) { x.Dots = []api.Dot{{Peer: least, N: 1}} },
		func(x *api.Op) { x.Dots = []api.Dot{{Peer: most, N: 1}} },
		func(x *api.Op) { x.Dots = []api.Dot{{}} })
}

func TestCheckOfMaxDotsAndOfMore(t *testing.T) {
	for n := range api.MaxDots + 6 {
		want := api.ErrArg
		if n >= 1 && n <= api.MaxDots {
			want = api.OK
		}
		wantBent(t, remove, want, func(x *api.Op) { x.Dots = dots(n) })
	}
	wantBent(t, remove, api.ErrArg, func(x *api.Op) { x.Deps[0], x.Dots = 300, dots(256+1) })
}

// P7.2: Bytes

// nought has what Bytes makes of an Op of noughts; of a list that is empty its count stays.
func nought() []byte { return make([]byte, 1+5+1+10+1+1+1+1+1) }

func TestBytesByTheirPlaces(t *testing.T) {
	wantBytes(t, api.Op{}, nought(), api.OK)
	wantBytes(t, api.Op{Deps: []int{}, Vals: []api.Value{}, Dots: []api.Dot{}}, nought(), api.OK)
	wantBytes(t, api.Op{
		Kind: 1, Dot: api.Dot{Peer: 2, N: 0x03040506}, Deps: []int{0x0708090a, 0x0b0c0d0e},
		Stamp: api.Stamp{Phys: 0x0f1011121314, Logic: 0x151617, Peer: 0x18}, Table: 0x19, Key: "key", Col: 0x1a,
		Vals: []api.Value{null(), text("v")}, Dots: []api.Dot{{Peer: 0x1b, N: 0x1c1d1e1f}, {Peer: 0x20, N: 0x21222324}},
	}, []byte{
		1, 2, 3, 4, 5, 6,
		2, 7, 8, 9, 10, 11, 12, 13, 14,
		15, 16, 17, 18, 19, 20, 21, 22, 23, 24,
		25, 3, 'k', 'e', 'y', 26,
		2, 1, 4, 1, 'v',
		2, 27, 28, 29, 30, 31, 32, 33, 34, 35, 36,
	}, api.OK)
}

// An OpDelete without Dots is not right, but it can be written.
func TestBytesOfAnOpThatIsNotRight(t *testing.T) {
	x := remove()
	x.Dots = nil
	wantCheck(t, 3, forms(), x, api.ErrArg)
	b := written(t, x)
	wantRead(t, b, 0, x, len(b), api.OK)
}

func TestBytesOfTheGreatest(t *testing.T) {
	x := greatest()
	vals, e := row.Bytes(x.Vals)
	if e != api.OK {
		t.Fatal(e)
	}
	want := slices.Concat(
		bytes.Repeat([]byte{255}, 6), []byte{api.MaxPeers}, bytes.Repeat([]byte{255}, 4*api.MaxPeers), bytes.Repeat([]byte{255}, 11),
		[]byte{api.MaxText}, []byte(x.Key), []byte{255}, vals, []byte{api.MaxDots}, bytes.Repeat([]byte{255}, 5*api.MaxDots))
	wantBytes(t, x, want, api.OK)
}

// places has each number that is written, by its place in an Op, and the first that is too great for it.
func places() []struct {
	of   func(x *api.Op) *int
	over int
} {
	return []struct {
		of   func(x *api.Op) *int
		over int
	}{
		{func(x *api.Op) *int { return &x.Kind }, 1 << 8},
		{func(x *api.Op) *int { return &x.Dot.Peer }, 1 << 8},
		{func(x *api.Op) *int { return &x.Dot.N }, 1 << 32},
		{func(x *api.Op) *int { return &x.Deps[0] }, 1 << 32},
		{func(x *api.Op) *int { return &x.Deps[len(x.Deps)-1] }, 1 << 32},
		{func(x *api.Op) *int { return &x.Stamp.Phys }, 1 << 48},
		{func(x *api.Op) *int { return &x.Stamp.Logic }, 1 << 24},
		{func(x *api.Op) *int { return &x.Stamp.Peer }, 1 << 8},
		{func(x *api.Op) *int { return &x.Table }, 1 << 8},
		{func(x *api.Op) *int { return &x.Col }, 1 << 8},
		{func(x *api.Op) *int { return &x.Dots[0].Peer }, 1 << 8},
		{func(x *api.Op) *int { return &x.Dots[0].N }, 1 << 32},
		{func(x *api.Op) *int { return &x.Dots[len(x.Dots)-1].Peer }, 1 << 8},
		{func(x *api.Op) *int { return &x.Dots[len(x.Dots)-1].N }, 1 << 32},
	}
}

func TestBytesOfEachNumber(t *testing.T) {
	for i, p := range places() {
		for _, n := range []int{least, -1, p.over, p.over + 1, most} {
			for _, x := range []api.Op{remove(), greatest()} {
				*p.of(&x) = n
				wantBytes(t, x, nil, api.ErrArg)
			}
		}
		for _, n := range []int{0, 1, p.over / 2, p.over - 1} {
			for _, x := range []api.Op{remove(), greatest()} {
				*p.of(&x) = n
				b, e := op.Bytes(x)
				got, next, readE := op.Read(b, 0)
				if e != api.OK || readE != api.OK || *p.of(&got) != n || next != len(b) || !same(got, x) {
					t.Errorf("number %d at %d: got %d, %d, %+v", i, n, e, readE, got)
				}
			}
		}
	}
}

func TestBytesTellsTooMany(t *testing.T) {
	for _, of := range []func() api.Op{func() api.Op { return api.Op{} }, insert, update, remove, greatest} {
		for _, way := range []bend{
			func(x *api.Op) { x.Deps = slices.Repeat([]int{1}, api.MaxPeers+1) },
			func(x *api.Op) { x.Deps = slices.Repeat([]int{1}, 256) },
			func(x *api.Op) { x.Deps = slices.Repeat([]int{1}, 256+1) },
			func(x *api.Op) { x.Dots = dots(api.MaxDots + 1) },
			func(x *api.Op) { x.Dots = dots(255) },
			func(x *api.Op) { x.Dots = dots(256) },
			func(x *api.Op) { x.Dots = dots(256 + 1) },
			func(x *api.Op) { x.Key = letters(api.MaxText + 1) },
			func(x *api.Op) { x.Key = letters(256 + 1) },
			func(x *api.Op) { x.Vals = slices.Repeat([]api.Value{null()}, api.MaxArity+1) },
			func(x *api.Op) { x.Vals = slices.Repeat([]api.Value{null()}, 256+1) },
		} {
			x := of()
			way(&x)
			wantBytes(t, x, nil, api.ErrArg)
		}
	}
}

func TestBytesOfAsManyAsMayBe(t *testing.T) {
	for n := range api.MaxPeers + 1 {
		wantBytes(t, api.Op{Deps: make([]int, n)}, slices.Concat(nought()[:6], []byte{byte(n)}, make([]byte, 4*n), nought()[7:]), api.OK)
	}
	for n := range api.MaxDots + 1 {
		wantBytes(t, api.Op{Dots: make([]api.Dot, n)}, slices.Concat(nought()[:21], []byte{byte(n)}, make([]byte, 5*n)), api.OK)
	}
	for n := range api.MaxText + 1 {
		wantBytes(t, api.Op{Key: letters(n)}, slices.Concat(nought()[:18], []byte{byte(n)}, []byte(letters(n)), nought()[19:]), api.OK)
	}
	for n := range api.MaxArity + 1 {
		vals := slices.Repeat([]api.Value{null()}, n)
		wantBytes(t, api.Op{Vals: vals}, slices.Concat(nought()[:20], []byte{byte(n)}, bytes.Repeat([]byte{api.Null}, n), []byte{0}), api.OK)
	}
}

// Values that are too great to be put into a table can be written; those that are not right cannot.
func TestBytesWantsARightRow(t *testing.T) {
	for _, v := range []api.Value{num(api.MaxInt + 1), num(-api.MaxValue), num(api.MaxValue)} {
		x := api.Op{Vals: []api.Value{v}}
		b := written(t, x)
		wantRead(t, b, 0, x, len(b), api.OK)
	}
	for _, v := range []api.Value{{}, {Kind: 5}, truth(2), num(api.MaxValue + 1), num(least), {Kind: api.Null, I: 1}, {Kind: api.Int, S: "x"}, {Kind: api.Text, I: 1}, text(letters(api.MaxText + 1))} {
		for at := range api.MaxArity {
			x := greatest()
			x.Vals[at] = v
			wantBytes(t, x, nil, api.ErrArg)
		}
		wantBytes(t, api.Op{Vals: []api.Value{v}}, nil, api.ErrArg)
	}
}

// P7.2: Read

func TestReadFromEveryPlace(t *testing.T) {
	for _, x := range writable() {
		b := written(t, x)
		for ahead := range 5 {
			for behind := range 3 {
				all := slices.Concat(bytes.Repeat([]byte{200}, ahead), b, bytes.Repeat([]byte{201}, behind))
				wantRead(t, all, ahead, x, ahead+len(b), api.OK)
			}
		}
	}
}

func TestReadTellsWrongPlaces(t *testing.T) {
	for _, b := range [][]byte{nil, {}, {0}, nought(), written(t, insert()), {1, 255, 255}} {
		for _, at := range []int{-1, -2, least, len(b) + 1, len(b) + 2, most} {
			wantRead(t, b, at, api.Op{}, 0, api.ErrArg)
		}
		wantRead(t, b, len(b), api.Op{}, 0, api.ErrBytes)
	}
}

func TestReadTellsBytesThatAreCutShort(t *testing.T) {
	for _, x := range writable() {
		b := append([]byte{200}, written(t, x)...)
		for cut := 1; cut < len(b); cut++ {
			wantRead(t, b[:cut], 1, api.Op{}, 0, api.ErrBytes)
		}
	}
}

// Each count is told by its place in nought: that of Deps, of Key, of Vals, of Dots.
func TestReadBoundsTheCounts(t *testing.T) {
	for _, c := range []struct{ at, most, size int }{{6, api.MaxPeers, 4}, {18, api.MaxText, 1}, {20, api.MaxArity, 1}, {21, api.MaxDots, 5}} {
		for count := range 256 {
			// Each of what is counted is of ones: numbers, letters, and Nulls.
			b := slices.Concat(nought()[:c.at], []byte{byte(count)}, bytes.Repeat([]byte{1}, c.size*count), nought()[c.at+1:])
			x, next, e := op.Read(b, 0)
			if count > c.most {
				if e != api.ErrBytes || next != 0 || !same(x, api.Op{}) {
					t.Errorf("%d at %d: got %+v, %d, %d", count, c.at, x, next, e)
				}
				continue
			}
			if e != api.OK || next != len(b) || len(x.Deps)+len(x.Key)+len(x.Vals)+len(x.Dots) != count {
				t.Errorf("%d at %d: got %+v, %d, %d", count, c.at, x, next, e)
			}
		}
	}
}

func TestReadTellsValuesThatAreRefused(t *testing.T) {
	for _, bad := range [][]byte{{0}, {5}, {255}, {2, 2}, {3, 1, 0, 0, 0, 0, 0, 0, 0, 0}, {3, 2, 0, 0, 0, 0, 0, 0, 0, 1}, {3, 0, 16, 0, 0, 0, 0, 0, 0, 1}, append([]byte{4, api.MaxText + 1}, make([]byte, api.MaxText+1)...)} {
		b := slices.Concat(nought()[:20], []byte{1}, bad, make([]byte, 40))
		wantRead(t, b, 0, api.Op{}, 0, api.ErrBytes)
		b = slices.Concat(nought()[:20], []byte{2, 1}, bad, make([]byte, 40))
		wantRead(t, b, 0, api.Op{}, 0, api.ErrBytes)
	}
}

// P7.3

func TestWhatIsWrittenIsRead(t *testing.T) {
	for _, x := range writable() {
		b := written(t, x)
		wantRead(t, b, 0, x, len(b), api.OK)
	}
}

func TestManyOpsAreReadInTheirOrder(t *testing.T) {
	b := []byte{1, 2, 3}
	for _, x := range writable() {
		b = append(b, written(t, x)...)
	}
	at := 3
	for _, want := range writable() {
		x, next, e := op.Read(b, at)
		if !same(x, want) || e != api.OK {
			t.Fatalf("at %d: got %+v, %d; want %+v", at, x, e, want)
		}
		at = next
	}
	if at != len(b) {
		t.Errorf("got to %d of %d", at, len(b))
	}
}

// Bytes that are read are those that would be written, with whatever in each of them.
func TestWhatIsReadIsWritten(t *testing.T) {
	for _, x := range []api.Op{{}, insert(), update(), remove()} {
		b := append(written(t, x), make([]byte, 400)...)
		for i := range b[:len(b)-400] {
			for y := range 256 {
				bent := bytes.Clone(b)
				bent[i] = byte(y)
				got, next, e := op.Read(bent, 0)
				if e == api.OK {
					wantBytes(t, got, bent[:next], api.OK)
				} else if e != api.ErrBytes || next != 0 || !same(got, api.Op{}) {
					t.Errorf("%v: got %+v, %d, %d", bent, got, next, e)
				}
			}
		}
	}
}

// R2

// roomy lays list into memory that goes on behind it, filled with x: it answers the list and all of the memory.
func roomy[T any](list []T, x T) (part, room []T) {
	room = slices.Repeat([]T{x}, len(list)+20)
	copy(room[2:], list)
	return room[2 : 2+len(list)], room
}

// anyOps has some that are right, can be written, or neither.
func anyOps() []api.Op {
	all := writable()
	for _, p := range places() {
		for _, x := range []api.Op{remove(), greatest()} {
			*p.of(&x) = -1
			all = append(all, x)
		}
	}
	return append(all, api.Op{Deps: make([]int, 300), Dots: dots(300)}, api.Op{Vals: make([]api.Value, 20)})
}

func TestWhatIsHandedInStaysAsItWas(t *testing.T) {
	for _, given := range anyOps() {
		x := given
		var depRoom []int
		var valRoom []api.Value
		var dotRoom []api.Dot
		x.Deps, depRoom = roomy(given.Deps, 77)
		x.Vals, valRoom = roomy(given.Vals, num(77))
		x.Dots, dotRoom = roomy(given.Dots, api.Dot{Peer: 77})
		deps, vals, removed := slices.Clone(depRoom), slices.Clone(valRoom), slices.Clone(dotRoom)
		op.Check(3, forms(), x)
		op.Bytes(x)
		if !slices.Equal(depRoom, deps) || !slices.Equal(valRoom, vals) || !slices.Equal(dotRoom, removed) {
			t.Errorf("%+v: what was handed in is written to", given)
		}
	}
}

func TestFormsStayAsTheyWere(t *testing.T) {
	for _, types := range [][]int{{api.Int, api.Text}, {api.Int, 0}, {}, {api.Text, api.Int, api.Bool, api.Int}, make([]int, 9)} {
		cols, colRoom := roomy(types, 55)
		f, tableRoom := roomy([]api.Table{{Cols: cols}, form(api.Bool)}, api.Table{})
		before := slices.Clone(colRoom)
		op.Forms(f)
		for _, x := range ofEachKind() {
			for x.Table = range 2 {
				op.Check(3, f, x)
			}
		}
		if !slices.Equal(colRoom, before) || !slices.Equal(f[0].Cols, types) || !slices.Equal(f[1].Cols, []int{api.Bool}) {
			t.Errorf("%v: the types that were handed in are written to", types)
		}
		for i, table := range tableRoom {
			if i != 2 && i != 3 && table.Cols != nil {
				t.Errorf("%v: the forms' spare room is written to", types)
			}
		}
	}
}

func TestReadingLeavesWhatWasHandedIn(t *testing.T) {
	for _, x := range writable() {
		b, room := roomy(written(t, x), 42)
		before := bytes.Clone(room)
		for at := -1; at <= len(b)+1; at++ {
			op.Read(b, at)
		}
		if !bytes.Equal(room, before) {
			t.Errorf("%+v: Read wrote into what was handed in", x)
		}
	}
}

// overwrite writes over all of an answer, its spare room too.
func overwrite[T any](list []T, x T) {
	list = list[:cap(list)]
	for i := range list {
		list[i] = x
	}
}

func TestWhatIsWrittenIsNewMemory(t *testing.T) {
	for _, x := range writable() {
		first, second := written(t, x), written(t, x)
		kept := bytes.Clone(second)
		for _, b := range second[len(second):cap(second)] {
			if b != 0 {
				t.Errorf("%+v: something lies behind the answer", x)
			}
		}
		overwrite(first, 99)
		if !bytes.Equal(second, kept) || !bytes.Equal(written(t, x), kept) {
			t.Errorf("%+v: two answers share memory", x)
		}
	}
}

func TestWhatIsReadIsNewMemory(t *testing.T) {
	for _, want := range writable() {
		b := written(t, want)
		first, _, _ := op.Read(b, 0)
		second, _, _ := op.Read(b, 0)
		overwrite(first.Deps, 99)
		overwrite(first.Vals, num(99))
		overwrite(first.Dots, api.Dot{Peer: 99, N: 99})
		wantRead(t, b, 0, want, len(b), api.OK)
		clear(b)
		if !same(second, want) {
			t.Errorf("got %+v, want %+v", second, want)
		}
	}
}

// R3

func TestAnswersHangOnArgumentsAlone(t *testing.T) {
	x := insert()
	before := written(t, x)
	for range 3 {
		op.Bytes(api.Op{Kind: -1})
		op.Bytes(greatest())
		op.Read([]byte{1, 2, 3}, 0)
		op.Read(nil, 9)
		wantForms(t, nil, api.ErrLen)
		wantCheck(t, 2, forms(), x, api.ErrArg)
		wantCheck(t, 3, forms(), x, api.OK)
		wantBytes(t, x, before, api.OK)
		wantRead(t, before, 0, x, len(before), api.OK)
	}
}

// R6

func TestNothingBehindTheLengthIsRead(t *testing.T) {
	for _, x := range writable() {
		b := written(t, x)
		for cut := range b {
			wantRead(t, b[:cut:len(b)], 0, api.Op{}, 0, api.ErrBytes)
			wantRead(t, b[:cut:len(b)], cut+1, api.Op{}, 0, api.ErrArg)
		}
	}
	wantForms(t, append(forms(), api.Table{})[:api.MaxTables], api.OK)
	wantForms(t, []api.Table{{Cols: []int{api.Int, 0}[:1]}}, api.OK)
	wantForms(t, forms()[:0], api.ErrLen)
	x := remove()
	x.Deps = append(x.Deps, -1)[:3]
	x.Vals = []api.Value{{}}[:0]
	x.Dots = append(x.Dots, api.Dot{})[:4]
	wantCheck(t, 3, append(forms(), api.Table{})[:3], x, api.OK)
	wantBytes(t, x, written(t, remove()), api.OK)
	x.Deps = x.Deps[:2]
	wantCheck(t, 3, forms(), x, api.ErrArg)
}
