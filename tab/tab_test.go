package tab_test

import (
	"fmt"
	"math"
	"slices"
	"strings"
	"testing"

	"raddle/api"
	"raddle/tab"
)

// least and most are the ends of what an int may be.
const (
	least = math.MinInt
	most  = math.MaxInt
)

func null() api.Value         { return api.Value{Kind: api.Null} }
func truth(i int) api.Value   { return api.Value{Kind: api.Bool, I: i} }
func num(i int) api.Value     { return api.Value{Kind: api.Int, I: i} }
func text(s string) api.Value { return api.Value{Kind: api.Text, S: s} }

// letters has n bytes.
func letters(n int) string { return strings.Repeat("k", n) }

// form is of three columns, each of another type.
func form() api.Table { return api.Table{Cols: []int{api.Int, api.Text, api.Bool}} }

// wrongForms has too few columns and too many, and what is no type.
func wrongForms() []api.Table {
	all := []api.Table{{}, {Cols: []int{}}, {Cols: slices.Repeat([]int{api.Int}, api.MaxCols+1)}, {Cols: make([]int, api.MaxCols+1)}}
	for _, t := range []int{0, -1, api.Null, api.Text + 1, least, most} {
		all = append(all, api.Table{Cols: []int{t}}, api.Table{Cols: []int{t, api.Int, api.Int}}, api.Table{Cols: []int{api.Int, api.Text, api.Bool, t}})
	}
	return all
}

// by is the n-th operation of a peer.
func by(peer, n int) api.Dot { return api.Dot{Peer: peer, N: n} }

func dots(l ...api.Dot) []api.Dot { return l }

// cell was written by the n-th operation of a peer, at a time of that peer.
func cell(v api.Value, phys, logic, peer, n int) api.Cell {
	return api.Cell{Val: v, Stamp: api.Stamp{Phys: phys, Logic: logic, Peer: peer}, Dot: by(peer, n)}
}

// never was not written.
func never() api.Cell { return api.Cell{} }

// there is a row of form that is there; each of its fields says which one it is.
func there(key string) api.Row {
	return api.Row{
		Key:  key,
		Dots: dots(by(0, 2), by(0, 5), by(2, 1)),
		Cells: []api.Cell{
			cell(num(-7), 10, 3, 0, 2),
			cell(text("was "+key), 11, 0, 2, 1),
			cell(truth(1), 9, 1, 1, 4),
		},
	}
}

// dead is one of which a cell was never written.
func dead(key string) api.Row {
	return api.Row{Key: key, Cells: []api.Cell{cell(null(), 10, 3, 0, 2), never(), cell(truth(0), 9, 1, 1, 4)}}
}

// rows has rows of form of many ways: there and dead, written all, in part, and never.
func rows() []api.Row {
	one, whole, bare := there("n"), there("f"), dead("h")
	one.Dots = dots(by(4, api.MaxSeq))
	whole.Dots = nil
	bare.Cells = make([]api.Cell, 3)
	return []api.Row{there("b"), dead("d"), whole, bare, there("j"), dead("l"), one}
}

func sameRow(a, b api.Row) bool {
	return a.Key == b.Key && slices.Equal(a.Dots, b.Dots) && slices.Equal(a.Cells, b.Cells)
}

func same(a, b []api.Row) bool { return slices.EqualFunc(a, b, sameRow) }

func sameSeen(a, b [][]api.Value) bool {
	return slices.EqualFunc(a, b, func(x, y []api.Value) bool { return slices.Equal(x, y) })
}

// copied has l with nothing of its memory.
func copied(l []api.Row) []api.Row {
	var out []api.Row
	for _, r := range l {
		r.Dots, r.Cells = append([]api.Dot(nil), r.Dots...), append([]api.Cell(nil), r.Cells...)
		out = append(out, r)
	}
	return out
}

// shown is what is seen of r, as the chapter says.
func shown(r api.Row) []api.Value {
	if len(r.Dots) == 0 {
		return nil
	}
	all := []api.Value{text(r.Key)}
	for _, c := range r.Cells {
		all = append(all, c.Val)
	}
	return all
}

// shownAll has what is seen of each that is there.
func shownAll(l []api.Row) [][]api.Value {
	var all [][]api.Value
	for _, r := range l {
		if len(r.Dots) > 0 {
			all = append(all, shown(r))
		}
	}
	return all
}

func keys(l []api.Row) string {
	all := ""
	for _, r := range l {
		all += r.Key
	}
	return all
}

// wantRight asks all calls of a table that is right.
func wantRight(t *testing.T, what string, f api.Table, l []api.Row) {
	t.Helper()
	if e := tab.Check(f, l); e != api.OK {
		t.Errorf("%s: Check of %v: got %d", what, l, e)
	}
	if got := tab.Seen(f, l); !sameSeen(got, shownAll(l)) {
		t.Errorf("%s: Seen of %v: got %v", what, l, got)
	}
	if got, n, e := tab.Compact(f, l, []int{0}); len(got)+n != len(l) || e != api.OK {
		t.Errorf("%s: Compact of %v: got %v, %d, %d", what, l, got, n, e)
	}
}

// wantWrong asks all calls of a table, or a form, that is not right: they tell want.
func wantWrong(t *testing.T, what string, f api.Table, l []api.Row, want api.Errno) {
	t.Helper()
	if e := tab.Check(f, l); e != want {
		t.Errorf("%s: Check of %v, %v: got %d, want %d", what, f, l, e, want)
	}
	if got := tab.Seen(f, l); len(got) != 0 {
		t.Errorf("%s: Seen of %v, %v: got %v", what, f, l, got)
	}
	for _, frontier := range [][]int{{0}, {9, 9, 9, 9, 9}, nil, {-1}} {
		if got, n, e := tab.Compact(f, l, frontier); len(got) != 0 || n != 0 || e != want {
			t.Errorf("%s: Compact of %v, %v: got %v, %d, %d; want %d", what, f, l, got, n, e, want)
		}
	}
	for _, x := range append(ofEachKind(), api.Op{}) {
		if next, gone, come, e := tab.Apply(f, l, x); len(next)+len(gone)+len(come) != 0 || e != want {
			t.Errorf("%s: Apply to %v, %v: got %v, %v, %v, %d; want %d", what, f, l, next, gone, come, e, want)
		}
	}
}

// way is something that is done to a row.
type way struct {
	what string
	do   func(r *api.Row)
}

// bent has three rows, with that one bent.
func bent(of func(key string) api.Row, at int, w way) []api.Row {
	l := []api.Row{of("c"), of("f"), of("i")}
	w.do(&l[at])
	return l
}

// wantWays bends each of three rows in each way by itself.
func wantWays(t *testing.T, of func(key string) api.Row, want api.Errno, ways ...way) {
	t.Helper()
	for _, w := range ways {
		for at := range 3 {
			what := fmt.Sprintf("%s, row %d", w.what, at)
			if want == api.OK {
				wantRight(t, what, form(), bent(of, at, w))
			} else {
				wantWrong(t, what, form(), bent(of, at, w), want)
			}
		}
	}
}

// P13.1: Check

func TestCheckTakesRightTables(t *testing.T) {
	wantRight(t, "none", form(), nil)
	wantRight(t, "empty", form(), []api.Row{})
	wantRight(t, "of many ways", form(), rows())
	for i, r := range rows() {
		wantRight(t, fmt.Sprintf("row %d alone", i), form(), []api.Row{r})
	}
}

func TestCheckOfEveryCountOfColumns(t *testing.T) {
	types := []int{api.Bool, api.Text, api.Int, api.Int}
	vals := []api.Value{truth(0), text(""), num(0), null()}
	for n := 1; n <= api.MaxCols; n++ {
		r := api.Row{Key: "k", Dots: dots(by(0, 1))}
		for _, v := range vals[:n] {
			r.Cells = append(r.Cells, cell(v, 0, 0, 0, 1))
		}
		wantRight(t, "as many", api.Table{Cols: types[:n]}, []api.Row{r})
		if n < api.MaxCols {
			wantWrong(t, "one too few", api.Table{Cols: types[:n+1]}, []api.Row{r}, api.ErrArg)
		}
		if n > 1 {
			wantWrong(t, "one too many", api.Table{Cols: types[:n-1]}, []api.Row{r}, api.ErrArg)
		}
	}
}

// There is no bound of how many rows, or of how many dots of one.
func TestCheckOfManyRowsAndDots(t *testing.T) {
	var l []api.Row
	for i := range 2 * api.MaxRow {
		l = append(l, there(fmt.Sprintf("%08d", i)))
	}
	wantRight(t, "many rows", form(), l)
	r := there("k")
	r.Dots = nil
	for i := range 5 * api.MaxDots {
		r.Dots = append(r.Dots, by(3, i+1))
	}
	wantRight(t, "many dots", form(), []api.Row{r})
}

func TestCheckTellsTheFormFirst(t *testing.T) {
	wrong := []api.Row{there(""), {}, there("b"), there("a")}
	for _, f := range wrongForms() {
		wantWrong(t, "no rows", f, nil, api.ErrType)
		wantWrong(t, "right rows", f, rows(), api.ErrType)
		wantWrong(t, "wrong rows", f, wrong, api.ErrType)
	}
	wantWrong(t, "wrong rows of a right form", form(), wrong, api.ErrArg)
}

func TestCheckOfKeys(t *testing.T) {
	for _, key := range []string{"a", "\x00", "\xff", "\x00\x00", letters(api.MaxKey), "éééééé"} {
		wantRight(t, key, form(), []api.Row{there(key)})
		wantRight(t, key, form(), []api.Row{dead(key)})
	}
	for _, key := range []string{"", letters(api.MaxKey + 1), letters(api.MaxText), letters(300), "ééééééé"} {
		wantWrong(t, "alone", form(), []api.Row{there(key)}, api.ErrArg)
		wantWrong(t, "dead", form(), []api.Row{dead(key)}, api.ErrArg)
		wantWrong(t, "ahead", form(), []api.Row{there(key), there("z")}, api.ErrArg)
		wantWrong(t, "behind", form(), []api.Row{there("\x00"), there(key)}, api.ErrArg)
	}
}

// Keys rise by their bytes, not by what they mean.
func TestCheckOfTheOrderOfKeys(t *testing.T) {
	up := []string{"\x00", "\x00\x00", "10", "9", "A", "B", "Z", "a", "aa", "ab", "b", "z", "é", "\xff", "\xff\x00"}
	for i, a := range up {
		for j, b := range up {
			for _, l := range [][]api.Row{{there(a), there(b)}, {dead(a), dead(b)}, {there(a), dead(b)}, {dead(a), there(b)}} {
				if i < j {
					wantRight(t, "rising", form(), l)
				} else {
					wantWrong(t, "not rising", form(), l, api.ErrArg)
				}
			}
		}
	}
	for _, order := range []string{"aab", "abb", "aba", "bab", "bac", "acb", "cab", "bca", "cba", "abcdd", "abdcd", "abcda"} {
		var l []api.Row
		for _, key := range order {
			l = append(l, there(string(key)))
		}
		wantWrong(t, order, form(), l, api.ErrArg)
	}
}

// ofDots bends a row to have these.
func ofDots(l ...api.Dot) way {
	return way{fmt.Sprintf("dots %v", l), func(r *api.Row) { r.Dots = l }}
}

func TestCheckOfDots(t *testing.T) {
	last := api.MaxPeers - 1
	wantWays(t, there, api.OK,
		ofDots(), ofDots(by(0, 1)), ofDots(by(0, api.MaxSeq)), ofDots(by(last, 1)), ofDots(by(last, api.MaxSeq)),
		ofDots(by(0, 1), by(0, 2)), ofDots(by(0, 9), by(1, 1)), ofDots(by(0, 1), by(0, api.MaxSeq), by(last, 1), by(last, api.MaxSeq)))
	wantWays(t, there, api.ErrArg,
		ofDots(by(-1, 1)), ofDots(by(least, 1)), ofDots(by(api.MaxPeers, 1)), ofDots(by(most, 1)),
		ofDots(by(0, 0)), ofDots(by(0, -1)), ofDots(by(0, least)), ofDots(by(0, api.MaxSeq+1)), ofDots(by(0, most)),
		ofDots(by(last, 0)), ofDots(by(last, api.MaxSeq+1)),
		ofDots(by(-1, 1), by(0, 1)), ofDots(by(0, 1), by(api.MaxPeers, 1)), ofDots(by(0, 0), by(0, 1)), ofDots(by(0, 1), by(0, api.MaxSeq+1)),
		ofDots(by(0, 1), by(1, 0), by(2, 1)), ofDots(by(0, 1), by(1, api.MaxSeq+1), by(2, 1)))
}

func TestCheckOfTheOrderOfDots(t *testing.T) {
	wantWays(t, there, api.ErrArg,
		ofDots(by(0, 1), by(0, 1)), ofDots(by(0, 2), by(0, 1)), ofDots(by(1, 1), by(0, 1)), ofDots(by(1, 1), by(0, 2)),
		ofDots(by(0, 1), by(0, 2), by(0, 2)), ofDots(by(0, 1), by(0, 1), by(0, 2)), ofDots(by(0, 1), by(0, 2), by(0, 1)),
		ofDots(by(0, 1), by(2, 1), by(1, 1)), ofDots(by(2, 1), by(1, 1), by(0, 1)), ofDots(by(1, 2), by(1, 3), by(0, 9)))
}

func TestCheckOfHowManyCells(t *testing.T) {
	more := cell(num(1), 1, 1, 1, 1)
	ways := []way{
		{"none", func(r *api.Row) { r.Cells = nil }},
		{"one", func(r *api.Row) { r.Cells = r.Cells[:1] }},
		{"one too few", func(r *api.Row) { r.Cells = r.Cells[:2] }},
		{"one too many", func(r *api.Row) { r.Cells = append(r.Cells, more) }},
		{"two too many", func(r *api.Row) { r.Cells = append(r.Cells, more, more) }},
		{"one too many, never written", func(r *api.Row) { r.Cells = append(r.Cells, never()) }},
	}
	wantWays(t, there, api.ErrArg, ways...)
	wantWays(t, dead, api.ErrArg, ways...)
}

// ofCell bends that cell.
func ofCell(at int, what string, do func(c *api.Cell)) way {
	return way{fmt.Sprintf("cell %d: %s", at, what), func(r *api.Row) { do(&r.Cells[at]) }}
}

// A cell that was never written is noughts in each part.
func TestCheckOfCellsNeverWritten(t *testing.T) {
	bare := func(key string) api.Row { return api.Row{Key: key, Cells: make([]api.Cell, 3)} }
	wantWays(t, bare, api.OK, way{"as it is", func(*api.Row) {}})
	for at := range 3 {
		wantWays(t, bare, api.ErrArg,
			ofCell(at, "kind", func(c *api.Cell) { c.Val.Kind = api.Null }),
			ofCell(at, "kind that fits", func(c *api.Cell) { c.Val.Kind = form().Cols[at] }),
			ofCell(at, "kind below", func(c *api.Cell) { c.Val.Kind = -1 }),
			ofCell(at, "number", func(c *api.Cell) { c.Val.I = 1 }),
			ofCell(at, "text", func(c *api.Cell) { c.Val.S = "x" }),
			ofCell(at, "phys", func(c *api.Cell) { c.Stamp.Phys = 1 }),
			ofCell(at, "logic", func(c *api.Cell) { c.Stamp.Logic = 1 }),
			ofCell(at, "stamp's peer", func(c *api.Cell) { c.Stamp.Peer = 1 }),
			ofCell(at, "dot's peer", func(c *api.Cell) { c.Dot.Peer = 1 }),
			ofCell(at, "dot's peer below", func(c *api.Cell) { c.Dot.Peer = -1 }),
			ofCell(at, "dot's number", func(c *api.Cell) { c.Dot.N = 1 }),
			ofCell(at, "all but the dot", func(c *api.Cell) { *c = cell(null(), 1, 1, 0, 1); c.Dot = api.Dot{} }),
			ofCell(at, "all but the value", func(c *api.Cell) { *c = cell(api.Value{}, 1, 1, 1, 1) }))
	}
}

// Of a row that is there each cell is written; of a dead one any may be.
func TestCheckOfRowsWithCellsNeverWritten(t *testing.T) {
	for mask := range 8 {
		take := way{fmt.Sprintf("without %b", mask), func(r *api.Row) {
			for at := range r.Cells {
				if mask>>at&1 == 1 {
					r.Cells[at] = never()
				}
			}
		}}
		kill := way{take.what + ", dead", func(r *api.Row) { take.do(r); r.Dots = nil }}
		wantWays(t, there, api.OK, kill)
		if mask > 0 {
			wantWays(t, there, api.ErrArg, take)
		}
	}
	wantWays(t, dead, api.ErrArg, ofDots(by(0, 1)))
}

// valueCase is a Value, and whether it may stand in columns of Int, of Text and of Bool.
type valueCase struct {
	v    api.Value
	fits [3]bool
}

func valueCases() []valueCase {
	every, anInt, aText, aBool, none := [3]bool{true, true, true}, [3]bool{true}, [3]bool{1: true}, [3]bool{2: true}, [3]bool{}
	return []valueCase{
		{null(), every},
		{num(0), anInt}, {num(-1), anInt}, {num(api.MaxInt), anInt}, {num(-api.MaxInt), anInt},
		{text(""), aText}, {text("x"), aText}, {text(letters(api.MaxText)), aText},
		{truth(0), aBool}, {truth(1), aBool},
		{num(api.MaxInt + 1), none}, {num(-api.MaxInt - 1), none}, {num(api.MaxValue), none}, {num(-api.MaxValue), none},
		{num(api.MaxValue + 1), none}, {num(least), none}, {num(most), none},
		{text(letters(api.MaxText + 1)), none}, {truth(2), none}, {truth(-1), none},
		{api.Value{Kind: api.Null, I: 1}, none}, {api.Value{Kind: api.Null, S: "x"}, none},
		{api.Value{Kind: api.Int, S: "x"}, none}, {api.Value{Kind: api.Bool, S: "x"}, none}, {api.Value{Kind: api.Text, I: 1}, none},
		{api.Value{}, none}, {api.Value{Kind: 5}, none}, {api.Value{Kind: -1}, none}, {api.Value{Kind: least}, none}, {api.Value{Kind: most}, none},
	}
}

func TestCheckOfEveryValueInEveryCell(t *testing.T) {
	for _, c := range valueCases() {
		for at, fits := range c.fits {
			want := api.ErrArg
			if fits {
				want = api.OK
			}
			put := way{fmt.Sprintf("%+v in cell %d", c.v, at), func(r *api.Row) { r.Cells[at].Val = c.v }}
			wantWays(t, there, want, put)
			whole := way{put.what + ", dead", func(r *api.Row) { put.do(r); r.Dots = nil }}
			wantWays(t, there, want, whole)
		}
	}
}

func TestCheckOfStamps(t *testing.T) {
	for at := range 3 {
		for _, n := range []int{0, 1, api.MaxPhys} {
			wantWays(t, there, api.OK, ofCell(at, "phys", func(c *api.Cell) { c.Stamp.Phys = n }))
		}
		for _, n := range []int{0, 1, api.MaxLogic} {
			wantWays(t, there, api.OK, ofCell(at, "logic", func(c *api.Cell) { c.Stamp.Logic = n }))
		}
		for _, n := range []int{0, 1, api.MaxPeers - 1} {
			wantWays(t, there, api.OK, ofCell(at, "peer", func(c *api.Cell) { c.Stamp.Peer = n }))
		}
		for _, n := range []int{-1, least, api.MaxPhys + 1, most} {
			wantWays(t, there, api.ErrArg, ofCell(at, "phys", func(c *api.Cell) { c.Stamp.Phys = n }))
		}
		for _, n := range []int{-1, least, api.MaxLogic + 1, most} {
			wantWays(t, there, api.ErrArg, ofCell(at, "logic", func(c *api.Cell) { c.Stamp.Logic = n }))
		}
		for _, n := range []int{-1, least, api.MaxPeers, most} {
			wantWays(t, there, api.ErrArg, ofCell(at, "peer", func(c *api.Cell) { c.Stamp.Peer = n }))
		}
	}
}

func TestCheckOfTheDotsOfCells(t *testing.T) {
	for at := range 3 {
		for _, d := range dots(by(0, 1), by(0, api.MaxSeq), by(api.MaxPeers-1, 1), by(api.MaxPeers-1, api.MaxSeq)) {
			wantWays(t, there, api.OK, ofCell(at, "dot", func(c *api.Cell) { c.Dot = d }))
		}
		for _, d := range dots(by(-1, 1), by(least, 1), by(api.MaxPeers, 1), by(most, 1), by(1, 0), by(0, -1), by(0, least), by(0, api.MaxSeq+1), by(0, most), by(0, 0)) {
			wantWays(t, there, api.ErrArg, ofCell(at, "dot", func(c *api.Cell) { c.Dot = d }))
		}
	}
}

// P13.1: Find

func wantFind(t *testing.T, l []api.Row, key string, want int) {
	t.Helper()
	if got := tab.Find(l, key); got != want {
		t.Errorf("Find(%v, %q): got %d, want %d", l, key, got, want)
	}
}

func TestFind(t *testing.T) {
	for i, r := range rows() {
		wantFind(t, rows(), r.Key, i)
	}
	for _, key := range []string{"", "a", "aa", "c", "bb", "m", "na", "o", "z", "\xff", letters(api.MaxKey + 1), letters(300)} {
		wantFind(t, rows(), key, -1)
		wantFind(t, nil, key, -1)
		wantFind(t, []api.Row{}, key, -1)
	}
	wantFind(t, rows()[:1], "b", 0)
	wantFind(t, rows()[:1], "d", -1)
}

// Tables that are not right have places too: the first one is told.
func TestFindOfAny(t *testing.T) {
	long := letters(300)
	l := []api.Row{there("m"), {Key: "c"}, there("z"), there(""), there("c"), {Key: long}, there("a"), there("m"), {Key: long}, there("z")}
	for key, want := range map[string]int{"m": 0, "c": 1, "z": 2, "": 3, long: 5, "a": 6, "b": -1, "M": -1, "mm": -1, long[1:]: -1} {
		wantFind(t, l, key, want)
	}
	wantFind(t, make([]api.Row, 4), "", 0)
	wantFind(t, make([]api.Row, 4), "a", -1)
}

// P13.1: Dead

func wantDead(t *testing.T, l []api.Row, want int) {
	t.Helper()
	if got := tab.Dead(l); got != want {
		t.Errorf("Dead(%v): got %d, want %d", l, got, want)
	}
}

func TestDead(t *testing.T) {
	wantDead(t, nil, 0)
	wantDead(t, []api.Row{}, 0)
	wantDead(t, []api.Row{there("a")}, 0)
	wantDead(t, []api.Row{dead("a")}, 1)
	wantDead(t, []api.Row{there("a"), there("b"), there("c")}, 0)
	wantDead(t, []api.Row{dead("a"), there("b"), dead("c")}, 2)
	wantDead(t, []api.Row{there("a"), dead("b"), there("c")}, 1)
	wantDead(t, rows(), 4)
	empty := there("a")
	empty.Dots = []api.Dot{}
	wantDead(t, []api.Row{empty, dead("b"), there("c")}, 2)
}

// Dead counts rows that are not right too.
func TestDeadOfAny(t *testing.T) {
	wantDead(t, make([]api.Row, 5), 5)
	wantDead(t, []api.Row{{Key: "z"}, {Key: "a", Dots: dots(by(-1, 0))}, {Key: "z", Dots: make([]api.Dot, 2)}, {}}, 2)
}

// P13.3: Seen

func wantSeen(t *testing.T, f api.Table, l []api.Row, want ...[]api.Value) {
	t.Helper()
	if got := tab.Seen(f, l); !sameSeen(got, want) {
		t.Errorf("Seen(%v, %v): got %v, want %v", f, l, got, want)
	}
}

func TestSeenIsOfRowsThatAreThere(t *testing.T) {
	wantSeen(t, form(), nil)
	wantSeen(t, form(), []api.Row{dead("a"), dead("b")})
	b := []api.Value{text("b"), num(-7), text("was b"), truth(1)}
	j := []api.Value{text("j"), num(-7), text("was j"), truth(1)}
	n := []api.Value{text("n"), num(-7), text("was n"), truth(1)}
	wantSeen(t, form(), rows(), b, j, n)
	wantSeen(t, form(), rows()[:4], b)
	wantSeen(t, form(), rows()[1:4])
	wantSeen(t, form(), rows()[1:], j, n)
}

func TestSeenHasEachCellsValue(t *testing.T) {
	f := api.Table{Cols: []int{api.Text, api.Int, api.Bool, api.Int}}
	key := letters(api.MaxKey)
	r := api.Row{Key: key, Dots: dots(by(1, 1)), Cells: []api.Cell{cell(null(), 1, 0, 1, 1), cell(num(api.MaxInt), 1, 0, 1, 1), cell(null(), 3, 0, 2, 8), cell(num(-api.MaxInt), 1, 0, 1, 1)}}
	wantSeen(t, f, []api.Row{r}, []api.Value{text(key), null(), num(api.MaxInt), null(), num(-api.MaxInt)})
	one := api.Row{Key: "\x00", Dots: dots(by(1, 1)), Cells: []api.Cell{cell(truth(0), 1, 0, 1, 1)}}
	wantSeen(t, api.Table{Cols: []int{api.Bool}}, []api.Row{one}, []api.Value{text("\x00"), truth(0)})
}

// One row that is not right, and nothing is seen of all.
func TestSeenOfATableThatIsNotRight(t *testing.T) {
	for at := range rows() {
		l := rows()
		l[at].Cells[0].Stamp.Phys = -1
		wantSeen(t, form(), l)
	}
	wantSeen(t, form(), append(rows(), there("a")))
	wantSeen(t, api.Table{}, rows())
	wantSeen(t, api.Table{Cols: []int{api.Int, api.Int, api.Bool}}, rows())
}

// P13.3: Compact

func wantCompact(t *testing.T, l []api.Row, frontier []int, want string) {
	t.Helper()
	var left []api.Row
	for _, r := range l {
		if strings.Contains(want, r.Key) {
			left = append(left, r)
		}
	}
	got, n, e := tab.Compact(form(), l, frontier)
	if !same(got, left) || n != len(l)-len(left) || e != api.OK {
		t.Errorf("Compact(%s, %v): got %s, %d, %d; want %s", keys(l), frontier, keys(got), n, e, want)
	}
	if !sameSeen(tab.Seen(form(), got), tab.Seen(form(), l)) {
		t.Errorf("Compact(%s, %v): another thing is seen", keys(l), frontier)
	}
}

func wantCompactRefused(t *testing.T, f api.Table, l []api.Row, frontier []int, want api.Errno) {
	t.Helper()
	if got, n, e := tab.Compact(f, l, frontier); len(got) != 0 || n != 0 || e != want {
		t.Errorf("Compact(%v, %v, %v): got %v, %d, %d; want %d", f, l, frontier, got, n, e, want)
	}
}

func TestCompactTellsTheFrontierLast(t *testing.T) {
	long := make([]int, api.MaxPeers+1)
	for _, frontier := range [][]int{nil, {}, long, slices.Repeat([]int{-1}, api.MaxPeers+1)} {
		wantCompactRefused(t, api.Table{}, []api.Row{{}}, frontier, api.ErrType)
		wantCompactRefused(t, form(), []api.Row{{}}, frontier, api.ErrArg)
		wantCompactRefused(t, form(), rows(), frontier, api.ErrLen)
		wantCompactRefused(t, form(), nil, frontier, api.ErrLen)
	}
	for n := 1; n <= api.MaxPeers; n++ {
		for _, x := range []int{-1, least, api.MaxSeq + 1, most} {
			for at := range n {
				frontier := make([]int, n)
				frontier[at] = x
				wantCompactRefused(t, api.Table{Cols: []int{api.Null}}, rows(), frontier, api.ErrType)
				wantCompactRefused(t, form(), []api.Row{there("b"), there("a")}, frontier, api.ErrArg)
				wantCompactRefused(t, form(), rows(), frontier, api.ErrArg)
				wantCompactRefused(t, form(), nil, frontier, api.ErrArg)
			}
		}
	}
}

func TestCompactOfNoRows(t *testing.T) {
	for n := 1; n <= api.MaxPeers; n++ {
		wantCompact(t, nil, make([]int, n), "")
		wantCompact(t, []api.Row{}, slices.Repeat([]int{api.MaxSeq}, n), "")
	}
}

// A dead row that was never written goes, whatever the frontier; one that is there stays.
func TestCompactByTheFrontier(t *testing.T) {
	// f was written by (0, 2), (2, 1) and (1, 4); d and l by (0, 2) and (1, 4); h never.
	for _, c := range []struct {
		frontier []int
		want     string
	}{
		{[]int{0}, "bdfjln"},
		{[]int{0, 0, 0}, "bdfjln"},
		{[]int{2}, "bdfjln"},
		{[]int{api.MaxSeq}, "bdfjln"},
		{[]int{1, 4}, "bdfjln"},
		{[]int{2, 3}, "bdfjln"},
		{[]int{2, 4}, "bfjn"},
		{[]int{2, 4, 0}, "bfjn"},
		{[]int{api.MaxSeq, api.MaxSeq, 0, api.MaxSeq, api.MaxSeq}, "bfjn"},
		{[]int{2, 3, 1}, "bdfjln"},
		{[]int{1, 4, 1}, "bdfjln"},
		{[]int{0, 4, 1}, "bdfjln"},
		{[]int{2, 4, 1}, "bjn"},
		{[]int{3, 5, 2}, "bjn"},
		{[]int{api.MaxSeq, api.MaxSeq, api.MaxSeq, api.MaxSeq, api.MaxSeq}, "bjn"},
		{[]int{4, 2, 1}, "bdfjln"},
	} {
		wantCompact(t, rows(), c.frontier, c.want)
		for _, r := range rows() {
			wantCompact(t, []api.Row{r}, c.frontier, c.want)
		}
	}
}

func TestCompactAtTheEnds(t *testing.T) {
	last := api.MaxPeers - 1
	r := api.Row{Key: "k", Cells: []api.Cell{never(), never(), cell(null(), 0, 0, last, api.MaxSeq)}}
	frontier := make([]int, api.MaxPeers)
	for _, n := range []int{0, 1, api.MaxSeq - 1} {
		frontier[last] = n
		wantCompact(t, []api.Row{r}, frontier, "k")
	}
	frontier[last] = api.MaxSeq
	wantCompact(t, []api.Row{r}, frontier, "")
	wantCompact(t, []api.Row{r}, frontier[:last], "k")
	first := api.Row{Key: "k", Cells: []api.Cell{cell(null(), 0, 0, 0, 1), never(), never()}}
	wantCompact(t, []api.Row{first}, []int{0}, "k")
	wantCompact(t, []api.Row{first}, []int{1}, "")
}

// Each cell counts, at whatever place: one that the frontier has not keeps the row.
func TestCompactAsksEachCell(t *testing.T) {
	for at := range 3 {
		r := there("k")
		r.Dots = nil
		for i := range r.Cells {
			r.Cells[i] = cell(null(), 1, 0, 1, 5)
		}
		wantCompact(t, []api.Row{r}, []int{0, 5}, "")
		r.Cells[at].Dot = by(0, 1)
		wantCompact(t, []api.Row{r}, []int{0, 5}, "k")
		wantCompact(t, []api.Row{r}, []int{1, 5}, "")
		// It is the cell's dot that counts, not its time's peer.
		r.Cells[at].Stamp.Peer = 4
		wantCompact(t, []api.Row{r}, []int{1, 5}, "")
	}
}

// Rows go from the beginning, from the end, all of them, and none.
func TestCompactLeavesTheOthersInOrder(t *testing.T) {
	name := "abcdef"
	for mask := range 1 << len(name) {
		var l []api.Row
		want := ""
		for i, key := range name {
			if mask>>i&1 == 1 {
				l = append(l, dead(string(key)))
			} else {
				l = append(l, there(string(key)))
				want += string(key)
			}
		}
		wantCompact(t, l, []int{2, 4}, want)
		wantCompact(t, l, []int{2, 3}, name)
	}
}
