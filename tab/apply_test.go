package tab_test

import (
	"fmt"
	"slices"
	"testing"

	"raddle/api"
	"raddle/tab"
)

// op is the third operation of the peer 1 of three, that had (0, 9) and (2, 4), at a time that is later than all of rows.
func op(kind int, key string) api.Op {
	return api.Op{Dot: by(1, 3), Deps: []int{9, 2, 4}, Stamp: api.Stamp{Phys: 50, Logic: 5, Peer: 1}, Kind: kind, Key: key}
}

func insert(key string) api.Op {
	x := op(api.OpInsert, key)
	x.Vals = []api.Value{num(12), text("new"), null()}
	return x
}

func update(key string, col int, v api.Value) api.Op {
	x := op(api.OpUpdate, key)
	x.Col, x.Vals = col, []api.Value{v}
	return x
}

func remove(key string, l ...api.Dot) api.Op {
	x := op(api.OpDelete, key)
	x.Dots = l
	return x
}

// ofEachKind has a right operation of each kind, to a row that is there.
func ofEachKind() []api.Op {
	return []api.Op{insert("j"), update("j", 1, text("new")), remove("j", by(0, 2), by(2, 1))}
}

// at bends x to be of that time.
func at(x api.Op, phys, logic int) api.Op {
	x.Stamp.Phys, x.Stamp.Logic = phys, logic
	return x
}

// writes has the cell that x makes of a value.
func writes(x api.Op, v api.Value) api.Cell { return api.Cell{Val: v, Stamp: x.Stamp, Dot: x.Dot} }

// insertedBy has the cells that an insert makes where nothing was written.
func insertedBy(x api.Op) []api.Cell {
	var l []api.Cell
	for _, v := range x.Vals {
		l = append(l, writes(x, v))
	}
	return l
}

// with has l with r at its place, in the place of the row of that key, if there is one.
func with(l []api.Row, r api.Row) []api.Row {
	l = copied(l)
	for i := range l {
		if l[i].Key == r.Key {
			l[i] = r
			return l
		}
	}
	l = append(l, r)
	slices.SortFunc(l, func(a, b api.Row) int {
		if a.Key < b.Key {
			return -1
		}
		return 1
	})
	return l
}

// row has that of l of that key, or what stands for it where there is none.
func row(l []api.Row, key string) api.Row {
	for _, r := range copied(l) {
		if r.Key == key {
			return r
		}
	}
	return api.Row{Key: key, Cells: make([]api.Cell, 3)}
}

// wantApply asks that x makes r of the row of its key in l, and leaves the others.
func wantApply(t *testing.T, l []api.Row, x api.Op, r api.Row) {
	t.Helper()
	next, gone, come, e := tab.Apply(form(), l, x)
	if !same(next, with(l, r)) || e != api.OK {
		t.Errorf("Apply(%v, %+v): got %v, %d; want the row %v", l, x, next, e, r)
	}
	if !slices.Equal(gone, shown(row(l, x.Key))) || !slices.Equal(come, shown(r)) {
		t.Errorf("Apply(%v, %+v): gone %v, come %v; want the row %v", l, x, gone, come, r)
	}
	if e := tab.Check(form(), next); e != api.OK {
		t.Errorf("Apply(%v, %+v): %v is not right: %d", l, x, next, e)
	}
}

func wantRefused(t *testing.T, what string, f api.Table, l []api.Row, x api.Op, want api.Errno) {
	t.Helper()
	next, gone, come, e := tab.Apply(f, l, x)
	if len(next) != 0 || len(gone) != 0 || len(come) != 0 || e != want {
		t.Errorf("%s: Apply(%v, %v, %+v): got %v, %v, %v, %d; want %d", what, f, l, x, next, gone, come, e, want)
	}
}

// absent has keys of no row: ahead of all, between, and behind all.
func absent() []string {
	return []string{"a", "\x00", "c", "ba", "m", "o", "\xff", "kkk"}
}

// P13.2: errors

func TestApplyTellsTheFormThenTheTable(t *testing.T) {
	wrong := api.Op{Table: 9, Kind: 7}
	for _, f := range wrongForms() {
		for _, x := range append(ofEachKind(), wrong) {
			wantRefused(t, "wrong form, wrong table", f, []api.Row{{}}, x, api.ErrType)
			wantRefused(t, "wrong form", f, rows(), x, api.ErrType)
			wantRefused(t, "wrong form, no rows", f, nil, x, api.ErrType)
		}
	}
	for _, x := range append(ofEachKind(), wrong) {
		wantRefused(t, "wrong table", form(), []api.Row{{}}, x, api.ErrArg)
		wantRefused(t, "wrong table", form(), append(rows(), there("a")), x, api.ErrArg)
	}
	wantRefused(t, "wrong operation", form(), rows(), wrong, api.ErrArg)
	wantRefused(t, "wrong operation, no rows", form(), nil, wrong, api.ErrArg)
}

// bend is something that is done to an operation.
type bend func(x *api.Op)

// wrongInAll has what makes an operation of any kind wrong.
func wrongInAll() []bend {
	return []bend{
		func(x *api.Op) { x.Kind = 0 }, func(x *api.Op) { x.Kind = 4 }, func(x *api.Op) { x.Kind = -1 },
		func(x *api.Op) { x.Deps = nil }, func(x *api.Op) { x.Deps = []int{} }, func(x *api.Op) { x.Deps = append(x.Deps, 0, 0, 0) },
		func(x *api.Op) { x.Deps[1] = 1 }, func(x *api.Op) { x.Deps[1] = 3 }, func(x *api.Op) { x.Deps = x.Deps[:1] },
		func(x *api.Op) { x.Deps[0] = -1 }, func(x *api.Op) { x.Deps[2] = api.MaxSeq + 1 }, func(x *api.Op) { x.Deps[0] = most },
		func(x *api.Op) { x.Dot.Peer = -1 }, func(x *api.Op) { x.Dot.Peer = 3 }, func(x *api.Op) { x.Dot.Peer = 0 },
		func(x *api.Op) { x.Dot.N = 0 }, func(x *api.Op) { x.Dot.N = 4 }, func(x *api.Op) { x.Dot.N = -1 },
		func(x *api.Op) { x.Deps[1], x.Dot.N = -1, 0 }, func(x *api.Op) { x.Deps[1], x.Dot.N = api.MaxSeq, api.MaxSeq+1 },
		func(x *api.Op) { x.Stamp.Peer = 0 }, func(x *api.Op) { x.Stamp.Peer = -1 }, func(x *api.Op) { x.Stamp.Phys = -1 },
		func(x *api.Op) { x.Stamp.Phys = api.MaxPhys + 1 }, func(x *api.Op) { x.Stamp.Logic = -1 }, func(x *api.Op) { x.Stamp.Logic = api.MaxLogic + 1 },
		func(x *api.Op) { x.Key = "" }, func(x *api.Op) { x.Key = letters(api.MaxKey + 1) }, func(x *api.Op) { x.Key = letters(300) },
		func(x *api.Op) { x.Col = -1 }, func(x *api.Op) { x.Col = 3 }, func(x *api.Op) { x.Col = most }, func(x *api.Op) { x.Col = least },
		func(x *api.Op) { x.Vals = append(x.Vals, null()) }, func(x *api.Op) { x.Vals = append(x.Vals, null(), null(), null(), null(), null()) },
		func(x *api.Op) { x.Dots = append(x.Dots, by(0, 1)) }, func(x *api.Op) { x.Dots = append(x.Dots, by(1, 3)) },
	}
}

func wantBent(t *testing.T, x api.Op, ways ...bend) {
	t.Helper()
	for i, do := range ways {
		y := x
		y.Deps, y.Vals, y.Dots = slices.Clone(x.Deps), slices.Clone(x.Vals), slices.Clone(x.Dots)
		do(&y)
		wantRefused(t, fmt.Sprintf("way %d", i), form(), rows(), y, api.ErrArg)
		wantRefused(t, fmt.Sprintf("way %d, no rows", i), form(), nil, y, api.ErrArg)
	}
}

func TestApplyTellsWrongOperations(t *testing.T) {
	for _, x := range ofEachKind() {
		wantBent(t, x, wrongInAll()...)
	}
	wantBent(t, insert("j"),
		func(x *api.Op) { x.Vals = nil }, func(x *api.Op) { x.Vals = x.Vals[:2] }, func(x *api.Op) { x.Col = 1 },
		func(x *api.Op) { x.Vals[0] = text("") }, func(x *api.Op) { x.Vals[2] = num(1) }, func(x *api.Op) { x.Vals[1] = text(letters(api.MaxText + 1)) },
		func(x *api.Op) { x.Vals[0] = num(api.MaxInt + 1) }, func(x *api.Op) { x.Vals[0] = num(-api.MaxInt - 1) }, func(x *api.Op) { x.Vals[1] = api.Value{} })
	wantBent(t, update("j", 0, num(1)),
		func(x *api.Op) { x.Vals = nil }, func(x *api.Op) { x.Col = 1 }, func(x *api.Op) { x.Col = 2 }, func(x *api.Op) { x.Vals[0] = text("") },
		func(x *api.Op) { x.Vals[0] = num(api.MaxInt + 1) }, func(x *api.Op) { x.Vals[0] = api.Value{} })
	wantBent(t, remove("j", by(0, 2), by(2, 1)),
		func(x *api.Op) { x.Dots = nil }, func(x *api.Op) { slices.Reverse(x.Dots) }, func(x *api.Op) { x.Dots[1] = x.Dots[0] }, func(x *api.Op) { x.Col = 1 },
		func(x *api.Op) { x.Dots[1] = by(2, 5) }, func(x *api.Op) { x.Dots[1] = by(1, 3) }, func(x *api.Op) { x.Dots[0] = by(0, 0) },
		func(x *api.Op) { x.Dots[0] = by(-1, 1) }, func(x *api.Op) { x.Dots[1] = by(3, 1) })
}

// One more dot than may be is wrong, though the row has as many.
func TestApplyOfMaxDots(t *testing.T) {
	r := there("k")
	r.Dots = nil
	for n := range api.MaxDots + 1 {
		r.Dots = append(r.Dots, by(0, n+1))
	}
	x := remove("k", r.Dots[1:]...)
	x.Deps[0] = api.MaxSeq
	left := there("k")
	left.Dots = dots(by(0, 1))
	wantApply(t, []api.Row{r}, x, left)
	x.Dots = r.Dots
	wantRefused(t, "too many", form(), []api.Row{r}, x, api.ErrArg)
}

// What is right of another form is not right of this one.
func TestApplyTellsOperationsOfOtherForms(t *testing.T) {
	other := api.Table{Cols: []int{api.Bool, api.Int}}
	x := insert("j")
	x.Vals = []api.Value{truth(1), num(1)}
	for i, x := range []api.Op{x, update("j", 0, truth(1)), update("j", 1, num(1))} {
		if _, _, _, e := tab.Apply(other, nil, x); e != api.OK {
			t.Errorf("operation %d: got %d", i, e)
		}
		wantRefused(t, "of another form", form(), rows(), x, api.ErrArg)
		wantRefused(t, "of another form, no rows", form(), nil, x, api.ErrArg)
	}
	for _, x := range []api.Op{insert("j"), update("j", 2, null()), update("j", 1, text(""))} {
		wantRefused(t, "of three columns", other, nil, x, api.ErrArg)
	}
	wantRefused(t, "rows of three columns", other, rows(), remove("j", by(0, 1)), api.ErrArg)
}

// Whatever x's Table, it is as if it were 0.
func TestApplyOfAnyTable(t *testing.T) {
	for _, key := range []string{"j", "d", "a"} {
		for _, x := range []api.Op{insert(key), update(key, 0, num(5)), remove(key, by(0, 2))} {
			next, gone, come, _ := tab.Apply(form(), rows(), x)
			for _, x.Table = range []int{1, 2, 3, 77, -1, least, most} {
				n, g, c, e := tab.Apply(form(), rows(), x)
				if !same(n, next) || !slices.Equal(g, gone) || !slices.Equal(c, come) || e != api.OK {
					t.Errorf("Apply(%+v): got %v, %v, %v, %d; want %v, %v, %v", x, n, g, c, e, next, gone, come)
				}
			}
		}
	}
}

// It is of as many peers as it has Deps.
func TestApplyOfEveryCountOfPeers(t *testing.T) {
	for n := 1; n <= api.MaxPeers; n++ {
		for peer := range n {
			x := insert("k")
			x.Dot, x.Deps = by(peer, 1), make([]int, n)
			x.Stamp.Peer = peer
			wantApply(t, nil, x, api.Row{Key: "k", Dots: dots(by(peer, 1)), Cells: insertedBy(x)})
			x.Dot.N, x.Deps[peer] = api.MaxSeq, api.MaxSeq-1
			wantApply(t, nil, x, api.Row{Key: "k", Dots: dots(by(peer, api.MaxSeq)), Cells: insertedBy(x)})
			x.Dot.Peer = n
			wantRefused(t, "of no peer", form(), nil, x, api.ErrArg)
		}
	}
	x := insert("k")
	x.Dot, x.Deps = by(1, 1), make([]int, api.MaxPeers+1)
	wantRefused(t, "of too many peers", form(), nil, x, api.ErrArg)
}

// P13.2: OpInsert

func TestInsertOfARowThatIsNot(t *testing.T) {
	for _, key := range absent() {
		for _, l := range [][]api.Row{nil, {}, rows(), rows()[:1], rows()[1:4]} {
			wantApply(t, l, insert(key), api.Row{Key: key, Dots: dots(by(1, 3)), Cells: insertedBy(insert(key))})
		}
	}
}

// Of a dead row what was written stays, where it is later.
func TestInsertOfADeadRow(t *testing.T) {
	early := at(insert("d"), 0, 0)
	got := dead("d")
	got.Dots = dots(by(1, 3))
	got.Cells[1] = writes(early, text("new"))
	wantApply(t, rows(), early, got)
	wantApply(t, rows(), insert("d"), api.Row{Key: "d", Dots: dots(by(1, 3)), Cells: insertedBy(insert("d"))})
	bare := at(insert("h"), 0, 0)
	wantApply(t, rows(), bare, api.Row{Key: "h", Dots: dots(by(1, 3)), Cells: insertedBy(bare)})
	between := at(insert("f"), 10, 3)
	whole := there("f")
	whole.Dots = dots(by(1, 3))
	whole.Cells[0], whole.Cells[2] = writes(between, num(12)), writes(between, null())
	wantApply(t, rows(), between, whole)
}

func TestInsertOfARowThatIsThere(t *testing.T) {
	for _, key := range []string{"b", "j"} {
		r := there(key)
		r.Dots, r.Cells = dots(by(0, 2), by(0, 5), by(1, 3), by(2, 1)), insertedBy(insert(key))
		wantApply(t, rows(), insert(key), r)
		early := at(insert(key), 0, 0)
		r.Cells = there(key).Cells
		wantApply(t, rows(), early, r)
	}
	last := row(rows(), "n")
	last.Dots, last.Cells = dots(by(1, 3), by(4, api.MaxSeq)), insertedBy(insert("n"))
	wantApply(t, rows(), insert("n"), last)
}

// The dot comes ahead of all, between any two, behind all.
func TestInsertPutsTheDotAtItsPlace(t *testing.T) {
	all := dots(by(0, 1), by(0, 7), by(1, 2), by(1, 4), by(2, 1), by(3, 9), by(4, 1))
	for i, d := range all {
		x := insert("k")
		x.Dot, x.Deps = d, make([]int, api.MaxPeers)
		x.Deps[d.Peer] = d.N - 1
		x.Stamp.Peer = d.Peer
		before, after := there("k"), there("k")
		before.Dots, after.Dots = slices.Delete(slices.Clone(all), i, i+1), all
		after.Cells = insertedBy(x)
		wantApply(t, []api.Row{before}, x, after)
	}
}

// A dot that is there already is there once; the cells are written all the same.
func TestInsertOfADotThatIsThere(t *testing.T) {
	for _, d := range there("j").Dots {
		x := insert("j")
		x.Dot, x.Deps = d, []int{8, 8, 8}
		x.Deps[d.Peer] = d.N - 1
		x.Stamp.Peer = d.Peer
		r := there("j")
		r.Cells = insertedBy(x)
		wantApply(t, rows(), x, r)
		wantApply(t, with(rows(), r), x, r)
		wantApply(t, rows(), at(x, 0, 0), there("j"))
	}
}

func TestInsertTwiceIsOnce(t *testing.T) {
	for _, key := range append(absent(), "b", "d", "f", "h", "n") {
		once, _, come, _ := tab.Apply(form(), rows(), insert(key))
		twice, gone, again, e := tab.Apply(form(), once, insert(key))
		if !same(once, twice) || !slices.Equal(gone, come) || !slices.Equal(again, come) || e != api.OK {
			t.Errorf("%q: %v, and then %v, %v, %v, %d", key, once, twice, gone, again, e)
		}
	}
}

// times has a cell's time, and one by one those that are earlier or the same, and later.
func times() (was api.Stamp, notLater, later []api.Stamp) {
	was = api.Stamp{Phys: 10, Logic: 5, Peer: 2}
	notLater = []api.Stamp{{}, was, {Phys: 10, Logic: 5, Peer: 1}, {Phys: 10, Logic: 5}, {Phys: 10, Logic: 4, Peer: 4}, {Phys: 9, Logic: api.MaxLogic, Peer: 4}, {Phys: 10, Peer: 2}}
	later = []api.Stamp{{Phys: 10, Logic: 5, Peer: 3}, {Phys: 10, Logic: 5, Peer: 4}, {Phys: 10, Logic: 6}, {Phys: 11}, {Phys: api.MaxPhys}, {Phys: 10, Logic: api.MaxLogic}}
	return was, notLater, later
}

// ofTime bends x to be of that time, and so of that peer.
func ofTime(x api.Op, s api.Stamp) api.Op {
	x.Stamp, x.Dot, x.Deps = s, by(s.Peer, 3), []int{9, 9, 9, 9, 9}
	x.Deps[s.Peer] = 2
	return x
}

func TestInsertByEachCellsTime(t *testing.T) {
	was, notLater, later := times()
	for col := range 3 {
		r := there("j")
		for i := range r.Cells {
			r.Cells[i].Stamp = api.Stamp{}
		}
		r.Cells[col].Stamp = was
		for i, s := range slices.Concat(notLater, later) {
			x := ofTime(insert("j"), s)
			want := there("j")
			want.Dots = append(want.Dots, x.Dot)
			slices.SortFunc(want.Dots, func(a, b api.Dot) int { return (a.Peer-b.Peer)*100 + a.N - b.N })
			want.Cells = insertedBy(x)
			if s == (api.Stamp{}) {
				want.Cells = slices.Clone(r.Cells)
			}
			if i < len(notLater) {
				want.Cells[col] = r.Cells[col]
			}
			wantApply(t, with(rows(), r), x, want)
		}
	}
}

// P13.2: OpUpdate

func newVals() []api.Value { return []api.Value{num(99), text("99"), truth(0)} }

func TestUpdateOfEachRowAndColumn(t *testing.T) {
	for _, r := range rows() {
		for col, v := range newVals() {
			want := row(rows(), r.Key)
			want.Cells[col] = writes(update(r.Key, col, v), v)
			wantApply(t, rows(), update(r.Key, col, v), want)
			want.Cells[col].Val = null()
			wantApply(t, rows(), update(r.Key, col, null()), want)
		}
	}
}

// A row that is not there yet, or not any more, is written to all the same, and not seen.
func TestUpdateOfARowThatIsNot(t *testing.T) {
	for _, key := range absent() {
		for col, v := range newVals() {
			for _, x := range []api.Op{update(key, col, v), at(update(key, col, v), 0, 0)} {
				r := api.Row{Key: key, Cells: make([]api.Cell, 3)}
				r.Cells[col] = writes(x, v)
				wantApply(t, nil, x, r)
				wantApply(t, rows(), x, r)
			}
		}
	}
}

// An update ahead of any insert keeps its cell from an earlier insert, and not from a later one.
func TestUpdateAheadOfAnyInsert(t *testing.T) {
	for _, key := range absent() {
		first := update(key, 1, text("first"))
		l, _, _, _ := tab.Apply(form(), rows(), first)
		early := ofTime(insert(key), api.Stamp{Phys: 49, Peer: 2})
		r := api.Row{Key: key, Dots: dots(early.Dot), Cells: insertedBy(early)}
		r.Cells[1] = writes(first, text("first"))
		wantApply(t, l, early, r)
		late := ofTime(insert(key), api.Stamp{Phys: 51, Peer: 2})
		wantApply(t, l, late, api.Row{Key: key, Dots: dots(late.Dot), Cells: insertedBy(late)})
	}
}

func TestUpdateByTheCellsTime(t *testing.T) {
	was, notLater, later := times()
	for _, key := range []string{"b", "f", "n"} {
		for col, v := range newVals() {
			r := row(rows(), key)
			r.Cells[col].Stamp = was
			for _, s := range notLater {
				wantApply(t, with(rows(), r), ofTime(update(key, col, v), s), r)
			}
			for _, s := range later {
				x := ofTime(update(key, col, v), s)
				want := row([]api.Row{r}, key)
				want.Cells[col] = writes(x, v)
				wantApply(t, with(rows(), r), x, want)
			}
		}
	}
}

// A cell that was written at the earliest time is written; one that was not, is written at that time.
func TestUpdateAtTheEarliestTime(t *testing.T) {
	x := ofTime(update("k", 0, num(1)), api.Stamp{})
	r := api.Row{Key: "k", Cells: []api.Cell{writes(x, num(1)), never(), never()}}
	wantApply(t, nil, x, r)
	again := ofTime(update("k", 0, num(2)), api.Stamp{})
	wantApply(t, []api.Row{r}, again, r)
}

// P13.2: OpDelete

// subset has those of l whose bits are set.
func subset(l []api.Dot, mask int) []api.Dot {
	var out []api.Dot
	for i, d := range l {
		if mask>>i&1 == 1 {
			out = append(out, d)
		}
	}
	return out
}

func TestDeleteOfEachOfTheDots(t *testing.T) {
	all := there("j").Dots
	for mask := 1; mask < 1<<len(all); mask++ {
		r := there("j")
		r.Dots = subset(all, ^mask)
		wantApply(t, rows(), remove("j", subset(all, mask)...), r)
	}
}

func TestDeleteOfDotsThatAreNotThere(t *testing.T) {
	wantApply(t, rows(), remove("j", by(0, 1)), there("j"))
	wantApply(t, rows(), remove("j", by(0, 1), by(0, 3), by(1, 1), by(2, 2), by(2, 4)), there("j"))
	some := there("j")
	some.Dots = dots(by(0, 2), by(2, 1))
	wantApply(t, rows(), remove("j", by(0, 1), by(0, 5), by(1, 2), by(2, 2)), some)
	none := there("j")
	none.Dots = nil
	wantApply(t, rows(), remove("j", by(0, 1), by(0, 2), by(0, 3), by(0, 5), by(1, 2), by(2, 1), by(2, 3)), none)
	wantApply(t, rows(), remove("n", by(0, 2), by(2, 1)), row(rows(), "n"))
}

// A delete of a dead row leaves it; of one that is not, a dead one comes.
func TestDeleteOfARowThatIsNot(t *testing.T) {
	for _, key := range []string{"d", "f", "h", "l"} {
		wantApply(t, rows(), remove(key, by(0, 2)), row(rows(), key))
	}
	for _, key := range absent() {
		bare := api.Row{Key: key, Cells: make([]api.Cell, 3)}
		wantApply(t, nil, remove(key, by(0, 2)), bare)
		wantApply(t, rows(), remove(key, by(0, 2)), bare)
	}
}

func TestDeleteTakesTheCellsTimesAsTheyAre(t *testing.T) {
	r := there("j")
	r.Dots = nil
	wantApply(t, rows(), at(remove("j", there("j").Dots...), 0, 0), r)
	wantApply(t, rows(), at(remove("j", there("j").Dots...), api.MaxPhys, api.MaxLogic), r)
}

// An insert, and a delete of its dot: one dead row.
func TestInsertAndDelete(t *testing.T) {
	x := insert("k")
	l, _, _, _ := tab.Apply(form(), nil, x)
	y := remove("k", x.Dot)
	y.Dot, y.Deps = by(1, 4), []int{9, 3, 4}
	wantApply(t, l, y, api.Row{Key: "k", Cells: insertedBy(x)})
	l, gone, come, _ := tab.Apply(form(), l, y)
	if tab.Dead(l) != 1 || len(l) != 1 || len(gone) != 4 || len(come) != 0 || len(tab.Seen(form(), l)) != 0 {
		t.Errorf("got %v, %v, %v", l, gone, come)
	}
}

// A delete takes what its peer saw, and leaves what came beside it.
func TestDeleteLeavesInsertsThatItDoesNotKnow(t *testing.T) {
	x := insert("j")
	l, _, _, _ := tab.Apply(form(), rows(), x)
	r := api.Row{Key: "j", Dots: dots(by(1, 3)), Cells: insertedBy(x)}
	y := remove("j", there("j").Dots...)
	y.Dot, y.Deps, y.Stamp.Peer = by(2, 5), []int{9, 2, 4}, 2
	wantApply(t, l, y, r)
}

// Tables have from one column on, up to as many as may be.
func TestApplyToTablesOfEveryWidth(t *testing.T) {
	vals := []api.Value{num(1), num(2), num(3), num(4)}
	for n := 1; n <= api.MaxCols; n++ {
		f := api.Table{Cols: slices.Repeat([]int{api.Int}, n)}
		x := insert("k")
		x.Vals = vals[:n]
		l, gone, come, e := tab.Apply(f, nil, x)
		want := append([]api.Value{text("k")}, vals[:n]...)
		if len(gone) != 0 || !slices.Equal(come, want) || e != api.OK {
			t.Errorf("%d columns: got %v, %v, %d", n, gone, come, e)
		}
		for col := range n {
			y := ofTime(update("k", col, num(9)), api.Stamp{Phys: 51})
			now := slices.Clone(want)
			now[col+1] = num(9)
			next, gone, come, e := tab.Apply(f, l, y)
			if !slices.Equal(gone, want) || !slices.Equal(come, now) || !sameSeen(tab.Seen(f, next), [][]api.Value{now}) || e != api.OK {
				t.Errorf("%d columns, column %d: got %v, %v, %v, %d", n, col, next, gone, come, e)
			}
		}
		y := update("k", n, num(9))
		if _, _, _, e := tab.Apply(f, l, y); e != api.ErrArg {
			t.Errorf("%d columns, column %d: got %d", n, n, e)
		}
	}
}
