package tab_test

import (
	"fmt"
	"math/rand"
	"slices"
	"testing"

	"raddle/api"
	"raddle/rooms"
	"raddle/tab"
)

// R2 and R3

func roomsOfRows(l []api.Row) []rooms.Room {
	all := []rooms.Room{rooms.Of(l, madeRow, sameRow)}
	for _, r := range l {
		all = append(all, rooms.Dots(r.Dots)...)
		all = append(all, rooms.OfPlain(r.Cells, madeCell))
	}
	return all
}

func roomyRows(l []api.Row) []api.Row {
	out := rooms.Spare(l, func(n int) api.Row { return there(fmt.Sprint("spare", n)) })
	for i, r := range l {
		out[i].Dots, out[i].Cells = rooms.SpareDots(r.Dots), rooms.Spare(r.Cells, madeCell)
	}
	return out
}

func roomyOp(x api.Op) api.Op {
	x.Deps, x.Vals, x.Dots = rooms.SpareInts(x.Deps), rooms.SpareValues(x.Vals), rooms.SpareDots(x.Dots)
	return x
}

func madeCell(n int) api.Cell { return cell(num(n), n, n, n, n) }
func madeRow(n int) api.Row   { return api.Row{Key: fmt.Sprint(n)} }

// call is one of Apply, or of Compact, and of Seen, with a form, rows and an operation or a frontier.
type call struct {
	f        api.Table
	l        []api.Row
	x        api.Op
	frontier []int
}

func (c call) Roomy() call {
	return call{api.Table{Cols: rooms.SpareInts(c.f.Cols)}, roomyRows(c.l), roomyOp(c.x), rooms.SpareInts(c.frontier)}
}

func (c call) Rooms() []rooms.Room {
	rest := slices.Concat(rooms.Ints(c.f.Cols), rooms.Ints(c.frontier), rooms.Ints(c.x.Deps), rooms.Values(c.x.Vals), rooms.Dots(c.x.Dots))
	return append(roomsOfRows(c.l), rest...)
}

// Answers asks all calls; it has the memory of what they answer, and tells it as it is up to its length.
func (c call) Answers() (all []rooms.Room, told string) {
	next, gone, come, e := tab.Apply(c.f, c.l, c.x)
	left, n, g := tab.Compact(c.f, c.l, c.frontier)
	seen := tab.Seen(c.f, c.l)
	all = slices.Concat(roomsOfRows(next), rooms.Values(gone), rooms.Values(come), roomsOfRows(left), rooms.Rows(seen))
	return all, fmt.Sprint(next, gone, come, e, left, n, g, seen, tab.Check(c.f, c.l), tab.Find(c.l, c.x.Key), tab.Dead(c.l))
}

// calls has such as change much, little and nothing, and such as tell an error.
func calls() []call {
	var all []call
	tables := [][]api.Row{nil, rows(), rows()[1:4], rows()[:1], {there("z"), there("a")}}
	for _, l := range tables {
		for _, key := range []string{"a", "b", "d", "f", "h", "j", "n", "z", ""} {
			ops := []api.Op{insert(key), at(insert(key), 0, 0), update(key, 1, text("new")), at(update(key, 0, null()), 0, 0), remove(key, by(0, 2), by(2, 1)), remove(key, by(0, 1)), remove(key, there(key).Dots...)}
			for i, x := range ops {
				all = append(all, call{form(), l, x, [][]int{{0}, {2, 4}, {9, 9, 9}, nil, {-1}}[i%5]})
			}
		}
	}
	again := insert("j")
	again.Dot, again.Deps, again.Stamp.Peer = by(0, 5), []int{4, 0, 0}, 0
	return append(all, call{form(), rows(), again, []int{0}}, call{form(), rows(), at(again, 0, 0), []int{1}}, call{api.Table{}, rows(), again, []int{1}})
}

// What is handed in stays, and none of an answer is touched by what is done to another one, of that answer, of another,
// or of what was handed in. What lies behind the length of a list is not read, and nothing of it lies behind those of an
// answer. What was asked ahead does not tell in what is told.
func TestMemoryOfAnswers(t *testing.T) {
	for _, fault := range rooms.Faults(calls()) {
		t.Error(fault)
	}
}

// One list may stand at several places of what is handed in: those of the answer are apart all the same.
func TestOneListAtSeveralPlaces(t *testing.T) {
	dead := dead("d")
	base, twin, third := there("b"), there("c"), there("e")
	twin.Dots, twin.Cells = base.Dots, base.Cells
	third.Dots, third.Cells = base.Dots[:2], base.Cells
	frontier := []int{9, 2, 4}
	for _, key := range []string{"a", "b", "c", "d", "e", "z"} {
		ops := []api.Op{insert(key), at(insert(key), 0, 0), update(key, 1, text("new")), remove(key, base.Dots...)}
		ops[3].Dots = base.Dots
		for i, x := range ops {
			x.Deps = frontier
			c := call{form(), []api.Row{base, twin, dead, third}, x, frontier}
			stays := rooms.Keep(c.Rooms())
			if fault := rooms.Fault(nil, c.Answers); fault != "" || !stays() {
				t.Errorf("%q, operation %d: %s; handed in is now %v", key, i, fault, c)
			}
		}
	}
}

// nil and an empty list mean the same.
func TestNilIsAnEmptyList(t *testing.T) {
	x := insert("k")
	y := x
	y.Dots = []api.Dot{}
	bare := api.Row{Key: "d", Dots: []api.Dot{}, Cells: dead("d").Cells}
	for _, l := range [][]api.Row{nil, {}} {
		wantApply(t, l, x, api.Row{Key: "k", Dots: dots(by(1, 3)), Cells: insertedBy(x)})
		wantApply(t, l, y, api.Row{Key: "k", Dots: dots(by(1, 3)), Cells: insertedBy(x)})
	}
	z := remove("d", by(0, 1))
	wantApply(t, []api.Row{bare}, z, bare)
	z.Vals = []api.Value{}
	wantApply(t, []api.Row{dead("d")}, z, bare)
	wantCompact(t, []api.Row{bare}, []int{2, 4}, "")
	wantCompact(t, []api.Row{bare}, []int{2, 3}, "d")
	wantRefused(t, "no Deps", form(), nil, api.Op{Kind: api.OpInsert, Deps: []int{}}, api.ErrArg)
}

// R1

// anyNumber tells one that may stand somewhere, or at an end of what may.
func anyNumber(r *rand.Rand) int {
	ends := []int{least, -1, 0, 0, 1, 1, 2, 3, 4, api.MaxPeers, api.MaxSeq, api.MaxSeq + 1, api.MaxInt + 1, api.MaxPhys + 1, most}
	return ends[r.Intn(len(ends))]
}

func anyText(r *rand.Rand) string { return letters([]int{0, 1, 2, 12, 13, 24, 25, 300}[r.Intn(8)]) }

func some[T any](r *rand.Rand, one func() T) []T {
	var l []T
	for range r.Intn(5) {
		l = append(l, one())
	}
	return l
}

// Of whatever is handed in, each call ends, and all tell the same of whether it is right.
func TestOfAny(t *testing.T) {
	r := rand.New(rand.NewSource(1))
	number := func() int { return anyNumber(r) }
	oneDot := func() api.Dot { return by(number(), number()) }
	oneValue := func() api.Value { return api.Value{Kind: number(), I: number(), S: anyText(r)} }
	oneCell := func() api.Cell {
		return api.Cell{Val: oneValue(), Stamp: api.Stamp{Phys: number(), Logic: number(), Peer: number()}, Dot: oneDot()}
	}
	oneRow := func() api.Row { return api.Row{Key: anyText(r), Dots: some(r, oneDot), Cells: some(r, oneCell)} }
	for range 30000 {
		f := []api.Table{form(), {Cols: some(r, number)}}[r.Intn(2)]
		l := [][]api.Row{some(r, oneRow), rows()}[r.Intn(2)]
		x := api.Op{Dot: oneDot(), Deps: some(r, number), Stamp: oneCell().Stamp, Kind: number(), Table: number(), Key: anyText(r), Col: number(), Vals: some(r, oneValue), Dots: some(r, oneDot)}
		if r.Intn(2) == 0 {
			x = ofEachKind()[r.Intn(3)]
		}
		e := tab.Check(f, l)
		next, gone, come, g := tab.Apply(f, l, x)
		if e != api.OK && g != e || g != api.OK && len(next)+len(gone)+len(come) != 0 {
			t.Fatalf("Apply(%v, %v, %+v): got %v, %v, %v, %d; Check %d", f, l, x, next, gone, come, g, e)
		}
		left, n, h := tab.Compact(f, l, some(r, number))
		if e != api.OK && h != e || h != api.OK && len(left)+n != 0 || h == api.OK && len(left)+n != len(l) {
			t.Fatalf("Compact(%v, %v): got %v, %d, %d; Check %d", f, l, left, n, h, e)
		}
		if seen := tab.Seen(f, l); e == api.OK && len(seen)+tab.Dead(l) != len(l) || e != api.OK && len(seen) != 0 {
			t.Fatalf("Seen(%v, %v): got %v; Check %d", f, l, seen, e)
		}
		if at := tab.Find(l, x.Key); at < -1 || at >= len(l) || at >= 0 && l[at].Key != x.Key {
			t.Fatalf("Find(%v, %q): got %d", l, x.Key, at)
		}
	}
}
