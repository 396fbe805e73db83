package tab_test

import (
	"maps"
	"math/rand"
	"slices"
	"sort"
	"testing"

	"raddle/api"
	"raddle/tab"
)

// modelRow is a row by what the chapter says of it, in no order.
type modelRow struct {
	dots  map[api.Dot]bool
	cells [3]api.Cell
}

type model map[string]modelRow

// modelOf has the rows of l.
func modelOf(l []api.Row) model {
	m := model{}
	for _, r := range l {
		mr := modelRow{dots: map[api.Dot]bool{}}
		for _, d := range r.Dots {
			mr.dots[d] = true
		}
		copy(mr.cells[:], r.Cells)
		m[r.Key] = mr
	}
	return m
}

// isLater tells whether a is later than b, number by number.
func isLater(a, b api.Stamp) bool {
	if a.Phys != b.Phys {
		return a.Phys > b.Phys
	}
	return a.Logic > b.Logic || a.Logic == b.Logic && a.Peer > b.Peer
}

// do is what a right operation does.
func (m model) do(x api.Op) {
	r, found := m[x.Key]
	if !found {
		r.dots = map[api.Dot]bool{}
	}
	for i, v := range x.Vals {
		c := &r.cells[x.Col+i]
		if c.Dot.N == 0 || isLater(x.Stamp, c.Stamp) {
			*c = api.Cell{Val: v, Stamp: x.Stamp, Dot: x.Dot}
		}
	}
	if x.Kind == api.OpInsert {
		r.dots[x.Dot] = true
	}
	for _, d := range x.Dots {
		delete(r.dots, d)
	}
	m[x.Key] = r
}

// rows has m as a table.
func (m model) rows() []api.Row {
	var l []api.Row
	for _, key := range slices.Sorted(maps.Keys(m)) {
		r := m[key]
		all := slices.Collect(maps.Keys(r.dots))
		sort.Slice(all, func(i, j int) bool { return all[i].Peer*(api.MaxSeq+1)+all[i].N < all[j].Peer*(api.MaxSeq+1)+all[j].N })
		l = append(l, api.Row{Key: key, Dots: all, Cells: slices.Clone(r.cells[:])})
	}
	return l
}

// compacted has m without what the frontier has, and tells how many rows that were.
func (m model) compacted(frontier []int) (model, int) {
	left := model{}
	for key, r := range m {
		keep := len(r.dots) > 0
		for _, c := range r.cells {
			if c.Dot.N > 0 && (c.Dot.Peer >= len(frontier) || c.Dot.N > frontier[c.Dot.Peer]) {
				keep = true
			}
		}
		if keep {
			left[key] = r
		}
	}
	return left, len(m) - len(left)
}

// keysOf has few, so that operations meet: the shortest and the longest, and such as begin alike.
func keysOf() []string {
	return []string{"\x00", "a", "aa", "b", letters(api.MaxKey), letters(api.MaxKey)[1:], "\xff"}
}

// randomVal fits the column col of form.
func randomVal(r *rand.Rand, col int) api.Value {
	if r.Intn(5) == 0 {
		return null()
	}
	switch col {
	case 0:
		return num(r.Intn(9) - 4)
	case 1:
		return text(letters(r.Intn(api.MaxText + 1)))
	}
	return truth(r.Intn(2))
}

// randomDots has some that deps has, rising.
func randomDots(r *rand.Rand, deps []int) []api.Dot {
	var all, some []api.Dot
	for p, n := range deps {
		for k := range n {
			all = append(all, by(p, k+1))
		}
	}
	for _, d := range all {
		if r.Intn(2) == 0 && len(some) < api.MaxDots {
			some = append(some, d)
		}
	}
	return some
}

// randomDo fills in what an operation does; its Dot, Deps and Stamp stand there.
func randomDo(r *rand.Rand, x api.Op) api.Op {
	x.Table = r.Intn(api.MaxTables)
	x.Key = keysOf()[r.Intn(len(keysOf()))]
	if x.Dots = randomDots(r, x.Deps); len(x.Dots) > 0 && r.Intn(3) == 0 {
		x.Kind = api.OpDelete
		return x
	}
	x.Dots = nil
	if r.Intn(2) == 0 {
		x.Kind, x.Col = api.OpUpdate, r.Intn(3)
		x.Vals = []api.Value{randomVal(r, x.Col)}
		return x
	}
	x.Kind = api.OpInsert
	x.Vals = []api.Value{randomVal(r, 0), randomVal(r, 1), randomVal(r, 2)}
	return x
}

// randomOp is a right one of n peers, at a time that may be earlier than others', or the same.
func randomOp(r *rand.Rand, n int) api.Op {
	x := api.Op{Deps: make([]int, n)}
	for p := range x.Deps {
		x.Deps[p] = r.Intn(4)
	}
	p := r.Intn(n)
	x.Dot = by(p, x.Deps[p]+1)
	x.Stamp = api.Stamp{Phys: r.Intn(3), Logic: r.Intn(3), Peer: p}
	return randomDo(r, x)
}

// randomTable is one that so many random operations made.
func randomTable(r *rand.Rand, n, size int) []api.Row {
	m := model{}
	for range size {
		m.do(randomOp(r, n))
	}
	return m.rows()
}

func randomFrontier(r *rand.Rand) []int {
	v := make([]int, 1+r.Intn(api.MaxPeers))
	for p := range v {
		v[p] = r.Intn(6)
	}
	return v
}

// wantTable asks all that is told of a table that must be m's.
func wantTable(t *testing.T, r *rand.Rand, l []api.Row, m model) {
	t.Helper()
	if want := m.rows(); !same(l, want) || tab.Check(form(), l) != api.OK {
		t.Fatalf("got %v, want %v", l, want)
	}
	if !sameSeen(tab.Seen(form(), l), shownAll(l)) {
		t.Fatalf("Seen of %v: got %v", l, tab.Seen(form(), l))
	}
	frontier := randomFrontier(r)
	left, n := m.compacted(frontier)
	got, went, e := tab.Compact(form(), l, frontier)
	if !same(got, left.rows()) || went != n || e != api.OK {
		t.Fatalf("Compact(%v, %v): got %v, %d, %d; want %v, %d", l, frontier, got, went, e, left.rows(), n)
	}
	if !sameSeen(tab.Seen(form(), got), tab.Seen(form(), l)) || tab.Dead(l)-tab.Dead(got) != n {
		t.Fatalf("Compact(%v, %v): got %v", l, frontier, got)
	}
}

func TestManyOperationsOneBehindTheOther(t *testing.T) {
	r := rand.New(rand.NewSource(13))
	for range 300 {
		n := 1 + r.Intn(api.MaxPeers)
		m, l := model{}, []api.Row(nil)
		for range 30 {
			x := randomOp(r, n)
			before := row(l, x.Key)
			m.do(x)
			next, gone, come, e := tab.Apply(form(), l, x)
			if e != api.OK {
				t.Fatalf("Apply(%v, %+v): got %d", l, x, e)
			}
			wantTable(t, r, next, m)
			if !slices.Equal(gone, shown(before)) || !slices.Equal(come, shown(row(next, x.Key))) {
				t.Fatalf("Apply(%v, %+v): gone %v, come %v", l, x, gone, come)
			}
			l = next
		}
	}
}

// P13.4

// strangers has one operation each of some of n peers, none of which knows of another one.
func strangers(r *rand.Rand, n int) []api.Op {
	had := make([]int, n)
	for p := range had {
		had[p] = r.Intn(4)
	}
	var l []api.Op
	for p := range n {
		if r.Intn(4) == 0 {
			continue
		}
		x := api.Op{Dot: by(p, had[p]+1), Deps: make([]int, n), Stamp: api.Stamp{Phys: r.Intn(2), Logic: r.Intn(2), Peer: p}}
		for q := range n {
			x.Deps[q] = r.Intn(had[q] + 1)
		}
		x.Deps[p] = had[p]
		l = append(l, randomDo(r, x))
	}
	return l
}

// orders has all orders of l.
func orders(l []api.Op) [][]api.Op {
	if len(l) == 0 {
		return [][]api.Op{nil}
	}
	var all [][]api.Op
	for i := range l {
		for _, rest := range orders(slices.Concat(l[:i], l[i+1:])) {
			all = append(all, append([]api.Op{l[i]}, rest...))
		}
	}
	return all
}

// applied has l with all of ops, one by one.
func applied(t *testing.T, l []api.Row, ops []api.Op) []api.Row {
	t.Helper()
	for _, x := range ops {
		next, gone, come, e := tab.Apply(form(), l, x)
		if e != api.OK || !slices.Equal(gone, shown(row(l, x.Key))) || !slices.Equal(come, shown(row(next, x.Key))) {
			t.Fatalf("Apply(%v, %+v): got %v, %v, %v, %d", l, x, next, gone, come, e)
		}
		l = next
	}
	return l
}

func TestStrangersInEveryOrder(t *testing.T) {
	r := rand.New(rand.NewSource(134))
	for range 400 {
		n := 1 + r.Intn(api.MaxPeers)
		l, ops := randomTable(r, n, r.Intn(20)), strangers(r, n)
		m := modelOf(l)
		for _, x := range ops {
			m.do(x)
		}
		want := m.rows()
		for _, order := range orders(ops) {
			if got := applied(t, l, order); !same(got, want) {
				t.Fatalf("to %v, %+v: got %v, want %v", l, order, got, want)
			}
		}
	}
}

// All of one row, of one column, and of times that differ by the peer alone.
func TestStrangersOfOneCell(t *testing.T) {
	for kinds := range 1 << api.MaxPeers {
		var ops []api.Op
		for p := range api.MaxPeers {
			x := api.Op{Dot: by(p, 3), Deps: []int{2, 2, 2, 2, 2}, Stamp: api.Stamp{Phys: 7, Logic: 7, Peer: p}, Kind: api.OpUpdate, Key: "k", Col: 2, Vals: []api.Value{truth(p % 2)}}
			if kinds>>p&1 == 1 {
				x.Kind, x.Col, x.Vals = api.OpInsert, 0, []api.Value{num(p), text("of one"), truth(p % 2)}
			}
			ops = append(ops, x)
		}
		ops[kinds%api.MaxPeers] = removeAll(ops[kinds%api.MaxPeers])
		base := there("k")
		base.Dots = dots(by(0, 2), by(3, 1), by(4, 2))
		want := modelOf([]api.Row{base})
		for _, x := range ops {
			want.do(x)
		}
		for _, order := range orders(ops) {
			if got := applied(t, []api.Row{base}, order); !same(got, want.rows()) {
				t.Fatalf("%+v: got %v, want %v", order, got, want.rows())
			}
		}
	}
}

// removeAll bends x to take away all that it can.
func removeAll(x api.Op) api.Op {
	x.Kind, x.Col, x.Vals, x.Dots = api.OpDelete, 0, nil, nil
	for p, n := range x.Deps {
		for k := range n {
			x.Dots = append(x.Dots, by(p, k+1))
		}
	}
	return x
}

// history has operations of n peers that hear of one another now and then, each behind all that it knows of.
func history(r *rand.Rand, n, size int) []api.Op {
	had := make([][]int, n)
	for p := range had {
		had[p] = make([]int, n)
	}
	var l []api.Op
	for range size {
		p, q := r.Intn(n), r.Intn(n)
		if r.Intn(2) == 0 {
			for i := range n {
				had[p][i] = max(had[p][i], had[q][i])
			}
		}
		x := api.Op{Dot: by(p, had[p][p]+1), Deps: slices.Clone(had[p]), Stamp: api.Stamp{Phys: r.Intn(3), Logic: len(l), Peer: p}}
		l = append(l, randomDo(r, x))
		had[p][p]++
	}
	return l
}

// another has another order of l, in which each is behind all that it knows of too.
func another(r *rand.Rand, l []api.Op) []api.Op {
	l = slices.Clone(l)
	var out []api.Op
	for len(l) > 0 {
		i := r.Intn(len(l))
		if x := l[i]; !slices.ContainsFunc(l, func(y api.Op) bool { return y.Dot.N <= x.Deps[y.Dot.Peer] }) {
			out, l = append(out, x), slices.Delete(l, i, i+1)
		}
	}
	return out
}

// Of those that know of one another the order stays; all others change places, and the same table is made.
func TestAHistoryInOtherOrders(t *testing.T) {
	r := rand.New(rand.NewSource(26))
	for range 100 {
		n := 1 + r.Intn(api.MaxPeers)
		l := history(r, n, 25)
		want := applied(t, nil, l)
		for range 5 {
			if got := applied(t, nil, another(r, l)); !same(got, want) {
				t.Fatalf("%+v: got %v, want %v", l, got, want)
			}
		}
	}
}
