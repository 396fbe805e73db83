package zset_test

import (
	"fmt"
	"math/big"
	"math/rand"
	"slices"
	"testing"

	"raddle/api"
	"raddle/samples"
	"raddle/zset"
)

const most = api.MaxWeight

func null() api.Value         { return api.Value{Kind: api.Null} }
func num(i int) api.Value     { return api.Value{Kind: api.Int, I: i} }
func text(s string) api.Value { return api.Value{Kind: api.Text, S: s} }

// of has one Item of a row.
func of(w int, r ...api.Value) api.Item { return api.Item{Row: r, W: w} }

// at has one Item of a row of numbers.
func at(w int, l ...int) api.Item { return api.Item{Row: rowOf(l...), W: w} }

func rowOf(l ...int) []api.Value {
	var r []api.Value
	for _, n := range l {
		r = append(r, num(n))
	}
	return r
}

func items(l ...api.Item) []api.Item { return l }

// with has z with x in the place of one.
func with(z []api.Item, place int, x api.Item) []api.Item {
	out := slices.Clone(z)
	out[place] = x
	return out
}

func sameItem(a, b api.Item) bool { return slices.Equal(a.Row, b.Row) && a.W == b.W }

func same(a, b []api.Item) bool { return slices.EqualFunc(a, b, sameItem) }

func wantCheck(t *testing.T, z []api.Item, want api.Errno) {
	t.Helper()
	if got := zset.Check(z); got != want {
		t.Errorf("Check(%v): got %d, want %d", z, got, want)
	}
}

func wantMake(t *testing.T, l, want []api.Item, wantE api.Errno) {
	t.Helper()
	got, e := zset.Make(l)
	if !same(got, want) || e != wantE {
		t.Errorf("Make(%v): got %v, %d; want %v, %d", l, got, e, want, wantE)
	}
	if e == api.OK {
		wantCheck(t, got, api.OK)
	}
}

func wantRows(t *testing.T, l [][]api.Value, want []api.Item, wantE api.Errno) {
	t.Helper()
	got, e := zset.Rows(l)
	if !same(got, want) || e != wantE {
		t.Errorf("Rows(%v): got %v, %d; want %v, %d", l, got, e, want, wantE)
	}
}

// isAhead tells which of two right rows is ahead, apart from package row.
func isAhead(a, b []api.Value) bool {
	for i := range min(len(a), len(b)) {
		switch {
		case a[i] == b[i]:
			continue
		case a[i].Kind != b[i].Kind:
			return a[i].Kind < b[i].Kind
		case a[i].I != b[i].I:
			return a[i].I < b[i].I
		default:
			return a[i].S < b[i].S
		}
	}
	return len(a) < len(b)
}

// wideSum has the set of l, worked out apart from package zset: numbers without bounds, and a map.
func wideSum(l []api.Item) ([]api.Item, api.Errno) {
	sums, rows := map[string]*big.Int{}, map[string][]api.Value{}
	for _, x := range l {
		name := fmt.Sprintf("%q", fmt.Sprint(x.Row))
		if sums[name] == nil {
			sums[name], rows[name] = new(big.Int), x.Row
		}
		sums[name].Add(sums[name], big.NewInt(int64(x.W)))
	}
	var z []api.Item
	for name, n := range sums {
		if n.CmpAbs(big.NewInt(most)) > 0 {
			return nil, api.ErrOver
		}
		if n.Sign() != 0 {
			z = append(z, api.Item{Row: rows[name], W: int(n.Int64())})
		}
	}
	slices.SortFunc(z, func(a, b api.Item) int {
		if isAhead(a.Row, b.Row) {
			return -1
		}
		return 1
	})
	return z, api.OK
}

// P14.1: Check

func TestRightSets(t *testing.T) {
	wantCheck(t, nil, api.OK)
	wantCheck(t, samples.Set(), api.OK)
	for i, x := range samples.Set() {
		wantCheck(t, items(x), api.OK)
		wantCheck(t, samples.Set()[:i], api.OK)
		wantCheck(t, samples.Set()[i:], api.OK)
		for _, w := range []int{1, -1, most, -most, most - 1, 1 - most, 1 << 32, -1 << 32} {
			wantCheck(t, with(samples.Set(), i, of(w, x.Row...)), api.OK)
		}
		for k := range i {
			wantCheck(t, items(samples.Set()[k], x), api.OK)
		}
	}
}

func TestWrongSets(t *testing.T) {
	for _, z := range samples.WrongSets() {
		wantCheck(t, z, api.ErrArg)
	}
}

// Rows rise at each place: none of those behind another one may be alike to it, or ahead of it.
func TestRowsOutOfOrder(t *testing.T) {
	for i, x := range samples.Set() {
		for k := range i + 1 {
			wantCheck(t, items(x, samples.Set()[k]), api.ErrArg)
			wantCheck(t, append(samples.Set(), samples.Set()[k]), api.ErrArg)
		}
	}
}

// P14.1: Make

func TestMake(t *testing.T) {
	wantMake(t, nil, nil, api.OK)
	wantMake(t, items(at(2, 1), at(-2, 1)), nil, api.OK)
	wantMake(t, items(at(0, 1)), nil, api.OK)
	wantMake(t, items(of(0)), nil, api.OK)
	wantMake(t, items(of(4)), items(of(4)), api.OK)
	wantMake(t, items(of(4), of(-1)), items(of(3)), api.OK)
	wantMake(t, items(at(1, 2), at(1, 1)), items(at(1, 1), at(1, 2)), api.OK)
	wantMake(t, items(at(1, 2), at(1, 1), at(1, 2), at(5, 3), at(0, 4), at(-3, 2)), items(at(1, 1), at(-1, 2), at(5, 3)), api.OK)
	wantMake(t, items(at(1, 2), at(7, 1), at(-1, 2), at(3, 3), at(-7, 1)), items(at(3, 3)), api.OK)
	wantMake(t, items(of(1, text("10")), of(1, num(10)), of(1, text("2")), of(1, num(2)), of(1)), items(of(1), of(1, num(2)), of(1, num(10)), of(1, text("10")), of(1, text("2"))), api.OK)
	wantMake(t, items(at(1, 1), at(1, 1, 1), at(1, 1)), items(at(2, 1), at(1, 1, 1)), api.OK)
}

func TestMakeOfAnyOrder(t *testing.T) {
	wantMake(t, samples.Set(), samples.Set(), api.OK)
	back := samples.Set()
	slices.Reverse(back)
	wantMake(t, back, samples.Set(), api.OK)
	r := rand.New(rand.NewSource(1))
	for range 300 {
		l := samples.Set()
		r.Shuffle(len(l), func(i, k int) { l[i], l[k] = l[k], l[i] })
		wantMake(t, l, samples.Set(), api.OK)
		l = append(l, l...)
		for i := range len(l) / 2 {
			l[i].W = 0
		}
		r.Shuffle(len(l), func(i, k int) { l[i], l[k] = l[k], l[i] })
		wantMake(t, l, samples.Set(), api.OK)
	}
}

func TestMakeOfAWrongItem(t *testing.T) {
	for _, x := range samples.WrongItems() {
		wantMake(t, items(x), nil, api.ErrArg)
		wantMake(t, items(x, x), nil, api.ErrArg)
		for place := range samples.Set() {
			wantMake(t, with(samples.Set(), place, x), nil, api.ErrArg)
		}
		// That a sum is beyond the bounds is told of right Items alone, wherever they stand.
		for _, w := range []int{most, -most} {
			wantMake(t, items(at(w, 1), at(w, 1), x), nil, api.ErrArg)
			wantMake(t, items(x, at(w, 1), at(w, 1)), nil, api.ErrArg)
			wantMake(t, items(at(w, 1), x, at(w, 1), at(w, 9)), nil, api.ErrArg)
		}
		zero := x
		zero.W = 0
		if x.W <= most && x.W >= -most {
			wantMake(t, items(zero), nil, api.ErrArg)
			wantMake(t, items(at(1, 1), zero), nil, api.ErrArg)
		}
	}
	// Weights that are not right stay so where their sum would be.
	wantMake(t, items(at(most+1, 1), at(-1, 1)), nil, api.ErrArg)
	wantMake(t, items(at(-1, 1), at(most+1, 1)), nil, api.ErrArg)
	wantMake(t, items(at(most+1, 1), at(-most-1, 1)), nil, api.ErrArg)
}

func TestMakeAtTheBounds(t *testing.T) {
	for _, w := range []int{1, -1} {
		for _, r := range samples.Rows() {
			wantMake(t, items(of(w*most, r...)), items(of(w*most, r...)), api.OK)
			wantMake(t, items(of(w*(most-1), r...), of(w, r...)), items(of(w*most, r...)), api.OK)
			wantMake(t, items(of(w*most, r...), of(w, r...)), nil, api.ErrOver)
			wantMake(t, items(of(w, r...), of(w*most, r...)), nil, api.ErrOver)
			wantMake(t, items(of(w*most, r...), of(w*most, r...)), nil, api.ErrOver)
			wantMake(t, items(of(w*most, r...), of(-w*most, r...)), nil, api.OK)
			wantMake(t, items(of(w*most, r...), of(w*most, r...), of(-w*most, r...)), items(of(w*most, r...)), api.OK)
			wantMake(t, items(of(w*most, r...), of(w, r...), of(-w, r...)), items(of(w*most, r...)), api.OK)
		}
		wantMake(t, items(at(w*most, 1), at(w*most, 2), at(w*most, 3)), items(at(w*most, 1), at(w*most, 2), at(w*most, 3)), api.OK)
		for _, n := range []int{1, 2, 3} {
			wantMake(t, items(at(w*most, 1), at(w*most, 2), at(w*most, 3), at(w, n)), nil, api.ErrOver)
		}
	}
}

// So many of the greatest weights do not fit in 63 bits, or in 64: a sum that wraps would be a weight again.
func TestMakeOfSumsThatWrap(t *testing.T) {
	for _, n := range []int{2, 3, 63, 64, 127, 128, 129, 255, 256, 257, 383, 384, 511, 512, 513, 1024, 4096, 8192} {
		for _, w := range []int{most, -most, most - 1, 1 - most, most / 2, -most / 2} {
			want, e := wideSum(slices.Repeat(items(at(w, 5)), n))
			wantMake(t, slices.Repeat(items(at(w, 5)), n), want, e)
			rest := items(at(3, 5), at(1, 1), at(2, 9))
			wantMake(t, slices.Concat(slices.Repeat(items(at(w, 5)), n), rest, slices.Repeat(items(at(-w, 5)), n)), items(at(1, 1), at(3, 5), at(2, 9)), api.OK)
			wantMake(t, slices.Concat(slices.Repeat(items(at(w, 5)), n), slices.Repeat(items(at(-w, 5)), n-1)), items(at(w, 5)), api.OK)
		}
	}
}

// However many there are, and however far the sum goes on its way, it comes back.
func TestMakeOfVeryMany(t *testing.T) {
	const n = 1 << 18
	for _, w := range []int{most, -most, most - 1, 1 - most} {
		l := slices.Repeat(items(at(w, 5)), n)
		if z, e := zset.Make(l); len(z) != 0 || e != api.ErrOver {
			t.Errorf("of %d, each %d: got %v, %d", n, w, z, e)
		}
		l = append(l, slices.Repeat(items(at(-w, 5)), n-1)...)
		if z, e := zset.Make(l); !same(z, items(at(w, 5))) || e != api.OK {
			t.Errorf("of %d, each %d, and all but one back: got %v, %d", n, w, z, e)
		}
		if z, e := zset.Make(append(l, at(-w, 5), at(7, 5))); !same(z, items(at(7, 5))) || e != api.OK {
			t.Errorf("of %d, each %d, all back, and 7: got %v, %d", n, w, z, e)
		}
	}
}

// Sums about the bounds, made of parts whose lower and upper halves are of many kinds.
func TestMakeOfSumsNearTheBounds(t *testing.T) {
	r := rand.New(rand.NewSource(2))
	for range 20000 {
		var l []api.Item
		for range 1 + r.Intn(9) {
			w := []int{most, -most, most - 1, 1 - most, 1, -1, 1 << 28, -1 << 28, 1<<28 - 1, 1 - 1<<28, r.Intn(2*most+1) - most}[r.Intn(11)]
			l = append(l, at(w, r.Intn(2)))
		}
		aim := []int{most, -most, most + 1, -most - 1, most - 1, 1 - most, 0, 1}[r.Intn(8)]
		if left := aim - sumOf(l, 0); left <= most && left >= -most {
			l = append(l, at(left, 0))
		}
		want, e := wideSum(l)
		wantMake(t, l, want, e)
	}
}

// sumOf has the sum of a row's weights, where it is no greater than that of a few.
func sumOf(l []api.Item, n int) int {
	s := 0
	for _, x := range l {
		if x.Row[0].I == n {
			s += x.W
		}
	}
	return s
}

// anyItems has right Items, of few rows, so that many are of the same.
func anyItems(r *rand.Rand, n int) []api.Item {
	rows := samples.Rows()
	var l []api.Item
	for range n {
		w := []int{0, 1, -1, 2, -2, 3, most, -most, most - 1, r.Intn(2*most+1) - most}[r.Intn(7+r.Intn(4))]
		l = append(l, of(w, rows[r.Intn(len(rows))]...))
	}
	return l
}

func TestMakeOfMany(t *testing.T) {
	r := rand.New(rand.NewSource(3))
	over := 0
	for range 5000 {
		l := anyItems(r, r.Intn(60))
		want, e := wideSum(l)
		wantMake(t, l, want, e)
		if e == api.ErrOver {
			over++
		}
	}
	if over < 100 || over > 4900 {
		t.Errorf("%d of 5000 were beyond the bounds", over)
	}
}

// P14.1: Rows

func TestRows(t *testing.T) {
	wantRows(t, nil, nil, api.OK)
	wantRows(t, [][]api.Value{nil}, items(of(1)), api.OK)
	wantRows(t, [][]api.Value{nil, {}, nil}, items(of(3)), api.OK)
	wantRows(t, [][]api.Value{rowOf(3), rowOf(1), rowOf(3), rowOf(2, 2), rowOf(3)}, items(at(1, 1), at(1, 2, 2), at(3, 3)), api.OK)
	want := items()
	var l [][]api.Value
	for i, r := range samples.Rows() {
		want = append(want, of(i+1, r...))
		for range i + 1 {
			l = append(l, r)
		}
	}
	wantRows(t, l, want, api.OK)
	slices.Reverse(l)
	wantRows(t, l, want, api.OK)
}

func TestWrongRows(t *testing.T) {
	for _, r := range samples.WrongRows() {
		wantRows(t, [][]api.Value{r}, nil, api.ErrArg)
		for place := range samples.Rows() {
			l := samples.Rows()
			l[place] = r
			wantRows(t, l, nil, api.ErrArg)
		}
	}
}
