package lin_test

import (
	"math/rand"
	"slices"
	"testing"

	"raddle/api"
	"raddle/lin"
	"raddle/zset"
)

// anyRow has one of few, so that many are alike, and most of those that are not are so in one place.
func anyRow(r *rand.Rand, arity int) []api.Value {
	l := make([]api.Value, arity)
	for i := range l {
		l[i] = []api.Value{null(), truth(1), num(-1), num(2), text("2")}[r.Intn(5)]
	}
	return l
}

// anyPred has one that asks the columns of such rows, and at times one that is not there.
func anyPred(r *rand.Rand) api.Pred {
	return api.Pred{Kind: r.Intn(8), Col: r.Intn(4), Other: r.Intn(4), Val: anyRow(r, 1)[0]}
}

// anyCols has places in rows of that arity.
func anyCols(r *rand.Rand, arity int) []int {
	cols := make([]int, r.Intn(4))
	for i := range cols {
		cols[i] = r.Intn(arity)
	}
	return cols
}

// anySet has one of rows with so many columns, its weights from -top to top.
func anySet(r *rand.Rand, arity, top int) []api.Item {
	var l []api.Item
	for range r.Intn(20) {
		x := of(r.Intn(2*top+1)-top, anyRow(r, arity)...)
		if !slices.ContainsFunc(l, func(y api.Item) bool { return slices.Equal(x.Row, y.Row) }) {
			l = append(l, x)
		}
	}
	z, e := gathered(l)
	if e != api.OK {
		panic("a sum of one weight is beyond the bound")
	}
	return z
}

// P16.1, of many

// picked has of each Item the Row at these places.
func picked(z []api.Item, cols []int) []api.Item {
	var l []api.Item
	for _, x := range z {
		y := of(x.W)
		for _, c := range cols {
			y.Row = append(y.Row, x.Row[c])
		}
		l = append(l, y)
	}
	return l
}

func TestOfManySets(t *testing.T) {
	r, over := rand.New(rand.NewSource(16)), 0
	for range 6000 {
		arity, top := 1+r.Intn(3), []int{3, most / 2, most}[r.Intn(3)]
		a, b, cols := anySet(r, arity, top), anySet(r, arity, top), anyCols(r, arity)
		want, e := gathered(picked(a, cols))
		wantProject(t, a, cols, want, e)
		more, f := gathered(slices.Concat(a, b))
		wantUnion(t, a, b, more, f)
		less, g := gathered(slices.Concat(a, turned(b)))
		wantMinus(t, a, b, less, g)
		for _, e := range []api.Errno{e, f, g} {
			if e == api.ErrOver {
				over++
			}
		}
	}
	if over < 500 || over > 15000 {
		t.Errorf("%d of 18000 were beyond the bounds", over)
	}
}

// P16.2

// maps has one of each that tells a set of a set. A sum goes into one side of Union and Minus where nothing goes into
// the other; both sides at once are asked of apart.
func maps(r *rand.Rand, arity int) []func(z []api.Item) ([]api.Item, api.Errno) {
	p, cols := anyPred(r), anyCols(r, arity)
	return []func(z []api.Item) ([]api.Item, api.Errno){
		func(z []api.Item) ([]api.Item, api.Errno) { return lin.Filter(z, p) },
		func(z []api.Item) ([]api.Item, api.Errno) { return lin.Project(z, cols) },
		func(z []api.Item) ([]api.Item, api.Errno) { return lin.Union(z, nil) },
		func(z []api.Item) ([]api.Item, api.Errno) { return lin.Union(nil, z) },
		func(z []api.Item) ([]api.Item, api.Errno) { return lin.Minus(z, nil) },
		func(z []api.Item) ([]api.Item, api.Errno) { return lin.Minus(nil, z) },
		func(z []api.Item) ([]api.Item, api.Errno) { return lin.Union(z, z) },
		func(z []api.Item) ([]api.Item, api.Errno) { return lin.Minus(z, z) },
	}
}

// told has what a call tells, where it has no error.
func told(t *testing.T, z []api.Item, e api.Errno) []api.Item {
	t.Helper()
	if e != api.OK {
		t.Fatalf("error %d", e)
	}
	return z
}

func sum(t *testing.T, all ...[]api.Item) []api.Item {
	t.Helper()
	var z []api.Item
	for _, part := range all {
		more, e := zset.Add(z, part)
		z = told(t, more, e)
	}
	return z
}

// Where the weights are small no sum is beyond the bound, so that all that is asked is told.
func TestOfASumEachTellsTheSum(t *testing.T) {
	r := rand.New(rand.NewSource(162))
	for range 4000 {
		arity := 1 + r.Intn(3)
		parts := [][]api.Item{anySet(r, arity, 2), anySet(r, arity, 2), anySet(r, arity, 2)}
		for i, ask := range maps(r, arity) {
			var all [][]api.Item
			for _, part := range parts {
				z, e := ask(part)
				all = append(all, told(t, z, e))
			}
			got, e := ask(sum(t, parts...))
			if want := sum(t, all...); e != api.OK || !same(got, want) {
				t.Fatalf("map %d, of the sum of %v: got %v, %d; the parts make %v", i, parts, got, e, want)
			}
		}
	}
}

func TestOfTwoSumsUnionAndMinusTellTheSum(t *testing.T) {
	r := rand.New(rand.NewSource(163))
	for range 4000 {
		arity := 1 + r.Intn(3)
		a, b, c, d := anySet(r, arity, 2), anySet(r, arity, 2), anySet(r, arity, 2), anySet(r, arity, 2)
		for i, ask := range []func(a, b []api.Item) ([]api.Item, api.Errno){lin.Union, lin.Minus} {
			one, e := ask(a, b)
			other, f := ask(c, d)
			got, g := ask(sum(t, a, c), sum(t, b, d))
			want := sum(t, told(t, one, e), told(t, other, f))
			if g != api.OK || !same(got, want) {
				t.Fatalf("call %d of %v and %v, %v and %v: got %v, %d; want %v", i, a, c, b, d, got, g, want)
			}
		}
	}
}

// Of great weights sums may be beyond the bound: where each part is told, and their sum too, the whole is told alike.
// What Filter, the first, tells of the parts of a sum that is told is never beyond it.
func TestOfASumAtTheBoundEachTellsTheSum(t *testing.T) {
	r, asked := rand.New(rand.NewSource(164)), map[int]int{}
	for range 6000 {
		arity := 1 + r.Intn(3)
		a, b := anySet(r, arity, most/2), anySet(r, arity, most)
		both, e := zset.Add(a, b)
		if e != api.OK {
			continue
		}
		for i, ask := range maps(r, arity) {
			one, e := ask(a)
			other, f := ask(b)
			want, g := zset.Add(one, other)
			if i > 0 && (e != api.OK || f != api.OK || g != api.OK) {
				continue
			}
			if got, h := ask(both); h != api.OK || !same(got, want) {
				t.Fatalf("map %d, of the sum of %v and %v: got %v, %d; the parts make %v", i, a, b, got, h, want)
			}
			asked[i]++
		}
	}
	for i := range maps(r, 1) {
		if asked[i] < 300 {
			t.Errorf("map %d was asked %d times", i, asked[i])
		}
	}
}
