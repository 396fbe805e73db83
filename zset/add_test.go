package zset_test

import (
	"math/rand"
	"slices"
	"testing"

	"raddle/api"
	"raddle/samples"
	"raddle/zset"
)

func wantAdd(t *testing.T, a, b, want []api.Item, wantE api.Errno) {
	t.Helper()
	got, e := zset.Add(a, b)
	if !same(got, want) || e != wantE {
		t.Errorf("Add(%v, %v): got %v, %d; want %v, %d", a, b, got, e, want, wantE)
	}
	if e == api.OK {
		wantCheck(t, got, api.OK)
	}
}

func wantNeg(t *testing.T, a, want []api.Item, wantE api.Errno) {
	t.Helper()
	got, e := zset.Neg(a)
	if !same(got, want) || e != wantE {
		t.Errorf("Neg(%v): got %v, %d; want %v, %d", a, got, e, want, wantE)
	}
}

func wantWeight(t *testing.T, z []api.Item, r []api.Value, want int) {
	t.Helper()
	if got := zset.Weight(z, r); got != want {
		t.Errorf("Weight(%v, %v): got %d, want %d", z, r, got, want)
	}
}

func wantSize(t *testing.T, z []api.Item, want int) {
	t.Helper()
	if got := zset.Size(z); got != want {
		t.Errorf("Size(%v): got %d, want %d", z, got, want)
	}
}

// P14.2: Add

func TestAdd(t *testing.T) {
	one, two := items(at(2, 1), at(-3, 4)), items(at(1, 0), at(-2, 1), at(5, 4))
	wantAdd(t, nil, nil, nil, api.OK)
	wantAdd(t, one, nil, one, api.OK)
	wantAdd(t, nil, one, one, api.OK)
	wantAdd(t, one, two, items(at(1, 0), at(2, 4)), api.OK)
	wantAdd(t, one, one, items(at(4, 1), at(-6, 4)), api.OK)
	wantAdd(t, one, items(at(1, 0), at(1, 2), at(1, 5)), items(at(1, 0), at(2, 1), at(1, 2), at(-3, 4), at(1, 5)), api.OK)
	wantAdd(t, one, items(at(-2, 1), at(3, 4)), nil, api.OK)
	wantAdd(t, one, items(at(-2, 1)), items(at(-3, 4)), api.OK)
	wantAdd(t, one, items(at(3, 4)), items(at(2, 1)), api.OK)
	wantAdd(t, items(of(1)), items(of(2), at(1, 1)), items(of(3), at(1, 1)), api.OK)
	wantAdd(t, items(at(1, 1), at(1, 2)), items(at(1, 8), at(1, 9)), items(at(1, 1), at(1, 2), at(1, 8), at(1, 9)), api.OK)
	wantAdd(t, items(at(1, 8), at(1, 9)), items(at(1, 1), at(1, 2)), items(at(1, 1), at(1, 2), at(1, 8), at(1, 9)), api.OK)
}

func TestAddOfOneThatIsNotRight(t *testing.T) {
	over := items(at(most, 1))
	for _, z := range samples.WrongSets() {
		for _, other := range [][]api.Item{nil, over, samples.Set(), z} {
			wantAdd(t, z, other, nil, api.ErrArg)
			wantAdd(t, other, z, nil, api.ErrArg)
		}
	}
	// That the sum is beyond the bounds is told of right sets alone.
	wantAdd(t, over, items(at(most, 1), at(0, 2)), nil, api.ErrArg)
	wantAdd(t, items(at(most, 1), at(1, 0)), over, nil, api.ErrArg)
	wantAdd(t, items(at(most, 1), at(1, 2), at(1, 2)), over, nil, api.ErrArg)
	wantAdd(t, over, items(at(most, 1), at(most+1, 2)), nil, api.ErrArg)
}

func TestAddAtTheBounds(t *testing.T) {
	for _, w := range []int{1, -1} {
		for _, rest := range [][]api.Item{nil, items(of(5)), items(at(5, 9)), items(of(5), at(-5, 9))} {
			full, _ := zset.Make(append(items(at(w*most, 1)), rest...))
			wantAdd(t, full, items(at(w, 1)), nil, api.ErrOver)
			wantAdd(t, items(at(w, 1)), full, nil, api.ErrOver)
			wantAdd(t, full, full, nil, api.ErrOver)
			wantAdd(t, full, items(at(-w*most, 1)), rest, api.OK)
			less, _ := zset.Make(append(items(at(w*(most-1), 1)), rest...))
			wantAdd(t, less, items(at(w, 1)), full, api.OK)
			wantAdd(t, full, items(at(-w, 1)), less, api.OK)
			wantAdd(t, less, items(at(2*w, 1)), nil, api.ErrOver)
		}
	}
}

// The sum is what the Items of both make, one behind the other.
func TestAddOfMany(t *testing.T) {
	r := rand.New(rand.NewSource(4))
	over := 0
	for range 4000 {
		a, b := anySet(r), anySet(r)
		want, e := wideSum(slices.Concat(a, b))
		wantAdd(t, a, b, want, e)
		if e == api.ErrOver {
			over++
		}
	}
	if over < 100 || over > 3900 {
		t.Errorf("%d of 4000 were beyond the bounds", over)
	}
}

// anySet has one with weights of all kinds.
func anySet(r *rand.Rand) []api.Item {
	for {
		if z, e := zset.Make(anyItems(r, r.Intn(25))); e == api.OK {
			return z
		}
	}
}

// P14.2: Neg

func TestNeg(t *testing.T) {
	wantNeg(t, nil, nil, api.OK)
	wantNeg(t, items(of(4)), items(of(-4)), api.OK)
	wantNeg(t, items(at(most, 1), at(-most, 2), at(1, 3), at(-1, 4)), items(at(-most, 1), at(most, 2), at(-1, 3), at(1, 4)), api.OK)
	want := samples.Set()
	for i := range want {
		want[i].W *= -1
	}
	wantNeg(t, samples.Set(), want, api.OK)
	for _, z := range samples.WrongSets() {
		wantNeg(t, z, nil, api.ErrArg)
	}
}

// P14.2: Weight

func TestWeight(t *testing.T) {
	wantWeight(t, nil, nil, 0)
	wantWeight(t, nil, rowOf(1), 0)
	for _, x := range samples.Set() {
		wantWeight(t, samples.Set(), x.Row, x.W)
	}
	for i, x := range samples.Set() {
		wantWeight(t, slices.Delete(samples.Set(), i, i+1), x.Row, 0)
	}
	for _, r := range [][]api.Value{rowOf(1), rowOf(-1), {text("1")}, {num(0), num(0), num(0)}, slices.Repeat([]api.Value{null()}, api.MaxArity+1), {null(), null(), null()}, {{}}, {{Kind: api.Null, I: 1}}, {{Kind: api.Int, I: 2, S: "x"}}} {
		wantWeight(t, samples.Set(), r, 0)
	}
}

// Of sets that are not right the first Item tells, wherever it stands, whatever it is.
func TestWeightOfAnySet(t *testing.T) {
	wantWeight(t, items(at(5, 2), at(7, 2)), rowOf(2), 5)
	wantWeight(t, items(at(1, 9), at(-5, 2), at(7, 2), at(8, 1)), rowOf(2), -5)
	wantWeight(t, items(at(0, 2), at(7, 2)), rowOf(2), 0)
	wantWeight(t, items(at(4, 3), at(3, 2), at(2, 1)), rowOf(3), 4)
	wantWeight(t, items(at(4, 3), at(3, 2), at(2, 1)), rowOf(2), 3)
	wantWeight(t, items(at(4, 3), at(3, 2), at(2, 1)), rowOf(1), 2)
	wantWeight(t, items(at(4, 3), at(3, 2), at(2, 1)), rowOf(4), 0)
	for _, w := range samples.WrongWeights() {
		wantWeight(t, items(at(1, 1), at(w, 2)), rowOf(2), w)
	}
	for _, r := range samples.WrongRows() {
		wantWeight(t, items(at(1, 1), of(6, r...), of(7, r...)), r, 6)
		wantWeight(t, items(at(1, 1), of(6, r...)), rowOf(1), 1)
	}
	back := samples.Set()
	slices.Reverse(back)
	for _, x := range back {
		wantWeight(t, slices.Concat(back, items(of(99, x.Row...))), x.Row, x.W)
		wantWeight(t, slices.Concat(items(of(99, x.Row...)), back), x.Row, 99)
	}
}

// P14.2: Size

func TestSize(t *testing.T) {
	wantSize(t, nil, 0)
	wantSize(t, items(of(1)), 1)
	wantSize(t, items(of(-1)), 1)
	wantSize(t, items(at(2, 1), at(-3, 4)), 5)
	wantSize(t, items(at(-3, 1), at(-4, 2), at(7, 3)), 14)
	wantSize(t, items(at(most, 1)), most)
	wantSize(t, items(at(-most, 1)), most)
	for _, z := range samples.WrongSets() {
		wantSize(t, z, 0)
	}
}

// equal has a set of n rows, each with this weight, of the one sign and of the other by turns.
func equal(n, w int) []api.Item {
	var z []api.Item
	for i := range n {
		z = append(z, at(w, i))
		w = -w
	}
	return z
}

func TestSizeAtTheBound(t *testing.T) {
	full := api.MaxValue / most
	wantSize(t, equal(full-1, most), api.MaxValue-most)
	wantSize(t, equal(full, most), api.MaxValue)
	wantSize(t, equal(full, -most), api.MaxValue)
	wantSize(t, append(equal(full-1, most), at(most-1, 99)), api.MaxValue-1)
	wantSize(t, append(equal(full-1, most), at(1-most, 99)), api.MaxValue-1)
	wantSize(t, append(equal(full, most), at(1, 99)), api.MaxValue)
	wantSize(t, append(equal(full, most), at(-1, 99)), api.MaxValue)
	wantSize(t, append(append(equal(full-1, most), at(most-1, 99)), at(2, 100)), api.MaxValue)
	for _, n := range []int{17, 40, 127, 128, 129, 255, 256, 257, 512, 1024} {
		wantSize(t, equal(n, most), api.MaxValue)
		wantSize(t, append(equal(n, most), at(0, 9999)), 0)
		wantSize(t, append(equal(n, most), at(1, 0)), 0)
	}
}

func TestSizeOfMany(t *testing.T) {
	r := rand.New(rand.NewSource(5))
	for range 1000 {
		var z []api.Item
		want := 0
		for i := range r.Intn(30) {
			w := 1 + r.Intn([]int{3, 1 << 30, most}[r.Intn(3)])
			z = append(z, at(w*(1-2*r.Intn(2)), i))
			want = min(want+w, api.MaxValue)
		}
		wantSize(t, z, want)
	}
}

// P14.3

func sum(t *testing.T, a, b []api.Item) []api.Item {
	t.Helper()
	z, e := zset.Add(a, b)
	if e != api.OK {
		t.Fatalf("Add(%v, %v): %d", a, b, e)
	}
	return z
}

// smallSet has one of small weights, so that a sum of several is never beyond the bounds.
func smallSet(r *rand.Rand) []api.Item {
	var l []api.Item
	for range r.Intn(30) {
		l = append(l, of(r.Intn(7)-3, samples.Rows()[r.Intn(23)]...))
	}
	z, _ := zset.Make(l)
	return z
}

func TestAddHangsOnNoOrder(t *testing.T) {
	r := rand.New(rand.NewSource(6))
	for range 2000 {
		a, b, c, d := smallSet(r), smallSet(r), smallSet(r), smallSet(r)
		want, _ := zset.Make(slices.Concat(a, b, c, d))
		for _, got := range [][]api.Item{
			sum(t, sum(t, sum(t, a, b), c), d), sum(t, sum(t, a, b), sum(t, c, d)), sum(t, a, sum(t, b, sum(t, c, d))),
			sum(t, d, sum(t, c, sum(t, b, a))), sum(t, sum(t, d, b), sum(t, a, c)), sum(t, b, sum(t, sum(t, d, a), c)),
		} {
			if !same(got, want) {
				t.Fatalf("got %v, want %v", got, want)
			}
		}
	}
	for range 2000 {
		a, b := anySet(r), anySet(r)
		ahead, e := zset.Add(a, b)
		behind, f := zset.Add(b, a)
		if !same(ahead, behind) || e != f {
			t.Fatalf("%v, %v: got %v, %d, and %v, %d", a, b, ahead, e, behind, f)
		}
	}
}

func TestOneAndItsNegAreNothing(t *testing.T) {
	r := rand.New(rand.NewSource(7))
	for range 2000 {
		a, b := anySet(r), anySet(r)
		turned, e := zset.Neg(a)
		if back, f := zset.Neg(turned); e != api.OK || f != api.OK || !same(back, a) {
			t.Fatalf("Neg(%v): %v, %d; and again: %v, %d", a, turned, e, back, f)
		}
		wantAdd(t, a, turned, nil, api.OK)
		wantAdd(t, turned, a, nil, api.OK)
		wantSize(t, turned, zset.Size(a))
		if both, e := zset.Add(a, b); e == api.OK {
			wantAdd(t, both, turned, b, api.OK)
			wantAdd(t, turned, both, b, api.OK)
		}
	}
}
