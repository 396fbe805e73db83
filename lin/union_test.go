package lin_test

import (
	"slices"
	"testing"

	"raddle/api"
	"raddle/lin"
	"raddle/samples"
)

func wantUnion(t *testing.T, a, b, want []api.Item, wantE api.Errno) {
	t.Helper()
	got, e := lin.Union(a, b)
	if !same(got, want) || e != wantE {
		t.Errorf("Union(%v, %v): got %v, %d; want %v, %d", a, b, got, e, want, wantE)
	}
}

func wantMinus(t *testing.T, a, b, want []api.Item, wantE api.Errno) {
	t.Helper()
	got, e := lin.Minus(a, b)
	if !same(got, want) || e != wantE {
		t.Errorf("Minus(%v, %v): got %v, %d; want %v, %d", a, b, got, e, want, wantE)
	}
}

// P16.1: Union

func TestUnion(t *testing.T) {
	a, b := items(at(2, 1), at(-3, 4)), items(at(1, 0), at(-2, 1), at(5, 4))
	wantUnion(t, nil, nil, nil, api.OK)
	wantUnion(t, a, nil, a, api.OK)
	wantUnion(t, nil, a, a, api.OK)
	wantUnion(t, a, b, items(at(1, 0), at(2, 4)), api.OK)
	wantUnion(t, b, a, items(at(1, 0), at(2, 4)), api.OK)
	wantUnion(t, a, items(at(-2, 1), at(3, 4)), nil, api.OK)
	wantUnion(t, a, items(at(1, 0), at(1, 2), at(1, 5)), items(at(1, 0), at(2, 1), at(1, 2), at(-3, 4), at(1, 5)), api.OK)
	wantUnion(t, pairs(), turned(pairs()), nil, api.OK)
	wantUnion(t, items(of(1)), items(of(2), of(1, null())), items(of(3), of(1, null())), api.OK)
}

func TestUnionWithItself(t *testing.T) {
	a := items(of(-1), at(2, 1), at(most/2, 4), at(-most/2, 5))
	wantUnion(t, a, a, items(of(-2), at(4, 1), at(most, 4), at(-most, 5)), api.OK)
	wantUnion(t, items(at(most/2+1, 1)), items(at(most/2+1, 1)), nil, api.ErrOver)
	wantUnion(t, samples.Set(), samples.Set(), nil, api.ErrOver)
}

func TestUnionAtTheBounds(t *testing.T) {
	for _, w := range []int{1, -1} {
		wantUnion(t, items(at(w*most, 1)), items(at(w*most, 2)), items(at(w*most, 1), at(w*most, 2)), api.OK)
		wantUnion(t, items(at(w*(most-1), 1)), items(at(w, 1)), items(at(w*most, 1)), api.OK)
		wantUnion(t, items(at(w*most, 1)), items(at(w, 1)), nil, api.ErrOver)
		wantUnion(t, items(at(w, 1)), items(at(w*most, 1)), nil, api.ErrOver)
		wantUnion(t, items(at(w*most, 1), at(3, 2)), items(at(1, 0), at(w*most, 1)), nil, api.ErrOver)
		wantUnion(t, items(at(w*most, 1)), items(at(-w*most, 1)), nil, api.OK)
	}
}

// P16.1: Minus

func TestMinus(t *testing.T) {
	a, b := items(at(2, 1), at(-3, 4)), items(at(1, 0), at(-2, 1), at(5, 4))
	wantMinus(t, nil, nil, nil, api.OK)
	wantMinus(t, a, nil, a, api.OK)
	wantMinus(t, nil, a, items(at(-2, 1), at(3, 4)), api.OK)
	wantMinus(t, a, b, items(at(-1, 0), at(4, 1), at(-8, 4)), api.OK)
	wantMinus(t, b, a, items(at(1, 0), at(-4, 1), at(8, 4)), api.OK)
	wantMinus(t, a, items(at(2, 1)), items(at(-3, 4)), api.OK)
	wantMinus(t, a, items(at(-3, 4), at(1, 5)), items(at(2, 1), at(-1, 5)), api.OK)
	wantMinus(t, nil, pairs(), turned(pairs()), api.OK)
	wantMinus(t, pairs(), chosen(0, 2, 3, 6), chosen(1, 4, 5), api.OK)
	wantMinus(t, items(of(1)), items(of(3), of(1, null())), items(of(-2), of(-1, null())), api.OK)
}

func TestMinusOfItself(t *testing.T) {
	for _, z := range [][]api.Item{nil, items(of(-4)), pairs(), samples.Set(), items(at(most, 1), at(-most, 2))} {
		wantMinus(t, z, z, nil, api.OK)
		wantMinus(t, z, slices.Clone(z), nil, api.OK)
	}
}

func TestMinusAtTheBounds(t *testing.T) {
	for _, w := range []int{1, -1} {
		wantMinus(t, nil, items(at(w*most, 1)), items(at(-w*most, 1)), api.OK)
		wantMinus(t, items(at(w*most, 1)), items(at(w*most, 2)), items(at(w*most, 1), at(-w*most, 2)), api.OK)
		wantMinus(t, items(at(w*(most-1), 1)), items(at(-w, 1)), items(at(w*most, 1)), api.OK)
		wantMinus(t, items(at(w*most, 1)), items(at(w, 1)), items(at(w*(most-1), 1)), api.OK)
		wantMinus(t, items(at(w*most, 1)), items(at(-w, 1)), nil, api.ErrOver)
		wantMinus(t, items(at(w, 1)), items(at(-w*most, 1)), nil, api.ErrOver)
		wantMinus(t, items(at(w*most, 1)), items(at(-w*most, 1)), nil, api.ErrOver)
		wantMinus(t, items(at(w*most, 1), at(3, 2)), items(at(1, 0), at(-w*most, 1)), nil, api.ErrOver)
	}
}

// That a sum is beyond the bound is told of right sets alone.
func TestUnionAndMinusOfSetsThatAreNone(t *testing.T) {
	one := items(at(most, 1))
	for _, z := range samples.WrongSets() {
		for _, other := range [][]api.Item{nil, one, turned(one), samples.Set(), z} {
			wantUnion(t, z, other, nil, api.ErrArg)
			wantUnion(t, other, z, nil, api.ErrArg)
			wantMinus(t, z, other, nil, api.ErrArg)
			wantMinus(t, other, z, nil, api.ErrArg)
		}
	}
	for _, w := range []int{1, -1} {
		wantUnion(t, one, items(at(most, 1), at(0, 2)), nil, api.ErrArg)
		wantUnion(t, items(at(most, 1), at(w, 1)), one, nil, api.ErrArg)
		wantMinus(t, one, items(at(-most, 1), at(0, 2)), nil, api.ErrArg)
		wantMinus(t, items(at(most, 1), at(w, 1)), turned(one), nil, api.ErrArg)
	}
}
