package pred_test

import (
	"math"
	"math/rand"
	"slices"
	"testing"

	"raddle/api"
	"raddle/pred"
	"raddle/samples"
)

// P15.2

// is tells whether a Pred of that Kind is to hold of a column and of what it is held against, by their places in the order.
func is(kind, column, against int) bool {
	if kind == api.PredEq || kind == api.PredEqCol {
		return column == against
	}
	return column < against
}

func TestHoldsOfAColumnAndAValue(t *testing.T) {
	for _, up := range [][]api.Value{samples.Values(), samples.AnyValues()} {
		for i, a := range up {
			for k, b := range up {
				for _, kind := range byVal() {
					wantHolds(t, api.Pred{Kind: kind, Val: b}, []api.Value{a}, is(kind, i, k))
					wantHolds(t, api.Pred{Kind: kind, Col: 1, Other: math.MinInt, Val: b}, []api.Value{b, a, b}, is(kind, i, k))
				}
			}
		}
	}
}

func TestHoldsOfTwoColumns(t *testing.T) {
	for _, up := range [][]api.Value{samples.Values(), samples.AnyValues()} {
		for i, a := range up {
			for k, b := range up {
				for _, kind := range byOther() {
					wantHolds(t, api.Pred{Kind: kind, Col: 0, Other: 1, Val: a}, []api.Value{a, b}, is(kind, i, k))
					wantHolds(t, api.Pred{Kind: kind, Col: 2, Other: 0, Val: b}, []api.Value{b, {}, a}, is(kind, i, k))
				}
			}
			for _, kind := range byOther() {
				wantHolds(t, api.Pred{Kind: kind, Val: up[0]}, []api.Value{a}, is(kind, i, i))
			}
		}
	}
}

// It is the Kind alone that makes a Value null.
func TestHoldsOfNulls(t *testing.T) {
	for _, v := range slices.Concat(samples.Values(), samples.WrongValues(), samples.AnyValues()) {
		for _, at := range []int{0, 2} {
			r := []api.Value{null(), num(1), null()}
			r[at] = v
			wantHolds(t, api.Pred{Kind: api.PredNull, Col: at, Other: math.MaxInt, Val: num(1)}, r, v.Kind == api.Null)
			wantHolds(t, api.Pred{Kind: api.PredNot, Col: at, Other: math.MaxInt, Val: null()}, r, v.Kind != api.Null)
		}
	}
}

func TestNullIsLessThanAllOthers(t *testing.T) {
	for _, v := range samples.Values()[1:] {
		wantHolds(t, api.Pred{Kind: api.PredLess, Val: v}, []api.Value{null()}, true)
		wantHolds(t, api.Pred{Kind: api.PredLess, Val: null()}, []api.Value{v}, false)
		wantHolds(t, api.Pred{Kind: api.PredLessCol, Other: 1}, []api.Value{null(), v}, true)
		wantHolds(t, api.Pred{Kind: api.PredEq, Val: null()}, []api.Value{v}, false)
	}
	wantHolds(t, api.Pred{Kind: api.PredEq, Val: null()}, []api.Value{null()}, true)
	wantHolds(t, api.Pred{Kind: api.PredLess, Val: null()}, []api.Value{null()}, false)
}

// holding has Preds of one Kind, some of which hold of a row, whatever it has at its places.
func holding(kind, col, other int, v api.Value) []api.Pred {
	return []api.Pred{{Kind: kind, Col: col, Other: other, Val: v}, {Kind: kind, Col: col, Other: other, Val: num(math.MaxInt)}, {Kind: kind, Col: col, Other: other}}
}

func TestHoldsNotAtPlacesThatAreNone(t *testing.T) {
	for _, r := range [][]api.Value{nil, {}, {null()}, {num(1)}, {null(), num(1), null()}} {
		for _, kind := range kinds() {
			for _, col := range noPlaces(len(r)) {
				for _, p := range slices.Concat(holding(kind, col, 0, null()), holding(kind, col, col, null())) {
					wantHolds(t, p, r, false)
				}
			}
		}
		for _, kind := range byOther() {
			for _, other := range noPlaces(len(r)) {
				for _, p := range holding(kind, 0, other, null()) {
					wantHolds(t, p, r, false)
				}
			}
		}
	}
}

// Other may be any number where it is not asked.
func TestHoldsAsksOtherOnlyOfTwoColumns(t *testing.T) {
	for _, other := range noPlaces(2) {
		r := []api.Value{null(), num(1)}
		wantHolds(t, api.Pred{Kind: api.PredEq, Col: 1, Other: other, Val: num(1)}, r, true)
		wantHolds(t, api.Pred{Kind: api.PredLess, Col: 1, Other: other, Val: num(2)}, r, true)
		wantHolds(t, api.Pred{Kind: api.PredNull, Other: other}, r, true)
		wantHolds(t, api.Pred{Kind: api.PredNot, Col: 1, Other: other}, r, true)
	}
}

func TestHoldsNotOfKindsThatAreNone(t *testing.T) {
	for _, kind := range noKinds() {
		for _, v := range samples.Values() {
			for _, p := range slices.Concat(holding(kind, 0, 1, v), holding(kind, 1, 0, v), holding(kind, 0, 0, v)) {
				wantHolds(t, p, []api.Value{v, null()}, false)
			}
		}
	}
}

// Rows are asked that are longer than a right one may be.
func TestHoldsAtAnyPlace(t *testing.T) {
	var r []api.Value
	for i := range 1000 {
		r = append(r, num(i))
	}
	for i := range r {
		wantHolds(t, api.Pred{Kind: api.PredEq, Col: i, Val: num(i)}, r, true)
		wantHolds(t, api.Pred{Kind: api.PredLess, Col: i, Val: num(500)}, r, i < 500)
		wantHolds(t, api.Pred{Kind: api.PredLessCol, Col: i, Other: 999 - i}, r, i < 500)
		wantHolds(t, api.Pred{Kind: api.PredEqCol, Col: i, Other: i}, r, true)
	}
}

// P15.3

// just tells whether one alone is true.
func just(all ...bool) bool {
	count := 0
	for _, one := range all {
		if one {
			count++
		}
	}
	return count == 1
}

func TestOneIsLessOrTheOtherOrTheyAreEqual(t *testing.T) {
	random, all := rand.New(rand.NewSource(15)), slices.Concat(samples.Values(), samples.WrongValues(), samples.AnyValues())
	for range 20000 {
		r := make([]api.Value, 1+random.Intn(api.MaxArity))
		for i := range r {
			r[i] = all[random.Intn(len(all))]
		}
		a, b := random.Intn(len(r)), random.Intn(len(r))
		if random.Intn(4) == 0 {
			r[b] = r[a]
		}
		less := pred.Holds(api.Pred{Kind: api.PredLessCol, Col: a, Other: b}, r)
		more := pred.Holds(api.Pred{Kind: api.PredLessCol, Col: b, Other: a}, r)
		equal := pred.Holds(api.Pred{Kind: api.PredEqCol, Col: a, Other: b}, r)
		if !just(less, more, equal) || equal != (r[a] == r[b]) {
			t.Fatalf("columns %d and %d of %v: less %v, more %v, equal %v", a, b, r, less, more, equal)
		}
		// The other way about, the Value stands in the column, and the column is the Value.
		turned := slices.Clone(r)
		turned[a] = r[b]
		byVal := []bool{
			pred.Holds(api.Pred{Kind: api.PredLess, Col: a, Val: r[b]}, r),
			pred.Holds(api.Pred{Kind: api.PredLess, Col: a, Val: r[a]}, turned),
			pred.Holds(api.Pred{Kind: api.PredEq, Col: a, Val: r[b]}, r),
		}
		if !slices.Equal(byVal, []bool{less, more, equal}) {
			t.Fatalf("column %d of %v and %v: got %v; of two columns %v, %v, %v", a, r, r[b], byVal, less, more, equal)
		}
	}
}
