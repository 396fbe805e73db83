package lin_test

import (
	"math"
	"slices"
	"testing"

	"raddle/api"
	"raddle/lin"
	"raddle/pred"
	"raddle/row"
	"raddle/samples"
)

const most = api.MaxWeight

func null() api.Value         { return api.Value{Kind: api.Null} }
func truth(i int) api.Value   { return api.Value{Kind: api.Bool, I: i} }
func num(i int) api.Value     { return api.Value{Kind: api.Int, I: i} }
func text(s string) api.Value { return api.Value{Kind: api.Text, S: s} }

// of has one Item of a row.
func of(w int, r ...api.Value) api.Item { return api.Item{Row: r, W: w} }

// at has one Item of a row of numbers.
func at(w int, l ...int) api.Item {
	x := api.Item{W: w}
	for _, n := range l {
		x.Row = append(x.Row, num(n))
	}
	return x
}

func items(l ...api.Item) []api.Item { return l }

func same(a, b []api.Item) bool {
	return slices.EqualFunc(a, b, func(x, y api.Item) bool { return slices.Equal(x.Row, y.Row) && x.W == y.W })
}

func size(w int) int { return max(w, -w) }

// gathered has the set of l, worked out apart from package zset; of so few Items no sum wraps.
func gathered(l []api.Item) ([]api.Item, api.Errno) {
	var z []api.Item
	for _, x := range l {
		place := slices.IndexFunc(z, func(y api.Item) bool { return slices.Equal(x.Row, y.Row) })
		if place < 0 {
			z, place = append(z, api.Item{Row: x.Row}), len(z)
		}
		z[place].W += x.W
	}
	if slices.ContainsFunc(z, func(x api.Item) bool { return size(x.W) > most }) {
		return nil, api.ErrOver
	}
	z = slices.DeleteFunc(z, func(x api.Item) bool { return x.W == 0 })
	slices.SortFunc(z, func(x, y api.Item) int { return row.Compare(x.Row, y.Row) })
	return z, api.OK
}

func turned(z []api.Item) []api.Item {
	var out []api.Item
	for _, x := range z {
		out = append(out, of(-x.W, x.Row...))
	}
	return out
}

func wantFilter(t *testing.T, z []api.Item, p api.Pred, want []api.Item, wantE api.Errno) {
	t.Helper()
	got, e := lin.Filter(z, p)
	if !same(got, want) || e != wantE {
		t.Errorf("Filter(%v, %v): got %v, %d; want %v, %d", z, p, got, e, want, wantE)
	}
}

// P16.1: Filter

// pairs is a set of rows with two columns.
func pairs() []api.Item {
	return items(of(2, null(), null()), of(-1, null(), num(4)), of(most, truth(0), num(3)), of(7, num(3), num(3)), of(-most, num(3), num(4)), of(-2, num(4), num(3)), of(1, text("a"), null()))
}

// chosen has those Items of pairs.
func chosen(places ...int) []api.Item {
	var z []api.Item
	for _, place := range places {
		z = append(z, pairs()[place])
	}
	return z
}

func TestFilterByEachKind(t *testing.T) {
	for _, c := range []struct {
		p    api.Pred
		want []api.Item
	}{
		{api.Pred{Kind: api.PredEq, Col: 0, Val: num(3)}, chosen(3, 4)},
		{api.Pred{Kind: api.PredEq, Col: 0, Val: null()}, chosen(0, 1)},
		{api.Pred{Kind: api.PredEq, Col: 1, Val: num(3)}, chosen(2, 3, 5)},
		{api.Pred{Kind: api.PredLess, Col: 0, Val: num(4)}, chosen(0, 1, 2, 3, 4)},
		{api.Pred{Kind: api.PredLess, Col: 1, Val: num(4)}, chosen(0, 2, 3, 5, 6)},
		{api.Pred{Kind: api.PredLess, Col: 1, Val: num(3)}, chosen(0, 6)},
		{api.Pred{Kind: api.PredEqCol, Col: 0, Other: 1}, chosen(0, 3)},
		{api.Pred{Kind: api.PredLessCol, Col: 0, Other: 1}, chosen(1, 2, 4)},
		{api.Pred{Kind: api.PredLessCol, Col: 1, Other: 0}, chosen(5, 6)},
		{api.Pred{Kind: api.PredNull, Col: 0}, chosen(0, 1)},
		{api.Pred{Kind: api.PredNull, Col: 1}, chosen(0, 6)},
		{api.Pred{Kind: api.PredNot, Col: 0}, chosen(2, 3, 4, 5, 6)},
		{api.Pred{Kind: api.PredNot, Col: 1}, chosen(1, 2, 3, 4, 5)},
	} {
		wantFilter(t, pairs(), c.p, c.want, api.OK)
	}
}

func TestFilterThatKeepsNoneOrAll(t *testing.T) {
	for _, p := range []api.Pred{
		{Kind: api.PredEq, Col: 1, Val: num(5)},
		{Kind: api.PredLess, Col: 0, Val: null()},
		{Kind: api.PredLessCol, Col: 1, Other: 1},
	} {
		wantFilter(t, pairs(), p, nil, api.OK)
	}
	for _, p := range []api.Pred{
		{Kind: api.PredLess, Col: 0, Val: text("b")},
		{Kind: api.PredEqCol, Col: 0, Other: 0},
	} {
		wantFilter(t, pairs(), p, pairs(), api.OK)
	}
	for _, p := range preds() {
		wantFilter(t, nil, p, nil, api.OK)
	}
}

// What p is wrong in is told of no Row: it holds of none, or of those of which value.Compare says so.
func TestFilterByPredsThatAreNotRight(t *testing.T) {
	for _, kind := range []int{math.MinInt, -1, 0, api.PredNot + 1, math.MaxInt} {
		wantFilter(t, pairs(), api.Pred{Kind: kind, Col: 0, Other: 1, Val: null()}, nil, api.OK)
	}
	for kind := api.PredEq; kind <= api.PredNot; kind++ {
		for _, place := range []int{math.MinInt, -1, 2, math.MaxInt} {
			wantFilter(t, pairs(), api.Pred{Kind: kind, Col: place, Other: place, Val: null()}, nil, api.OK)
		}
	}
	for _, kind := range []int{api.PredEqCol, api.PredLessCol} {
		for _, place := range []int{math.MinInt, -1, 2, math.MaxInt} {
			wantFilter(t, pairs(), api.Pred{Kind: kind, Other: place}, nil, api.OK)
		}
	}
	wantFilter(t, pairs(), api.Pred{Kind: api.PredEq, Val: api.Value{Kind: api.Null, I: 1}}, nil, api.OK)
	wantFilter(t, pairs(), api.Pred{Kind: api.PredLess, Val: api.Value{}}, nil, api.OK)
	wantFilter(t, pairs(), api.Pred{Kind: api.PredLess, Val: api.Value{Kind: api.Null, I: 1}}, chosen(0, 1), api.OK)
	wantFilter(t, pairs(), api.Pred{Kind: api.PredLess, Val: num(math.MaxInt)}, chosen(0, 1, 2, 3, 4, 5), api.OK)
}

// Rows of a set may be of several lengths: of those that have no such column p does not hold.
func TestFilterOfRowsOfSeveralLengths(t *testing.T) {
	z := items(of(5), of(1, null()), of(-2, null(), null()), of(3, num(1)), of(4, num(1), null()), of(6, num(1), num(1)))
	wantFilter(t, z, api.Pred{Kind: api.PredNull}, z[1:3], api.OK)
	wantFilter(t, z, api.Pred{Kind: api.PredNot}, z[3:], api.OK)
	wantFilter(t, z, api.Pred{Kind: api.PredNull, Col: 1}, items(z[2], z[4]), api.OK)
	wantFilter(t, z, api.Pred{Kind: api.PredNot, Col: 1}, z[5:], api.OK)
	wantFilter(t, z, api.Pred{Kind: api.PredEqCol, Other: 1}, items(z[2], z[5]), api.OK)
	wantFilter(t, z, api.Pred{Kind: api.PredNull, Col: 2}, nil, api.OK)
}

// preds has some of each Kind, right and not.
func preds() []api.Pred {
	var all []api.Pred
	for _, kind := range []int{0, api.PredEq, api.PredLess, api.PredEqCol, api.PredLessCol, api.PredNull, api.PredNot, api.PredNot + 1} {
		for _, col := range []int{-1, 0, 1, 2, api.MaxArity - 1, api.MaxArity} {
			for _, v := range []api.Value{null(), truth(0), num(0), num(2), text("2"), text(samples.Longest() + "x"), {}} {
				all = append(all, api.Pred{Kind: kind, Col: col, Other: 1, Val: v})
			}
		}
	}
	return all
}

func TestFilterKeepsWhatPredHoldsOf(t *testing.T) {
	kept := map[int]int{}
	for _, z := range [][]api.Item{samples.Set(), pairs(), samples.Set()[7:16]} {
		for _, p := range preds() {
			want := slices.DeleteFunc(slices.Clone(z), func(x api.Item) bool { return !pred.Holds(p, x.Row) })
			wantFilter(t, z, p, want, api.OK)
			kept[len(want)]++
		}
	}
	if len(kept) < 8 {
		t.Errorf("of so many Items so often: %v", kept)
	}
}

func TestFilterOfSetsThatAreNone(t *testing.T) {
	for i, z := range samples.WrongSets() {
		wantFilter(t, z, api.Pred{Kind: api.PredNot}, nil, api.ErrArg)
		wantFilter(t, z, preds()[i%len(preds())], nil, api.ErrArg)
	}
}
