package pred_test

import (
	"math"
	"slices"
	"testing"

	"raddle/api"
	"raddle/pred"
	"raddle/samples"
)

func null() api.Value         { return api.Value{Kind: api.Null} }
func truth(i int) api.Value   { return api.Value{Kind: api.Bool, I: i} }
func num(i int) api.Value     { return api.Value{Kind: api.Int, I: i} }
func text(s string) api.Value { return api.Value{Kind: api.Text, S: s} }

// byVal, byOther and byColumn have the Kinds that ask Val, Other, and neither.
func byVal() []int    { return []int{api.PredEq, api.PredLess} }
func byOther() []int  { return []int{api.PredEqCol, api.PredLessCol} }
func byColumn() []int { return []int{api.PredNull, api.PredNot} }
func kinds() []int    { return slices.Concat(byVal(), byOther(), byColumn()) }

func noKinds() []int {
	return []int{math.MinInt, -api.PredEq, -1, api.PredEq - 1, api.PredNot + 1, api.PredNot + 2, 256 + api.PredEq, math.MaxInt}
}

// noPlaces has numbers at which nothing stands in a list of that length.
func noPlaces(count int) []int {
	return []int{math.MinInt, -count - 1, -count, -1, count, count + 1, 256 + count, math.MaxInt}
}

func allTypes() []int { return []int{api.Bool, api.Int, api.Text} }

// unlike has columns of every type, one of them once.
func unlike() []int { return []int{api.Text, api.Int, api.Bool, api.Int, api.Text} }

// fitting has a Value of that type.
func fitting(t int) api.Value {
	switch t {
	case api.Bool:
		return truth(1)
	case api.Int:
		return num(-7)
	}
	return text("a")
}

// right has a Pred of that Kind which is right of such columns, at that one of them; what it does not ask is as wrong as can be.
func right(kind, col int, types []int) api.Pred {
	p := api.Pred{Kind: kind, Col: col, Other: math.MinInt, Val: api.Value{Kind: 77}}
	if slices.Contains(byVal(), kind) {
		p.Val = fitting(types[col])
	}
	if slices.Contains(byOther(), kind) {
		p.Other = col
	}
	return p
}

func wantCheck(t *testing.T, p api.Pred, types []int, want api.Errno) {
	t.Helper()
	if e := pred.Check(p, types); e != want {
		t.Errorf("Check(%v, %v): got %d, want %d", p, types, e, want)
	}
}

func wantHolds(t *testing.T, p api.Pred, r []api.Value, want bool) {
	t.Helper()
	if got := pred.Holds(p, r); got != want {
		t.Errorf("Holds(%v, %v): got %v", p, r, got)
	}
}

// P15.1

func TestCheckTakesRightPreds(t *testing.T) {
	for _, types := range [][]int{{api.Bool}, {api.Int}, {api.Text}, {api.Int, api.Int}, unlike(), slices.Repeat(allTypes(), 100)} {
		for _, kind := range kinds() {
			for col := range types {
				wantCheck(t, right(kind, col, types), types, api.OK)
			}
		}
	}
}

func TestCheckTellsKindsThatAreNone(t *testing.T) {
	for _, kind := range noKinds() {
		wantCheck(t, api.Pred{Kind: kind, Val: text("a")}, unlike(), api.ErrArg)
		wantCheck(t, api.Pred{Kind: kind, Col: 1, Other: 3, Val: num(1)}, unlike(), api.ErrArg)
	}
	wantCheck(t, api.Pred{}, unlike(), api.ErrArg)
}

func TestCheckTellsColumnsThatAreNone(t *testing.T) {
	for _, types := range [][]int{{api.Text}, {api.Text, api.Text}, unlike()} {
		for _, kind := range kinds() {
			for _, col := range noPlaces(len(types)) {
				wantCheck(t, api.Pred{Kind: kind, Col: col, Val: text("a")}, types, api.ErrArg)
				wantCheck(t, api.Pred{Kind: kind, Col: col, Other: col, Val: text("a")}, types, api.ErrArg)
			}
		}
	}
}

func TestCheckTellsOthersThatAreNoneWhereTheyAreAsked(t *testing.T) {
	types := unlike()
	for _, at := range noPlaces(len(types)) {
		for _, kind := range byOther() {
			wantCheck(t, api.Pred{Kind: kind, Col: 1, Other: at}, types, api.ErrArg)
		}
		for _, kind := range slices.Concat(byVal(), byColumn()) {
			wantCheck(t, api.Pred{Kind: kind, Col: 1, Other: at, Val: num(1)}, types, api.OK)
		}
	}
}

func TestCheckTellsWrongValuesWhereTheyAreAsked(t *testing.T) {
	for _, v := range samples.WrongValues() {
		for col, types := 0, unlike(); col < len(types); col++ {
			for _, kind := range byVal() {
				wantCheck(t, api.Pred{Kind: kind, Col: col, Val: v}, types, api.ErrArg)
			}
			for _, kind := range slices.Concat(byOther(), byColumn()) {
				wantCheck(t, api.Pred{Kind: kind, Col: col, Other: col, Val: v}, types, api.OK)
			}
		}
	}
}

func TestCheckHoldsTheValueAgainstItsColumn(t *testing.T) {
	types := unlike()
	for _, v := range samples.Values() {
		for col, want := range types {
			e := api.ErrType
			if v.Kind == want || v.Kind == api.Null {
				e = api.OK
			}
			for _, kind := range byVal() {
				wantCheck(t, api.Pred{Kind: kind, Col: col, Val: v}, types, e)
			}
			for _, kind := range slices.Concat(byOther(), byColumn()) {
				wantCheck(t, api.Pred{Kind: kind, Col: col, Other: col, Val: v}, types, api.OK)
			}
		}
	}
}

func TestCheckHoldsTwoColumnsAgainstEachOther(t *testing.T) {
	types := unlike()
	for col, a := range types {
		for other, b := range types {
			e := api.ErrType
			if a == b {
				e = api.OK
			}
			for _, kind := range byOther() {
				wantCheck(t, api.Pred{Kind: kind, Col: col, Other: other}, types, e)
				wantCheck(t, api.Pred{Kind: kind, Col: col, Other: other, Val: fitting(a)}, types, e)
			}
			for _, kind := range slices.Concat(byVal(), byColumn()) {
				wantCheck(t, api.Pred{Kind: kind, Col: col, Other: other, Val: fitting(a)}, types, api.OK)
			}
		}
	}
}

// Of what is wrong in two ways, the one that is ErrArg is told.
func TestCheckTellsArgAheadOfType(t *testing.T) {
	types := unlike()
	for _, p := range []api.Pred{
		{Kind: 0, Col: 1, Val: text("a")},
		{Kind: api.PredNot + 1, Col: 1, Other: 2, Val: text("a")},
		{Kind: api.PredEq, Col: 1, Val: text(samples.Longest() + "x")},
		{Kind: api.PredLess, Col: 0, Val: num(api.MaxValue + 1)},
		{Kind: api.PredEqCol, Col: -1, Other: 2},
		{Kind: api.PredLessCol, Col: 1, Other: 5},
	} {
		wantCheck(t, p, types, api.ErrArg)
	}
}

func TestCheckOfNoColumns(t *testing.T) {
	for _, types := range [][]int{nil, {}} {
		for _, kind := range slices.Concat(kinds(), noKinds()) {
			for _, col := range append(noPlaces(1), 0) {
				wantCheck(t, api.Pred{Kind: kind, Col: col, Val: null()}, types, api.ErrArg)
			}
		}
	}
}

// No Value fits a type that is none, null neither; of two columns it is only asked whether they are of one.
func TestCheckOfTypesThatAreNone(t *testing.T) {
	types := []int{0, 0, api.Null, api.Null, api.Text + 1, -api.Int, math.MaxInt, math.MinInt}
	for col := range types {
		for _, v := range samples.Values() {
			for _, kind := range byVal() {
				wantCheck(t, api.Pred{Kind: kind, Col: col, Val: v}, types, api.ErrType)
			}
		}
		for _, kind := range slices.Concat(byOther(), byColumn()) {
			wantCheck(t, api.Pred{Kind: kind, Col: col, Other: col}, types, api.OK)
		}
	}
	for _, kind := range byOther() {
		wantCheck(t, api.Pred{Kind: kind, Col: 0, Other: 1}, types, api.OK)
		wantCheck(t, api.Pred{Kind: kind, Col: 3, Other: 2}, types, api.OK)
		wantCheck(t, api.Pred{Kind: kind, Col: 0, Other: 2}, types, api.ErrType)
	}
}
