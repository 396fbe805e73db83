package lin_test

import (
	"math"
	"slices"
	"testing"

	"raddle/api"
	"raddle/lin"
	"raddle/samples"
)

func wantProject(t *testing.T, z []api.Item, cols []int, want []api.Item, wantE api.Errno) {
	t.Helper()
	got, e := lin.Project(z, cols)
	if !same(got, want) || e != wantE {
		t.Errorf("Project(%v, %v): got %v, %d; want %v, %d", z, cols, got, e, want, wantE)
	}
}

// P16.1: Project

func TestProject(t *testing.T) {
	z := items(at(2, 1, 7, 0), at(-3, 1, 8, 0), at(1, 2, 7, 0), at(5, 2, 7, 1), at(-4, 3, 6, 9))
	wantProject(t, z, []int{0}, items(at(-1, 1), at(6, 2), at(-4, 3)), api.OK)
	wantProject(t, z, []int{1}, items(at(-4, 6), at(8, 7), at(-3, 8)), api.OK)
	wantProject(t, z, []int{2}, items(at(5, 1), at(-4, 9)), api.OK)
	wantProject(t, z, []int{1, 2}, items(at(-4, 6, 9), at(3, 7, 0), at(5, 7, 1), at(-3, 8, 0)), api.OK)
	wantProject(t, z, []int{2, 0}, items(at(-1, 0, 1), at(1, 0, 2), at(5, 1, 2), at(-4, 9, 3)), api.OK)
	wantProject(t, nil, []int{0}, nil, api.OK)
}

func TestProjectToAllColumns(t *testing.T) {
	wantProject(t, pairs(), []int{0, 1}, pairs(), api.OK)
	wantProject(t, pairs(), []int{1, 0}, items(
		of(2, null(), null()), of(1, null(), text("a")), of(most, num(3), truth(0)), of(7, num(3), num(3)), of(-2, num(3), num(4)), of(-1, num(4), null()), of(-most, num(4), num(3)),
	), api.OK)
	long, back := []int{0, 1, 2, 3, 4, 5, 6, 7, 8, 9, 10, 11}, []int{11, 10, 9, 8, 7, 6, 5, 4, 3, 2, 1, 0}
	z := items(at(1, long...), at(-1, back...))
	wantProject(t, z, long, z, api.OK)
	wantProject(t, z, back, items(at(-1, long...), at(1, back...)), api.OK)
}

func TestProjectToOneSeveralTimes(t *testing.T) {
	z := items(at(2, 1, 7), at(-3, 1, 8), at(1, 2, 7))
	wantProject(t, z, []int{1, 1}, items(at(3, 7, 7), at(-3, 8, 8)), api.OK)
	wantProject(t, z, []int{0, 1, 0}, items(at(2, 1, 7, 1), at(-3, 1, 8, 1), at(1, 2, 7, 2)), api.OK)
	for n := 1; n <= api.MaxArity; n++ {
		wantProject(t, z, make([]int, n), items(at(-1, slices.Repeat([]int{1}, n)...), at(1, slices.Repeat([]int{2}, n)...)), api.OK)
	}
	for _, n := range []int{api.MaxArity + 1, api.MaxArity + 2, 256, 257, 1000} {
		wantProject(t, z, make([]int, n), nil, api.ErrLen)
	}
}

func TestProjectToNoColumns(t *testing.T) {
	for _, none := range [][]int{nil, {}} {
		wantProject(t, nil, none, nil, api.OK)
		wantProject(t, items(of(-4)), none, items(of(-4)), api.OK)
		wantProject(t, items(of(-4), at(3, 1), at(9, 1, 1)), none, items(of(8)), api.OK)
		wantProject(t, items(at(3, 1), at(-3, 1, 1)), none, nil, api.OK)
		wantProject(t, items(at(most, 1), at(most, 2), at(-most, 3), at(-most, 4)), none, nil, api.OK)
		wantProject(t, items(at(most, 1), at(1, 2)), none, nil, api.ErrOver)
	}
}

// Rows of a set may be of several lengths; each of cols must be a place in all of them.
func TestProjectToColumnsThatNotEachRowHas(t *testing.T) {
	z := items(at(1, 1), at(2, 1, 1), at(4, 1, 1, 1), at(8, 2, 2), at(16, 3), at(32, 3, 4))
	wantProject(t, z, []int{0}, items(at(7, 1), at(8, 2), at(48, 3)), api.OK)
	wantProject(t, z, []int{1}, nil, api.ErrArg)
	wantProject(t, z[1:], []int{1}, nil, api.ErrArg)
	wantProject(t, z[1:4], []int{1}, items(at(6, 1), at(8, 2)), api.OK)
	wantProject(t, z[1:4], []int{1, 2}, nil, api.ErrArg)
	wantProject(t, z[2:3], []int{1, 2}, items(at(4, 1, 1)), api.OK)
	wantProject(t, append(items(of(5)), z...), []int{0}, nil, api.ErrArg)
	for i, x := range samples.Set() {
		for _, place := range []int{math.MinInt, -1, len(x.Row), len(x.Row) + 1, 256, math.MaxInt} {
			wantProject(t, samples.Set()[i:i+1], []int{place}, nil, api.ErrArg)
			wantProject(t, samples.Set()[i:i+1], append(make([]int, len(x.Row)), place), nil, api.ErrArg)
			wantProject(t, samples.Set(), []int{place}, nil, api.ErrArg)
		}
	}
}

// Of no Rows none has an error, whatever cols are.
func TestProjectOfNoRowsToAnyColumns(t *testing.T) {
	for _, cols := range [][]int{{0}, {-1}, {api.MaxArity}, {math.MinInt, math.MaxInt}, make([]int, api.MaxArity+1), make([]int, 1000)} {
		wantProject(t, nil, cols, nil, api.OK)
		wantProject(t, items(), cols, nil, api.OK)
	}
}

func TestProjectToRowsThatFallTogether(t *testing.T) {
	wantProject(t, items(at(3, 1, 1), at(-3, 2, 1)), []int{1}, nil, api.OK)
	wantProject(t, items(at(3, 1, 1), at(2, 1, 2), at(-3, 2, 1)), []int{1}, items(at(2, 2)), api.OK)
	wantProject(t, items(at(-3, 1, 1), at(2, 1, 2), at(5, 2, 1), at(-2, 2, 2), at(-2, 3, 1)), []int{1}, nil, api.OK)
	wantProject(t, items(at(1, 1, 1), at(1, 2, 1), at(1, 3, 1)), []int{1, 1}, items(at(3, 1, 1)), api.OK)
	wantProject(t, items(of(1, num(1), null()), of(1, num(2), null()), of(1, num(3), text(""))), []int{1}, items(of(2, null()), of(1, text(""))), api.OK)
}

func TestProjectAtTheBounds(t *testing.T) {
	for _, w := range []int{1, -1} {
		full := items(at(w*most, 1, 1), at(w*most, 1, 2), at(w*most, 2, 3))
		wantProject(t, full, []int{1}, items(at(w*most, 1), at(w*most, 2), at(w*most, 3)), api.OK)
		wantProject(t, full, []int{0}, nil, api.ErrOver)
		wantProject(t, full[1:], []int{0}, items(at(w*most, 1), at(w*most, 2)), api.OK)
		wantProject(t, items(at(w*(most-1), 1, 1), at(w, 1, 2)), []int{0}, items(at(w*most, 1)), api.OK)
		wantProject(t, items(at(w*most, 1, 1), at(w, 1, 2)), []int{0}, nil, api.ErrOver)
		wantProject(t, items(at(w, 1, 1), at(w*most, 1, 2)), []int{0}, nil, api.ErrOver)
		wantProject(t, items(at(5, 0, 1), at(w*most, 1, 1), at(w*most, 1, 2), at(7, 2, 2)), []int{0}, nil, api.ErrOver)
		// On its way the sum may be beyond the bound.
		wantProject(t, items(at(w*most, 1, 1), at(w*most, 1, 2), at(-w*most, 1, 3)), []int{0}, items(at(w*most, 1)), api.OK)
	}
}

// So many of the greatest weights do not fit in 63 bits, or in 64: a sum that wraps would be a weight again.
func TestProjectOfSumsThatWrap(t *testing.T) {
	for _, n := range []int{127, 128, 129, 255, 256, 257, 512} {
		for _, w := range []int{most, -most} {
			var z []api.Item
			for i := range n {
				z = append(z, at(w, i, 0))
			}
			wantProject(t, z, nil, nil, api.ErrOver)
			wantProject(t, z, []int{1}, nil, api.ErrOver)
			wantProject(t, append(z, at(5, n, 1)), []int{1}, nil, api.ErrOver)
		}
	}
}

func TestProjectOfSetsThatAreNone(t *testing.T) {
	for _, z := range samples.WrongSets() {
		for _, cols := range [][]int{nil, {0}, {-1}, make([]int, api.MaxArity+1)} {
			wantProject(t, z, cols, nil, api.ErrArg)
		}
	}
}

func TestProjectTellsTheFirstError(t *testing.T) {
	many := slices.Repeat([]int{1}, api.MaxArity+1)
	// The first Row that has an error tells it, and of one Row a wrong place.
	wantProject(t, items(at(1, 1, 1), at(1, 2)), many, nil, api.ErrLen)
	wantProject(t, items(at(1, 1), at(1, 2, 2)), many, nil, api.ErrArg)
	wantProject(t, items(at(1, 1, 1)), append(many, 2), nil, api.ErrArg)
	wantProject(t, items(at(1, 1, 1), at(1, 2, 2, 2)), append(many, 2), nil, api.ErrArg)
	wantProject(t, items(at(1, 1, 1, 1), at(1, 2, 2)), append(many, 2), nil, api.ErrLen)
	// That the set is none is told ahead of a Row's error, and that ahead of a sum beyond the bound.
	wantProject(t, items(at(1, 1, 1), at(0, 2, 2)), many, nil, api.ErrArg)
	wantProject(t, items(at(1, 1, 1), at(1, 1, 1)), many, nil, api.ErrArg)
	wantProject(t, items(at(1, 1, 1), at(most+1, 2, 2)), many, nil, api.ErrArg)
	wantProject(t, items(at(most, 0, 1), at(most, 1, 1), at(1, 2)), []int{1}, nil, api.ErrArg)
	wantProject(t, items(at(most, 0, 1), at(most, 1, 1)), many, nil, api.ErrLen)
}
