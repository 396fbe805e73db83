package dot_test

import (
	"math"
	"slices"
	"testing"

	"raddle/api"
	"raddle/dot"
)

// least and most are the ends of what an int may be.
const (
	least = math.MinInt
	most  = math.MaxInt
)

// spoilt has n numbers 1, and x at a place.
func spoilt(n, at, x int) []int {
	v := slices.Repeat([]int{1}, n)
	v[at] = x
	return v
}

// right has right vectors of every length.
func right() [][]int {
	var all [][]int
	for n := 1; n <= api.MaxPeers; n++ {
		all = append(all, make([]int, n), slices.Repeat([]int{api.MaxSeq}, n))
		for _, x := range []int{0, 1, 2, api.MaxSeq - 1, api.MaxSeq} {
			all = append(all, spoilt(n, 0, x), spoilt(n, n/2, x), spoilt(n, n-1, x))
		}
	}
	return append(all, []int{2, 0}, []int{0, 2}, []int{3, 1, 4}, []int{5, 4, 3, 2, 1})
}

// wrongNumbers has those that may not stand in a right vector.
func wrongNumbers() []int {
	return []int{-1, -2, least, api.MaxSeq + 1, api.MaxSeq + 2, 1 << 32, most}
}

// wrong has vectors of a right length with a number that may not be, at the first place, in the middle, and at the last.
func wrong() [][]int {
	var all [][]int
	for _, x := range wrongNumbers() {
		for n := 1; n <= api.MaxPeers; n++ {
			all = append(all, spoilt(n, 0, x), spoilt(n, n/2, x), spoilt(n, n-1, x), slices.Repeat([]int{x}, n))
		}
	}
	return all
}

// badLength has vectors with too few and too many numbers, right ones and others: of both it is the length that is told.
func badLength() [][]int {
	over := api.MaxPeers + 1
	all := [][]int{nil, {}, make([]int, over), slices.Repeat([]int{api.MaxSeq}, over), make([]int, 256+1), make([]int, 300)}
	for _, x := range wrongNumbers() {
		all = append(all, spoilt(over, 0, x), spoilt(over, over-1, x), slices.Repeat([]int{x}, over))
	}
	return all
}

// anyVectors has some of all.
func anyVectors() [][]int { return slices.Concat(right(), wrong(), badLength()) }

// smallVectors has all with n numbers below bound.
func smallVectors(n, bound int) [][]int {
	all := [][]int{nil}
	for range n {
		var longer [][]int
		for _, v := range all {
			for x := range bound {
				longer = append(longer, append(slices.Clone(v), x))
			}
		}
		all = longer
	}
	return all
}

// edgeDots has dots around the ends of v, and around each number in it.
func edgeDots(v []int) []api.Dot {
	var all []api.Dot
	for _, p := range []int{least, -1, len(v), len(v) + 1, api.MaxPeers, 1 << 32, most} {
		for _, n := range []int{least, -1, 0, 1, 2, api.MaxSeq, most} {
			all = append(all, api.Dot{Peer: p, N: n})
		}
	}
	for p, x := range v {
		ns := []int{least, least + 1, -1, 0, 1, 2, api.MaxSeq, api.MaxSeq + 1, most - 1, most, x}
		if x > least {
			ns = append(ns, x-1)
		}
		if x < most-1 {
			ns = append(ns, x+1, x+2)
		}
		for _, n := range ns {
			all = append(all, api.Dot{Peer: p, N: n})
		}
	}
	return all
}

// has and next are what the chapter says, at length.
func has(v []int, d api.Dot) bool {
	for p, x := range v {
		if p == d.Peer {
			return 1 <= d.N && d.N <= x
		}
	}
	return false
}

func next(v []int, d api.Dot) bool {
	for p, x := range v {
		if p == d.Peer {
			return x != most && d.N == x+1
		}
	}
	return false
}

func wantCheck(t *testing.T, v []int, want api.Errno) {
	t.Helper()
	if e := dot.Check(v); e != want {
		t.Errorf("Check(%v): got %d, want %d", v, e, want)
	}
}

func wantDot(t *testing.T, v []int, peer, n int, wantHas, wantNext bool) {
	t.Helper()
	d := api.Dot{Peer: peer, N: n}
	if got := dot.Has(v, d); got != wantHas {
		t.Errorf("Has(%v, %v): got %t", v, d, got)
	}
	if got := dot.Next(v, d); got != wantNext {
		t.Errorf("Next(%v, %v): got %t", v, d, got)
	}
}

func wantAdd(t *testing.T, v []int, d api.Dot, want []int, wantE api.Errno) {
	t.Helper()
	got, e := dot.Add(v, d)
	if !slices.Equal(got, want) || e != wantE {
		t.Errorf("Add(%v, %v): got %v, %d; want %v, %d", v, d, got, e, want, wantE)
	}
}

func wantLe(t *testing.T, a, b []int, want bool) {
	t.Helper()
	if got := dot.Le(a, b); got != want {
		t.Errorf("Le(%v, %v): got %t", a, b, got)
	}
}

func wantMerge(t *testing.T, a, b, want []int, wantE api.Errno) {
	t.Helper()
	got, e := dot.Merge(a, b)
	if !slices.Equal(got, want) || e != wantE {
		t.Errorf("Merge(%v, %v): got %v, %d; want %v, %d", a, b, got, e, want, wantE)
	}
}

func wantLeast(t *testing.T, l [][]int, want []int, wantE api.Errno) {
	t.Helper()
	got, e := dot.Least(l)
	if !slices.Equal(got, want) || e != wantE {
		t.Errorf("Least(%v): got %v, %d; want %v, %d", l, got, e, want, wantE)
	}
}

// P5.1: Check

func TestCheckTakesRightVectors(t *testing.T) {
	for _, v := range right() {
		wantCheck(t, v, api.OK)
	}
}

func TestCheckTellsWrongNumbers(t *testing.T) {
	for _, v := range wrong() {
		wantCheck(t, v, api.ErrArg)
	}
}

func TestCheckTellsTheLengthFirst(t *testing.T) {
	for _, v := range badLength() {
		wantCheck(t, v, api.ErrLen)
	}
}

// P5.1: Has, Next

func TestDotsOfARightVector(t *testing.T) {
	v := []int{2, 0, api.MaxSeq}
	wantDot(t, v, 0, -1, false, false)
	wantDot(t, v, 0, 0, false, false)
	wantDot(t, v, 0, 1, true, false)
	wantDot(t, v, 0, 2, true, false)
	wantDot(t, v, 0, 3, false, true)
	wantDot(t, v, 0, 4, false, false)
	wantDot(t, v, 1, 0, false, false)
	wantDot(t, v, 1, 1, false, true)
	wantDot(t, v, 1, 2, false, false)
	wantDot(t, v, 2, api.MaxSeq, true, false)
	wantDot(t, v, 2, api.MaxSeq+1, false, true)
	for _, peer := range []int{least, -1, 3, 4, most} {
		for _, n := range []int{least, -1, 0, 1, 2, most} {
			wantDot(t, v, peer, n, false, false)
		}
	}
}

func TestDotsOfVectorsThatAreNotRight(t *testing.T) {
	wantDot(t, nil, 0, 0, false, false)
	wantDot(t, nil, 0, 1, false, false)
	wantDot(t, []int{-1}, 0, -1, false, false)
	wantDot(t, []int{-1}, 0, 0, false, true)
	wantDot(t, []int{-1}, 0, 1, false, false)
	wantDot(t, []int{-5}, 0, -4, false, true)
	wantDot(t, []int{-5}, 0, -5, false, false)
	long := make([]int, api.MaxPeers+1)
	long[api.MaxPeers] = api.MaxSeq + 7
	wantDot(t, long, api.MaxPeers, 1, true, false)
	wantDot(t, long, api.MaxPeers, api.MaxSeq+7, true, false)
	wantDot(t, long, api.MaxPeers, api.MaxSeq+8, false, true)
	wantDot(t, long, api.MaxPeers+1, 1, false, false)
}

// R5: one more than the greatest int is no int, and one less than the least neither.
func TestNextDoesNotWrap(t *testing.T) {
	wantDot(t, []int{most}, 0, least, false, false)
	wantDot(t, []int{most}, 0, most, true, false)
	wantDot(t, []int{most - 1}, 0, most, false, true)
	wantDot(t, []int{least}, 0, most, false, false)
	wantDot(t, []int{least}, 0, least, false, false)
	wantDot(t, []int{least}, 0, least+1, false, true)
}

func TestDotsOfAnyVector(t *testing.T) {
	for _, v := range anyVectors() {
		for _, d := range edgeDots(v) {
			wantDot(t, v, d.Peer, d.N, has(v, d), next(v, d))
		}
	}
}

// P5.1: Add

func TestAddOfTheNextDot(t *testing.T) {
	wantAdd(t, []int{0}, api.Dot{Peer: 0, N: 1}, []int{1}, api.OK)
	wantAdd(t, []int{2, 0, 7}, api.Dot{Peer: 0, N: 3}, []int{3, 0, 7}, api.OK)
	wantAdd(t, []int{2, 0, 7}, api.Dot{Peer: 1, N: 1}, []int{2, 1, 7}, api.OK)
	wantAdd(t, []int{2, 0, 7}, api.Dot{Peer: 2, N: 8}, []int{2, 0, 8}, api.OK)
	wantAdd(t, make([]int, api.MaxPeers), api.Dot{Peer: api.MaxPeers - 1, N: 1}, []int{0, 0, 0, 0, 1}, api.OK)
}

func TestAddUpToMaxSeq(t *testing.T) {
	wantAdd(t, []int{1, api.MaxSeq - 1}, api.Dot{Peer: 1, N: api.MaxSeq}, []int{1, api.MaxSeq}, api.OK)
	wantAdd(t, []int{1, api.MaxSeq}, api.Dot{Peer: 1, N: api.MaxSeq + 1}, nil, api.ErrArg)
	wantAdd(t, []int{1, api.MaxSeq}, api.Dot{Peer: 0, N: 2}, []int{2, api.MaxSeq}, api.OK)
}

func TestAddTellsDotsThatAreNotNext(t *testing.T) {
	for _, v := range right() {
		for _, d := range edgeDots(v) {
			if !next(v, d) || d.N > api.MaxSeq {
				wantAdd(t, v, d, nil, api.ErrArg)
				continue
			}
			want := slices.Clone(v)
			want[d.Peer]++
			wantAdd(t, v, d, want, api.OK)
		}
	}
}

func TestAddTellsChecksErrorFirst(t *testing.T) {
	for _, v := range wrong() {
		for _, d := range edgeDots(v) {
			wantAdd(t, v, d, nil, api.ErrArg)
		}
	}
	for _, v := range badLength() {
		for _, d := range edgeDots(v) {
			wantAdd(t, v, d, nil, api.ErrLen)
		}
	}
}

func TestWhatIsAddedIsHad(t *testing.T) {
	v := make([]int, api.MaxPeers)
	for n := 1; n <= 3; n++ {
		for p := range v {
			d := api.Dot{Peer: p, N: n}
			wantDot(t, v, p, n, false, true)
			longer, e := dot.Add(v, d)
			if e != api.OK || !dot.Has(longer, d) || dot.Next(longer, d) || !dot.Le(v, longer) || dot.Le(longer, v) {
				t.Fatalf("Add(%v, %v): %v, %d", v, d, longer, e)
			}
			v = longer
		}
	}
}

// P5.2: Le

func TestLeByPlace(t *testing.T) {
	wantLe(t, nil, nil, true)
	wantLe(t, nil, []int{}, true)
	wantLe(t, []int{1, 2}, []int{1, 2}, true)
	wantLe(t, []int{0, 2}, []int{3, 2}, true)
	wantLe(t, []int{3, 2}, []int{0, 2}, false)
	wantLe(t, []int{1, 2}, []int{2, 1}, false)
	wantLe(t, []int{2, 1}, []int{1, 2}, false)
	wantLe(t, []int{0, 0, 0, 0, 1}, make([]int, 5), false)
	wantLe(t, make([]int, 5), []int{0, 0, 0, 0, 1}, true)
}

func TestLeWantsAsManyNumbers(t *testing.T) {
	for n := range api.MaxPeers + 3 {
		for m := range api.MaxPeers + 3 {
			wantLe(t, make([]int, n), make([]int, m), n == m)
			wantLe(t, make([]int, n), slices.Repeat([]int{9}, m), n == m)
		}
	}
}

func TestLeOfAnyNumbers(t *testing.T) {
	up := []int{least, least + 1, -api.MaxSeq, -1, 0, 1, api.MaxSeq, api.MaxSeq + 1, most - 1, most}
	for i, x := range up {
		for j, y := range up {
			wantLe(t, []int{x}, []int{y}, i <= j)
			for _, n := range []int{2, api.MaxPeers, api.MaxPeers + 1, 300} {
				wantLe(t, spoilt(n, 0, x), spoilt(n, 0, y), i <= j)
				wantLe(t, spoilt(n, n-1, x), spoilt(n, n-1, y), i <= j)
			}
		}
	}
}

// P5.2: Merge

func TestMergeTakesTheGreater(t *testing.T) {
	wantMerge(t, []int{1, 2}, []int{1, 2}, []int{1, 2}, api.OK)
	wantMerge(t, []int{1, 2}, []int{2, 1}, []int{2, 2}, api.OK)
	wantMerge(t, []int{0}, []int{api.MaxSeq}, []int{api.MaxSeq}, api.OK)
	wantMerge(t, []int{api.MaxSeq}, []int{0}, []int{api.MaxSeq}, api.OK)
	wantMerge(t, []int{5, 0, 3, 0, 1}, []int{0, 4, 0, 2, 0}, []int{5, 4, 3, 2, 1}, api.OK)
}

// ofTheFirst has what Check tells of the first of two that it tells something of.
func ofTheFirst(a, b api.Errno) api.Errno {
	if a != api.OK {
		return a
	}
	return b
}

func TestMergeTellsTheFirstError(t *testing.T) {
	kinds := []struct {
		of [][]int
		e  api.Errno
	}{{right(), api.OK}, {wrong(), api.ErrArg}, {badLength(), api.ErrLen}}
	for _, first := range kinds {
		for _, second := range kinds {
			want := ofTheFirst(first.e, second.e)
			if want == api.OK {
				continue
			}
			for _, a := range first.of {
				for _, b := range second.of {
					wantMerge(t, a, b, nil, want)
				}
			}
		}
	}
}

func TestMergeWantsAsManyNumbers(t *testing.T) {
	for n := 1; n <= api.MaxPeers; n++ {
		for m := 1; m <= api.MaxPeers; m++ {
			if n == m {
				wantMerge(t, make([]int, n), make([]int, m), make([]int, n), api.OK)
			} else {
				wantMerge(t, make([]int, n), make([]int, m), nil, api.ErrLen)
			}
		}
	}
}

// P5.2: Least

func TestLeastTakesTheLeast(t *testing.T) {
	wantLeast(t, [][]int{{4, 2}}, []int{4, 2}, api.OK)
	wantLeast(t, [][]int{{4, 2}, {4, 2}}, []int{4, 2}, api.OK)
	wantLeast(t, [][]int{{4, 2}, {1, 7}, {3, 3}}, []int{1, 2}, api.OK)
	wantLeast(t, [][]int{{3, 3}, {4, 2}, {1, 7}}, []int{1, 2}, api.OK)
	wantLeast(t, [][]int{{api.MaxSeq}, {0}}, []int{0}, api.OK)
	wantLeast(t, [][]int{{5, 9, 9, 9, 9}, {9, 4, 9, 9, 9}, {9, 9, 3, 9, 9}, {9, 9, 9, 2, 9}, {9, 9, 9, 9, 1}}, []int{5, 4, 3, 2, 1}, api.OK)
	for _, v := range right() {
		wantLeast(t, [][]int{v}, v, api.OK)
	}
}

// A list has no bound of its own.
func TestLeastOfMoreThanMaxPeers(t *testing.T) {
	l := slices.Repeat([][]int{{7, 7}}, 300)
	l[299] = []int{7, 1}
	wantLeast(t, l, []int{7, 1}, api.OK)
}

func TestLeastOfNoVector(t *testing.T) {
	wantLeast(t, nil, nil, api.ErrLen)
	wantLeast(t, [][]int{}, nil, api.ErrLen)
}

func TestLeastTellsChecksErrorOfTheFirst(t *testing.T) {
	for _, v := range wrong() {
		wantLeast(t, [][]int{v}, nil, api.ErrArg)
		wantLeast(t, [][]int{{1, 1}, v}, nil, api.ErrArg)
		wantLeast(t, [][]int{{1, 1}, {2, 2}, v, nil}, nil, api.ErrArg)
	}
	for _, v := range badLength() {
		wantLeast(t, [][]int{v}, nil, api.ErrLen)
		wantLeast(t, [][]int{{1, 1}, v}, nil, api.ErrLen)
		wantLeast(t, [][]int{{1, 1}, {2, 2}, v, {-1}}, nil, api.ErrLen)
	}
}

func TestLeastTellsVectorsAheadOfTheirLengths(t *testing.T) {
	wantLeast(t, [][]int{{4, 2}, {1}}, nil, api.ErrLen)
	wantLeast(t, [][]int{{1}, {4, 2}}, nil, api.ErrLen)
	wantLeast(t, [][]int{{4, 2}, {4, 2}, {4, 2, 1}}, nil, api.ErrLen)
	wantLeast(t, [][]int{{4}, {4, 2}, {4, 2}}, nil, api.ErrLen)
	for _, v := range wrong() {
		wantLeast(t, [][]int{{4, 2}, {1}, v}, nil, api.ErrArg)
		wantLeast(t, [][]int{{4, 2}, v, {1}}, nil, api.ErrArg)
		wantLeast(t, [][]int{v, {4, 2}, {1}}, nil, api.ErrArg)
	}
}

// P5.2: Less

func TestLessByPeerThenByN(t *testing.T) {
	var up []api.Dot
	for _, p := range []int{least, least + 1, -1, 0, 1, api.MaxPeers, most - 1, most} {
		for _, n := range []int{least, least + 1, -1, 0, 1, 2, api.MaxSeq, api.MaxSeq + 1, most - 1, most} {
			up = append(up, api.Dot{Peer: p, N: n})
		}
	}
	for i, a := range up {
		for j, b := range up {
			if got := dot.Less(a, b); got != (i < j) {
				t.Errorf("Less(%v, %v): got %t", a, b, got)
			}
		}
	}
}

// P5.3

func TestMergeIsTheLeastThatBothAreLeOf(t *testing.T) {
	for n := 1; n <= 3; n++ {
		all := smallVectors(n, 3)
		for _, a := range all {
			for _, b := range all {
				m, e := dot.Merge(a, b)
				if e != api.OK || !dot.Le(a, m) || !dot.Le(b, m) {
					t.Fatalf("Merge(%v, %v): %v, %d", a, b, m, e)
				}
				for _, c := range all {
					if dot.Le(a, c) && dot.Le(b, c) && !dot.Le(m, c) {
						t.Errorf("Merge(%v, %v): %v, but %v is less", a, b, m, c)
					}
				}
			}
		}
	}
}

// wantGreatest looks whether nothing among all that is Le of each of l is not Le of Least too.
func wantGreatest(t *testing.T, l, all [][]int) {
	t.Helper()
	m, e := dot.Least(l)
	if e != api.OK {
		t.Fatalf("Least(%v): %d", l, e)
	}
	for _, c := range append(all, m) {
		under := true
		for _, v := range l {
			under = under && dot.Le(c, v)
		}
		if under != dot.Le(c, m) {
			t.Errorf("Least(%v): %v, beside %v", l, m, c)
		}
	}
}

func TestLeastIsTheGreatestThatIsLeOfAll(t *testing.T) {
	for n := 1; n <= 2; n++ {
		all := smallVectors(n, 3)
		for _, a := range all {
			wantGreatest(t, [][]int{a}, all)
			for _, b := range all {
				wantGreatest(t, [][]int{a, b}, all)
				for _, c := range all {
					wantGreatest(t, [][]int{a, b, c}, all)
				}
			}
		}
	}
	all := smallVectors(api.MaxPeers, 2)
	for _, a := range all {
		for _, b := range all {
			wantGreatest(t, [][]int{a, b}, all)
		}
	}
}

// Merge has the dots that one of both has; Least those that all have.
func TestMergeAndLeastByTheDotsTheyHave(t *testing.T) {
	all := slices.DeleteFunc(right(), func(v []int) bool { return len(v) != 3 })
	for _, a := range all {
		for _, b := range all {
			greater, _ := dot.Merge(a, b)
			less, _ := dot.Least([][]int{a, b})
			for _, d := range slices.Concat(edgeDots(a), edgeDots(b)) {
				inA, inB := dot.Has(a, d), dot.Has(b, d)
				if dot.Has(greater, d) != (inA || inB) || dot.Has(less, d) != (inA && inB) {
					t.Errorf("%v, %v: %v, %v, of %v", a, b, greater, less, d)
				}
			}
		}
	}
}

// R2

// roomy lays v into memory that goes on ahead of it and behind it: it answers the list and all of the memory.
func roomy(v []int) (part, room []int) {
	room = slices.Repeat([]int{77}, len(v)+20)
	copy(room[2:], v)
	return room[2 : 2+len(v)], room
}

func TestWhatIsHandedInStaysAsItWas(t *testing.T) {
	for _, given := range anyVectors() {
		a, aRoom := roomy(given)
		b, bRoom := roomy(given)
		l := append(make([][]int, 0, 4), a, b)
		aBefore, bBefore := slices.Clone(aRoom), slices.Clone(bRoom)
		dot.Check(a)
		for _, d := range edgeDots(given) {
			dot.Has(a, d)
			dot.Next(a, d)
			dot.Add(a, d)
		}
		dot.Le(a, b)
		dot.Merge(a, b)
		dot.Merge(a, []int{9, 9})
		dot.Least(l)
		if !slices.Equal(aRoom, aBefore) || !slices.Equal(bRoom, bBefore) {
			t.Errorf("%v: what was handed in is written to", given)
		}
		if len(l) != 2 || !slices.Equal(l[0], given) || !slices.Equal(l[1], given) || l[:4][2] != nil || l[:4][3] != nil {
			t.Errorf("%v: the list that was handed in is written to", given)
		}
	}
}

// overwrite writes over all of a list, its spare room too.
func overwrite(v []int) {
	v = v[:cap(v)]
	for i := range v {
		v[i] = 99
	}
}

// wantNewMemory asks twice, and writes over one answer, then over what was handed in: the other answer stays.
func wantNewMemory(t *testing.T, name string, given [][]int, ask func(l [][]int) ([]int, api.Errno)) {
	t.Helper()
	l := make([][]int, len(given))
	rooms := make([][]int, len(given))
	for i, v := range given {
		l[i], rooms[i] = roomy(v)
	}
	first, e := ask(l)
	second, _ := ask(l)
	if e != api.OK {
		t.Fatalf("%s of %v: %d", name, given, e)
	}
	kept := slices.Clone(second)
	overwrite(first)
	for i, v := range given {
		if _, want := roomy(v); !slices.Equal(rooms[i], want) {
			t.Errorf("%s of %v: the answer shares memory with an argument", name, given)
		}
	}
	third, _ := ask(l)
	if !slices.Equal(second, kept) || !slices.Equal(third, kept) {
		t.Errorf("%s of %v: two answers share memory", name, given)
	}
	for i := range rooms {
		overwrite(rooms[i])
	}
	if !slices.Equal(second, kept) {
		t.Errorf("%s of %v: the answer is changed by what is done with an argument", name, given)
	}
}

func TestWhatIsAnsweredIsNewMemory(t *testing.T) {
	merge := func(l [][]int) ([]int, api.Errno) { return dot.Merge(l[0], l[1]) }
	for n := 1; n <= api.MaxPeers; n++ {
		low, high, mixed := make([]int, n), slices.Repeat([]int{5}, n), spoilt(n, 0, 9)
		for _, l := range [][][]int{{low, high}, {high, low}, {low, low}, {high, mixed}, {mixed, high}} {
			wantNewMemory(t, "Merge", l, merge)
			wantNewMemory(t, "Least", l, dot.Least)
			wantNewMemory(t, "Least", l[:1], dot.Least)
			wantNewMemory(t, "Add", l[:1], func(l [][]int) ([]int, api.Errno) {
				return dot.Add(l[0], api.Dot{Peer: n - 1, N: l[0][n-1] + 1})
			})
		}
	}
}

// One list may be handed in as both, and many times.
func TestOneListAsEveryArgument(t *testing.T) {
	v := []int{3, 0, 2}
	wantLe(t, v, v, true)
	wantMerge(t, v, v, []int{3, 0, 2}, api.OK)
	wantLeast(t, [][]int{v, v, v}, []int{3, 0, 2}, api.OK)
	greater, _ := dot.Merge(v, v)
	less, _ := dot.Least([][]int{v, v})
	overwrite(greater)
	overwrite(less)
	if !slices.Equal(v, []int{3, 0, 2}) {
		t.Error("an answer shares memory with its argument")
	}
}

// R3

func TestAnswersHangOnArgumentsAlone(t *testing.T) {
	v := []int{2, 0}
	for range 3 {
		wantAdd(t, v, api.Dot{Peer: 1, N: 1}, []int{2, 1}, api.OK)
		wantAdd(t, v, api.Dot{Peer: 1, N: 2}, nil, api.ErrArg)
		wantMerge(t, v, []int{1, 1}, []int{2, 1}, api.OK)
		wantMerge(t, v, []int{-1}, nil, api.ErrArg)
		wantLeast(t, [][]int{v, {1, 1}}, []int{1, 0}, api.OK)
		wantLeast(t, [][]int{v, {1}}, nil, api.ErrLen)
	}
}

// R6

func TestNothingBehindTheLengthIsRead(t *testing.T) {
	v := []int{1, 2, -1, 4, 5, 6}
	short := v[:2]
	wantCheck(t, short, api.OK)
	wantCheck(t, v[:0], api.ErrLen)
	wantDot(t, short, 2, 0, false, false)
	wantDot(t, short, 3, 4, false, false)
	wantDot(t, short, 3, 5, false, false)
	wantAdd(t, short, api.Dot{Peer: 1, N: 3}, []int{1, 3}, api.OK)
	wantAdd(t, short, api.Dot{Peer: 3, N: 5}, nil, api.ErrArg)
	wantLe(t, short, []int{1, 2, 0}[:2], true)
	wantLe(t, short, v[:3], false)
	wantMerge(t, short, []int{2, 1, 9}[:2], []int{2, 2}, api.OK)
	wantLeast(t, [][]int{short, {2, 1}, {-1}}[:2], []int{1, 1}, api.OK)
	wantLeast(t, [][]int{short}[:0], nil, api.ErrLen)
}
