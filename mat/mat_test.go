package mat_test

import (
	"math"
	"math/rand"
	"slices"
	"testing"

	"raddle/api"
	"raddle/dot"
	"raddle/mat"
)

// wrongNumbers has those that may not stand in a right vector.
func wrongNumbers() []int {
	return []int{-1, -2, math.MinInt, api.MaxSeq + 1, api.MaxSeq + 2, 1 << 32, math.MaxInt}
}

// filled has n vectors of n numbers x.
func filled(n, x int) [][]int {
	m := make([][]int, n)
	for i := range m {
		m[i] = slices.Repeat([]int{x}, n)
	}
	return m
}

// with has n vectors of n numbers 1, and x at a place of one of them.
func with(n, peer, at, x int) [][]int {
	m := filled(n, 1)
	m[peer][at] = x
	return m
}

// long has n vectors of n numbers 1, but one of them has so many.
func long(n, peer, size int) [][]int {
	m := filled(n, 1)
	m[peer] = slices.Repeat([]int{1}, size)
	return m
}

func same(a, b [][]int) bool { return slices.EqualFunc(a, b, slices.Equal[[]int]) }

func copied(m [][]int) [][]int {
	out := make([][]int, len(m))
	for i, v := range m {
		out[i] = append([]int(nil), v...)
	}
	return out
}

// right has right matrices of every size.
func right() [][][]int {
	var all [][][]int
	for n := 1; n <= api.MaxPeers; n++ {
		all = append(all, filled(n, 0), filled(n, 1), filled(n, api.MaxSeq))
		for p := range n {
			for at := range n {
				for _, x := range []int{0, 2, api.MaxSeq - 1, api.MaxSeq} {
					all = append(all, with(n, p, at, x))
				}
			}
		}
	}
	return all
}

// badNumbers has matrices with a number that may not be, at each place.
func badNumbers() [][][]int {
	var all [][][]int
	for _, x := range wrongNumbers() {
		for n := 1; n <= api.MaxPeers; n++ {
			all = append(all, filled(n, x))
			for p := range n {
				for at := range n {
					all = append(all, with(n, p, at, x))
				}
			}
		}
	}
	return all
}

// badLengths has too few and too many vectors, and matrices with a vector of too few and of too many numbers; all
// of them with right numbers.
func badLengths() [][][]int {
	over := api.MaxPeers + 1
	all := [][][]int{nil, {}, filled(over, 0), filled(over, 1), make([][]int, over), make([][]int, 1), make([][]int, 256+1), make([][]int, 300)}
	for n := 1; n <= api.MaxPeers; n++ {
		all = append(all, make([][]int, n), filled(over, 1)[:n])
		for p := range n {
			for _, size := range []int{0, n - 1, n + 1, over, n + 256} {
				if size != n {
					all = append(all, long(n, p, size))
				}
			}
		}
	}
	// As many numbers in all, but not in each.
	return append(all, [][]int{{1, 1, 1}, {1}}, [][]int{{1}, {1, 1, 1}}, [][]int{{1, 1}, {1, 1}, {1, 1}}, [][]int{{1, 1, 1}, {1, 1, 1}})
}

// bothFaults has matrices with a wrong length and a wrong number, in the one order and in the other.
func bothFaults() [][][]int {
	var all [][][]int
	for _, x := range wrongNumbers() {
		all = append(all, filled(api.MaxPeers+1, x), [][]int{{x, x}})
		for n := 2; n <= api.MaxPeers; n++ {
			for p := range n {
				for q := range n {
					for _, size := range []int{0, n - 1, n + 1} {
						m := filled(n, 1)
						m[q][n-1] = x
						m[p] = slices.Repeat([]int{x}, size)
						all = append(all, m)
					}
				}
			}
		}
	}
	return all
}

// eachError calls f with all that Check tells an error of.
func eachError(f func(m [][]int, want api.Errno)) {
	for _, m := range slices.Concat(badLengths(), bothFaults()) {
		f(m, api.ErrLen)
	}
	for _, m := range badNumbers() {
		f(m, api.ErrArg)
	}
}

func wantLearn(t *testing.T, m [][]int, have []int, peer int, safe []int, want [][]int, wantOK bool, wantE api.Errno) {
	t.Helper()
	got, ok, e := mat.Learn(m, have, peer, safe)
	if !same(got, want) || ok != wantOK || e != wantE {
		t.Errorf("Learn(%v, %v, %d, %v): got %v, %t, %d; want %v, %t, %d", m, have, peer, safe, got, ok, e, want, wantOK, wantE)
	}
}

func wantFrontier(t *testing.T, m [][]int, want []int, wantE api.Errno) {
	t.Helper()
	got, e := mat.Frontier(m)
	if !slices.Equal(got, want) || e != wantE {
		t.Errorf("Frontier(%v): got %v, %d; want %v, %d", m, got, e, want, wantE)
	}
}

// P11.1: New

func TestNewOfEachSize(t *testing.T) {
	for n := 1; n <= api.MaxPeers; n++ {
		m, e := mat.New(n)
		if e != api.OK || !same(m, filled(n, 0)) || mat.Check(m) != api.OK {
			t.Errorf("New(%d): %v, %d", n, m, e)
		}
	}
}

func TestNewTellsWrongSizes(t *testing.T) {
	for _, n := range []int{math.MinInt, -1 << 32, -api.MaxPeers, -1, 0, api.MaxPeers + 1, api.MaxPeers + 2, 256 + 1, 1 << 32, 1<<32 + 1, math.MaxInt} {
		if m, e := mat.New(n); e != api.ErrArg || len(m) != 0 {
			t.Errorf("New(%d): %v, %d", n, m, e)
		}
	}
}

// P11.1: Check

func TestCheckTakesRightMatrices(t *testing.T) {
	for _, m := range right() {
		if e := mat.Check(m); e != api.OK {
			t.Errorf("Check(%v): %d", m, e)
		}
	}
}

func TestCheckTellsTheLengthFirst(t *testing.T) {
	eachError(func(m [][]int, want api.Errno) {
		if e := mat.Check(m); e != want {
			t.Errorf("Check(%v): got %d, want %d", m, e, want)
		}
	})
}

// P11.2

func TestLearnTakesTheGreater(t *testing.T) {
	m := [][]int{{5, 2, 0}, {4, 2, 1}, {3, 0, 1}}
	have := []int{9, 9, 9}
	wantLearn(t, m, have, 0, []int{6, 3, 1}, [][]int{{6, 3, 1}, {4, 2, 1}, {3, 0, 1}}, true, api.OK)
	wantLearn(t, m, have, 1, []int{6, 3, 1}, [][]int{{5, 2, 0}, {6, 3, 1}, {3, 0, 1}}, true, api.OK)
	wantLearn(t, m, have, 2, []int{6, 3, 1}, [][]int{{5, 2, 0}, {4, 2, 1}, {6, 3, 1}}, true, api.OK)
	// Less at one place, and greater at another.
	wantLearn(t, m, have, 0, []int{4, 3, 0}, [][]int{{5, 3, 0}, {4, 2, 1}, {3, 0, 1}}, true, api.OK)
	wantLearn(t, m, have, 2, []int{0, 7, 0}, [][]int{{5, 2, 0}, {4, 2, 1}, {3, 7, 1}}, true, api.OK)
}

// What is told late, behind what was told later, is learned too: it has nothing new.
func TestLearnOfLessIsTrue(t *testing.T) {
	m := [][]int{{5, 2, 0}, {4, 2, 1}, {3, 0, 1}}
	for p := range m {
		wantLearn(t, m, []int{9, 9, 9}, p, []int{0, 0, 0}, m, true, api.OK)
		wantLearn(t, m, []int{0, 0, 0}, p, []int{0, 0, 0}, m, true, api.OK)
		wantLearn(t, m, []int{9, 9, 9}, p, m[p], m, true, api.OK)
		wantLearn(t, m, m[p], p, m[p], m, true, api.OK)
	}
}

// Only the number at peer is held against another one: of the others have may have any.
func TestLearnByTheNumberAtPeer(t *testing.T) {
	m := filled(4, 3)
	for p := range m {
		safe := []int{7, 7, 7, 7}
		want := filled(4, 3)
		want[p] = safe
		for _, others := range []int{0, 6, 7, 8, api.MaxSeq} {
			have := slices.Repeat([]int{others}, 4)
			for at, ok := range map[int]bool{0: false, 6: false, 7: true, 8: true, api.MaxSeq: true} {
				have[p] = at
				if ok {
					wantLearn(t, m, have, p, safe, want, true, api.OK)
				} else {
					wantLearn(t, m, have, p, safe, m, false, api.OK)
				}
			}
		}
	}
}

// It is safe's number that counts, and not what the matrix has of that peer.
func TestLearnDoesNotAskTheMatrix(t *testing.T) {
	wantLearn(t, [][]int{{9, 9}, {9, 9}}, []int{1, 1}, 1, []int{0, 1}, [][]int{{9, 9}, {9, 9}}, true, api.OK)
	wantLearn(t, [][]int{{0, 0}, {0, 0}}, []int{1, 1}, 1, []int{0, 2}, [][]int{{0, 0}, {0, 0}}, false, api.OK)
	wantLearn(t, [][]int{{9, 9}, {9, 9}}, []int{1, 1}, 1, []int{0, 2}, [][]int{{9, 9}, {9, 9}}, false, api.OK)
}

func TestLearnAtTheEnds(t *testing.T) {
	top := api.MaxSeq
	wantLearn(t, [][]int{{0}}, []int{top}, 0, []int{top}, [][]int{{top}}, true, api.OK)
	wantLearn(t, [][]int{{0}}, []int{top - 1}, 0, []int{top}, [][]int{{0}}, false, api.OK)
	wantLearn(t, [][]int{{top}}, []int{0}, 0, []int{0}, [][]int{{top}}, true, api.OK)
	for p := range api.MaxPeers {
		m, want := filled(api.MaxPeers, 0), filled(api.MaxPeers, 0)
		want[p] = slices.Repeat([]int{top}, api.MaxPeers)
		wantLearn(t, m, want[p], p, want[p], want, true, api.OK)
	}
}

func TestLearnTwice(t *testing.T) {
	m := [][]int{{5, 2, 0}, {4, 2, 1}, {3, 0, 1}}
	have, safe := []int{5, 2, 1}, []int{4, 1, 1}
	want := [][]int{{5, 2, 0}, {4, 2, 1}, {4, 1, 1}}
	wantLearn(t, m, have, 2, safe, want, true, api.OK)
	wantLearn(t, want, have, 2, safe, want, true, api.OK)
}

func TestLearnTooEarlyAndAgain(t *testing.T) {
	m := [][]int{{5, 2, 0}, {4, 2, 1}, {3, 0, 1}}
	safe := []int{4, 1, 2}
	wantLearn(t, m, []int{5, 2, 1}, 2, safe, m, false, api.OK)
	wantLearn(t, m, []int{5, 2, 2}, 2, safe, [][]int{{5, 2, 0}, {4, 2, 1}, {4, 1, 2}}, true, api.OK)
}

func TestLearnTellsChecksErrorFirst(t *testing.T) {
	eachError(func(m [][]int, want api.Errno) {
		one := slices.Repeat([]int{1}, len(m))
		wantLearn(t, m, one, 0, one, nil, false, want)
		wantLearn(t, m, nil, -1, nil, nil, false, want)
		wantLearn(t, m, one, len(m), one, nil, false, want)
		wantLearn(t, m, slices.Repeat([]int{-1}, len(m)), 0, one, nil, false, want)
		wantLearn(t, m, one, 0, slices.Repeat([]int{api.MaxSeq + 1}, len(m)), nil, false, want)
	})
}

// badVectors has what is no right vector of n numbers.
func badVectors(n int) [][]int {
	var all [][]int
	for _, size := range []int{0, 1, n - 1, n + 1, api.MaxPeers, api.MaxPeers + 1, n + 256} {
		if size != n {
			all = append(all, make([]int, size), slices.Repeat([]int{1}, size), slices.Repeat([]int{-1}, size))
		}
	}
	for _, x := range wrongNumbers() {
		for at := range n {
			v := slices.Repeat([]int{1}, n)
			v[at] = x
			all = append(all, v)
		}
	}
	return append(all, nil)
}

func TestLearnTellsVectorsThatAreNotRight(t *testing.T) {
	for n := 1; n <= api.MaxPeers; n++ {
		m := filled(n, 1)
		for p := range n {
			for _, v := range badVectors(n) {
				for _, x := range []int{0, 1, api.MaxSeq} {
					good := slices.Repeat([]int{x}, n)
					wantLearn(t, m, v, p, good, nil, false, api.ErrArg)
					wantLearn(t, m, good, p, v, nil, false, api.ErrArg)
				}
				wantLearn(t, m, v, p, v, nil, false, api.ErrArg)
			}
		}
	}
}

func TestLearnTellsPeersThatAreNot(t *testing.T) {
	for n := 1; n <= api.MaxPeers; n++ {
		m, v := filled(n, 1), slices.Repeat([]int{2}, n)
		for _, p := range []int{math.MinInt, -1 << 32, -n, -1, n, n + 1, api.MaxPeers, 256, 1 << 32, math.MaxInt} {
			if p >= 0 && p < n {
				continue
			}
			wantLearn(t, m, v, p, v, nil, false, api.ErrArg)
			wantLearn(t, m, nil, p, nil, nil, false, api.ErrArg)
		}
		for _, p := range []int{0, n - 1} {
			want := filled(n, 1)
			want[p] = v
			wantLearn(t, m, v, p, v, want, true, api.OK)
		}
	}
}

// P11.3

func TestFrontierOfANewMatrix(t *testing.T) {
	for n := 1; n <= api.MaxPeers; n++ {
		m, _ := mat.New(n)
		wantFrontier(t, m, make([]int, n), api.OK)
	}
}

func TestFrontierIsTheLeastOfEachPlace(t *testing.T) {
	wantFrontier(t, [][]int{{7}}, []int{7}, api.OK)
	wantFrontier(t, [][]int{{api.MaxSeq}}, []int{api.MaxSeq}, api.OK)
	wantFrontier(t, [][]int{{4, 2}, {3, 6}}, []int{3, 2}, api.OK)
	wantFrontier(t, [][]int{{3, 6}, {4, 2}}, []int{3, 2}, api.OK)
	wantFrontier(t, [][]int{{5, 2, 0}, {4, 2, 1}, {3, 0, 1}}, []int{3, 0, 0}, api.OK)
	wantFrontier(t, [][]int{{5, 9, 9, 9, 9}, {9, 4, 9, 9, 9}, {9, 9, 3, 9, 9}, {9, 9, 9, 2, 9}, {9, 9, 9, 9, 1}}, []int{5, 4, 3, 2, 1}, api.OK)
	for n := 1; n <= api.MaxPeers; n++ {
		wantFrontier(t, filled(n, api.MaxSeq), slices.Repeat([]int{api.MaxSeq}, n), api.OK)
	}
	for _, m := range right() {
		want := slices.Clone(m[0])
		for _, v := range m {
			for i, x := range v {
				want[i] = min(want[i], x)
			}
		}
		wantFrontier(t, m, want, api.OK)
	}
}

func TestFrontierTellsChecksError(t *testing.T) {
	eachError(func(m [][]int, want api.Errno) { wantFrontier(t, m, nil, want) })
}

// P11.4

// randomVector has numbers that are near one another, so that many of them are the same.
func randomVector(r *rand.Rand, n, bound int) []int {
	v := make([]int, n)
	for i := range v {
		v[i] = r.Intn(bound)
	}
	return v
}

// learned is what the chapter says, at length.
func learned(m [][]int, have []int, peer int, safe []int) ([][]int, bool) {
	out := copied(m)
	if have[peer] < safe[peer] {
		return out, false
	}
	for i, x := range safe {
		if x > out[peer][i] {
			out[peer][i] = x
		}
	}
	return out, true
}

func TestTheFrontierNeverGoesBack(t *testing.T) {
	r := rand.New(rand.NewSource(11))
	grown, kept := 0, 0
	for range 300 {
		n := 1 + r.Intn(api.MaxPeers)
		m, _ := mat.New(n)
		front := make([]int, n)
		for step := range 60 {
			bound := 1 + step/2
			have, peer, safe := randomVector(r, n, bound), r.Intn(n), randomVector(r, n, bound)
			want, ok := learned(m, have, peer, safe)
			wantLearn(t, m, have, peer, safe, want, ok, api.OK)
			m, _, _ = mat.Learn(m, have, peer, safe)
			next, e := mat.Frontier(m)
			if e != api.OK || !dot.Le(front, next) {
				t.Fatalf("Learn(.., %v, %d, %v): the frontier was %v, and is %v, %d", have, peer, safe, front, next, e)
			}
			if !dot.Le(next, front) {
				grown++
			}
			if !ok {
				kept++
			}
			front = next
		}
	}
	if grown < 1000 || kept < 1000 {
		t.Errorf("the frontier grew %d times, and nothing was learned %d times", grown, kept)
	}
}

// What is learned stays learned in whatever order it comes, and what is told twice changes nothing.
func TestLearnInAnyOrder(t *testing.T) {
	r := rand.New(rand.NewSource(12))
	for range 200 {
		n := 2 + r.Intn(api.MaxPeers-1)
		have := slices.Repeat([]int{9}, n)
		peers, told := make([]int, 12), make([][]int, 12)
		for i := range told {
			peers[i], told[i] = r.Intn(n), randomVector(r, n, 10)
		}
		var ends [][][]int
		for range 3 {
			m, _ := mat.New(n)
			for _, i := range append(r.Perm(len(told)), r.Perm(len(told))...) {
				m, _, _ = mat.Learn(m, have, peers[i], told[i])
			}
			ends = append(ends, m)
		}
		if !same(ends[0], ends[1]) || !same(ends[0], ends[2]) {
			t.Fatalf("%v of %v: %v", told, peers, ends)
		}
	}
}

// R2, R3, R6

// roomy has v with spare room behind it, filled with noughts.
func roomy(v []int) []int {
	out := make([]int, len(v), len(v)+4)
	copy(out, v)
	return out
}

func roomyMatrix(m [][]int) [][]int {
	out := make([][]int, len(m), len(m)+2)
	for i, v := range m {
		out[i] = roomy(v)
	}
	return out
}

// spoil writes into v, and into its spare room.
func spoil(v []int) {
	v = v[:cap(v)]
	for i := range v {
		v[i] = -77
	}
}

func spoilMatrix(m [][]int) {
	for _, v := range m {
		spoil(v)
	}
	m = m[:cap(m)]
	for i := range m {
		m[i] = nil
	}
}

// wantApart holds that no vector of m shares memory with another one of it.
func wantApart(t *testing.T, m [][]int) {
	t.Helper()
	for i := range m {
		before := copied(m)
		spoil(m[i])
		for j := range m {
			if j != i && !slices.Equal(m[j], before[j]) {
				t.Errorf("the vectors %d and %d share memory", i, j)
			}
		}
		copy(m[i], before[i])
	}
}

func TestNewAnswersNewMemory(t *testing.T) {
	for n := 1; n <= api.MaxPeers; n++ {
		a, _ := mat.New(n)
		b, _ := mat.New(n)
		wantApart(t, a)
		spoilMatrix(a)
		if !same(b, filled(n, 0)) {
			t.Errorf("New(%d): spoilt by an earlier answer: %v", n, b)
		}
		if c, _ := mat.New(n); !same(c, filled(n, 0)) {
			t.Errorf("New(%d): spoilt ahead of the call: %v", n, c)
		}
	}
}

// learnCases has what is learned, and what is not, of a matrix of 3.
func learnCases() []struct {
	peer int
	safe []int
} {
	return []struct {
		peer int
		safe []int
	}{{0, []int{6, 3, 1}}, {2, []int{6, 3, 1}}, {1, []int{0, 0, 0}}, {0, []int{9, 0, 0}}, {2, []int{0, 0, 9}}, {7, []int{1, 1, 1}}}
}

func TestLearnLeavesWhatIsHandedIn(t *testing.T) {
	plain := [][]int{{5, 2, 0}, {4, 2, 1}, {3, 0, 1}}
	for _, c := range learnCases() {
		m, have, safe := roomyMatrix(plain), roomy([]int{8, 8, 8}), roomy(c.safe)
		got, _, _ := mat.Learn(m, have, c.peer, safe)
		wantApart(t, got)
		spoilMatrix(got)
		if !same(m, plain) || !slices.Equal(have, []int{8, 8, 8}) || !slices.Equal(safe, c.safe) {
			t.Errorf("Learn at %d of %v: handed in is now %v, %v, %v", c.peer, c.safe, m, have, safe)
		}
		for _, v := range slices.Concat(m, [][]int{have, safe}) {
			if !slices.Equal(v[3:cap(v)], make([]int, 4)) {
				t.Errorf("Learn at %d of %v: the spare room is now %v", c.peer, c.safe, v[:cap(v)])
			}
		}
		for _, v := range m[3:cap(m)] {
			if v != nil {
				t.Errorf("Learn at %d of %v: the matrix's spare room is now %v", c.peer, c.safe, m[:cap(m)])
			}
		}
	}
}

func TestLearnAnswersNewMemory(t *testing.T) {
	plain := [][]int{{5, 2, 0}, {4, 2, 1}, {3, 0, 1}}
	for _, c := range learnCases() {
		m, have, safe := copied(plain), []int{8, 8, 8}, slices.Clone(c.safe)
		first, _, _ := mat.Learn(m, have, c.peer, safe)
		second, _, _ := mat.Learn(m, have, c.peer, safe)
		before := copied(first)
		spoilMatrix(second)
		spoilMatrix(m)
		spoil(have)
		spoil(safe)
		if !same(first, before) {
			t.Errorf("Learn at %d of %v: the answer was %v, and is %v", c.peer, c.safe, before, first)
		}
	}
}

// One list may stand at several places of what is handed in: the answer's are apart all the same.
func TestLearnOfOneVectorThrice(t *testing.T) {
	v := []int{2, 2, 2}
	m := [][]int{v, v, v}
	got, ok, e := mat.Learn(m, v, 1, v)
	if !same(got, filled(3, 2)) || !ok || e != api.OK {
		t.Errorf("got %v, %t, %d", got, ok, e)
	}
	wantApart(t, got)
	spoilMatrix(got)
	if !slices.Equal(v, []int{2, 2, 2}) {
		t.Errorf("handed in is now %v", v)
	}
	wantLearn(t, m, v, 1, []int{3, 2, 3}, [][]int{{2, 2, 2}, {3, 2, 3}, {2, 2, 2}}, true, api.OK)
}

func TestFrontierLeavesWhatIsHandedIn(t *testing.T) {
	for _, plain := range [][][]int{{{7}}, {{1, 1}, {2, 2}}, {{2, 2}, {1, 1}}, {{5, 2, 0}, {4, 2, 1}, {3, 0, 1}}} {
		m := roomyMatrix(plain)
		first, _ := mat.Frontier(m)
		second, _ := mat.Frontier(m)
		before := slices.Clone(first)
		spoil(second)
		if !slices.Equal(first, before) || !same(m, plain) {
			t.Errorf("Frontier(%v): spoilt: %v, %v", plain, first, m)
		}
		for _, v := range m {
			if !slices.Equal(v[len(v):cap(v)], make([]int, 4)) {
				t.Errorf("Frontier(%v): the spare room is now %v", plain, v[:cap(v)])
			}
		}
		spoilMatrix(m)
		if !slices.Equal(first, before) {
			t.Errorf("Frontier(%v): hangs on what was handed in: %v", plain, first)
		}
	}
}

// What lies behind a list's length is not read, be it wrong or less than all others.
func TestSpareRoomIsNotRead(t *testing.T) {
	whole := [][]int{{5, 2, -1}, {4, 3, -1}, {0, 0, 0}}
	m := [][]int{whole[0][:2], whole[1][:2], whole[2]}[:2]
	if e := mat.Check(m); e != api.OK {
		t.Errorf("Check: %d", e)
	}
	wantFrontier(t, m, []int{4, 2}, api.OK)
	wantLearn(t, m, []int{9, 9, 0}[:2], 1, []int{6, 1, -5}[:2], [][]int{{5, 2}, {6, 3}}, true, api.OK)
	wantLearn(t, [][]int{whole[0][:1], {1, 1}}, []int{9, 9}, 1, []int{6, 1}, nil, false, api.ErrLen)
	wantLearn(t, m, []int{9, 9}[:1], 1, []int{6, 1}, nil, false, api.ErrArg)
	wantLearn(t, m, []int{9, 9}, 1, []int{6, 1}[:1], nil, false, api.ErrArg)
}
