package cbuf_test

import (
	"fmt"
	"math"
	"math/rand"
	"slices"
	"strings"
	"testing"

	"raddle/api"
	"raddle/cbuf"
	"raddle/dot"
)

// op has an operation whose every field says which one it is, so that a lost or a mixed one is seen.
func op(peer, n int, deps ...int) api.Op {
	return named("k", peer, n, deps...)
}

// named has an operation that is told from others of its dot by its key.
func named(key string, peer, n int, deps ...int) api.Op {
	return api.Op{
		Dot:   api.Dot{Peer: peer, N: n},
		Deps:  deps,
		Stamp: api.Stamp{Phys: 100 + n, Logic: 7, Peer: peer},
		Kind:  api.OpDelete,
		Table: 2,
		Key:   key,
		Col:   3,
		Vals:  []api.Value{{Kind: api.Int, I: n}, {Kind: api.Text, S: key}},
		Dots:  []api.Dot{{Peer: peer, N: 1}, {Peer: 9, N: n}},
	}
}

func sameOp(a, b api.Op) bool {
	return a.Dot == b.Dot && slices.Equal(a.Deps, b.Deps) && a.Stamp == b.Stamp && a.Kind == b.Kind && a.Table == b.Table &&
		a.Key == b.Key && a.Col == b.Col && slices.Equal(a.Vals, b.Vals) && slices.Equal(a.Dots, b.Dots)
}

func same(a, b []api.Op) bool { return slices.EqualFunc(a, b, sameOp) }

// show has the dots of l, with their keys and Deps.
func show(l []api.Op) string {
	var all []string
	for _, x := range l {
		all = append(all, fmt.Sprintf("%s:%d.%d%v", x.Key, x.Dot.Peer, x.Dot.N, x.Deps))
	}
	return "[" + strings.Join(all, " ") + "]"
}

func ops(l ...api.Op) []api.Op { return l }

func wantCan(t *testing.T, have []int, x api.Op, want bool) {
	t.Helper()
	if got := cbuf.Can(have, x); got != want {
		t.Errorf("Can(%v, %s): got %t", have, show(ops(x)), got)
	}
}

func wantAgain(t *testing.T, have []int, waits, ready, left []api.Op, e api.Errno) {
	t.Helper()
	gotReady, gotLeft, gotE := cbuf.Again(have, waits)
	if !same(gotReady, ready) || !same(gotLeft, left) || gotE != e {
		t.Errorf("Again(%v, %s): got %s, %s, %d; want %s, %s, %d", have, show(waits), show(gotReady), show(gotLeft), gotE, show(ready), show(left), e)
	}
}

func wantOffer(t *testing.T, have []int, waits []api.Op, x api.Op, ready, left []api.Op, e api.Errno) {
	t.Helper()
	gotReady, gotLeft, gotE := cbuf.Offer(have, waits, x)
	if !same(gotReady, ready) || !same(gotLeft, left) || gotE != e {
		t.Errorf("Offer(%v, %s, %s): got %s, %s, %d; want %s, %s, %d", have, show(waits), show(ops(x)), show(gotReady), show(gotLeft), gotE, show(ready), show(left), e)
	}
}

// with has v with x at a place.
func with(v []int, at, x int) []int {
	out := append([]int(nil), v...)
	out[at] = x
	return out
}

// late has so many operations of the last of three peers, none of which can be had by what lacks its 49th.
func late(size int) []api.Op {
	var l []api.Op
	for i := range size {
		l = append(l, op(2, 50+i, 0, 0, 49+i))
	}
	return l
}

// badVector is a vector of which dot.Check tells an error.
type badVector struct {
	v []int
	e api.Errno
}

func badVectors() []badVector {
	var all []badVector
	for _, v := range [][]int{nil, {}, make([]int, api.MaxPeers+1), make([]int, api.MaxPeers+2), slices.Repeat([]int{-1}, api.MaxPeers+1), make([]int, 256+1)} {
		all = append(all, badVector{v, api.ErrLen})
	}
	for n := 1; n <= api.MaxPeers; n++ {
		for at := range n {
			for _, x := range []int{-1, math.MinInt, api.MaxSeq + 1, 1 << 32, math.MaxInt} {
				all = append(all, badVector{with(make([]int, n), at, x), api.ErrArg})
			}
		}
	}
	return all
}

// P12.1: Can

// haves has vectors of every length, those that are not right among them.
func haves() [][]int {
	all := [][]int{nil, {}, make([]int, api.MaxPeers+1), {-1}, {-1, -5}, {math.MinInt, math.MaxInt}, {math.MaxInt - 1, math.MinInt + 1}, {3, -2, 4}}
	for n := 1; n <= api.MaxPeers; n++ {
		all = append(all, make([]int, n), slices.Repeat([]int{4}, n), slices.Repeat([]int{api.MaxSeq - 1}, n), []int{9, 0, 3, 1, 7}[:n])
	}
	return all
}

// depsOf has Deps for have: as great, less, and greater by one at each place, too short and too long.
func depsOf(have []int) [][]int {
	all := [][]int{have, append(slices.Clone(have), 0), append(slices.Clone(have), -1), append([]int{0}, have...)}
	if len(have) > 0 {
		all = append(all, have[1:], have[:len(have)-1], nil)
	}
	for at, x := range have {
		all = append(all, with(have, at, math.MinInt), with(have, at, math.MaxInt))
		if x > math.MinInt {
			all = append(all, with(have, at, x-1))
		}
		if x < math.MaxInt {
			all = append(all, with(have, at, x+1))
		}
	}
	return all
}

// isLe tells of vectors of one length whether none of a's is greater.
func isLe(a, b []int) bool {
	for i := range a {
		if a[i] > b[i] {
			return false
		}
	}
	return true
}

func TestCanOfAny(t *testing.T) {
	yes := 0
	for _, have := range haves() {
		for _, deps := range depsOf(have) {
			for peer := -2; peer <= len(have)+2; peer++ {
				isPeer := peer >= 0 && peer < len(have)
				for _, n := range []int{math.MinInt, -5, -1, 0, 1, 2, 3, 4, 5, 6, 7, 8, 9, 10, 11, api.MaxSeq - 1, api.MaxSeq, math.MaxInt - 1, math.MaxInt} {
					want := isPeer && n != math.MinInt && n-1 == have[peer] && len(deps) == len(have) && isLe(deps, have)
					wantCan(t, have, op(peer, n, deps...), want)
					if want {
						yes++
					}
				}
			}
		}
	}
	if yes < 200 {
		t.Errorf("only %d can be had", yes)
	}
}

func TestCanOfPeersThatAreNot(t *testing.T) {
	for _, peer := range []int{math.MinInt, -1 << 32, -3, -1, 3, 4, 256, 1 << 32, math.MaxInt} {
		for _, n := range []int{0, 1, 2, math.MaxInt} {
			wantCan(t, []int{1, 1, 1}, op(peer, n, 0, 0, 0), false)
		}
	}
}

func TestCanByTheNumberOfThePeer(t *testing.T) {
	have := []int{3, 0, 5}
	for peer, x := range have {
		for n := -2; n < 12; n++ {
			wantCan(t, have, op(peer, n, 0, 0, 0), n == x+1)
			wantCan(t, have, op(peer, n, 3, 0, 5), n == x+1)
		}
	}
}

func TestCanByItsDeps(t *testing.T) {
	have := []int{3, 0, 5}
	for peer, x := range have {
		wantCan(t, have, op(peer, x+1, have...), true)
		for at := range have {
			wantCan(t, have, op(peer, x+1, with(have, at, have[at]+1)...), false)
			wantCan(t, have, op(peer, x+1, with(have, at, have[at]-1)...), true)
			wantCan(t, have, op(peer, x+1, with(make([]int, 3), at, api.MaxSeq)...), false)
		}
		for _, deps := range [][]int{nil, {}, {3}, {3, 0}, {0, 0}, {3, 0, 5, 0}, {0, 0, 0, 0}, {3, 0, 5, 0, 0, 0}} {
			wantCan(t, have, op(peer, x+1, deps...), false)
		}
	}
}

// P12.1: Again

func TestAgainOfNone(t *testing.T) {
	for n := 1; n <= api.MaxPeers; n++ {
		wantAgain(t, make([]int, n), nil, nil, nil, api.OK)
		wantAgain(t, slices.Repeat([]int{api.MaxSeq}, n), ops(), nil, nil, api.OK)
	}
}

func TestAgainTellsTheVectorFirst(t *testing.T) {
	for _, bad := range badVectors() {
		for _, waits := range [][]api.Op{nil, late(1), late(api.MaxPending), late(api.MaxPending + 1), ops(op(0, 1, bad.v...))} {
			wantAgain(t, bad.v, waits, nil, nil, bad.e)
		}
	}
}

func TestAgainOfAsManyAsMayBe(t *testing.T) {
	have := []int{1, 0, 0}
	wantAgain(t, have, late(api.MaxPending), nil, late(api.MaxPending), api.OK)
	wantAgain(t, []int{0, 0, 49}, late(api.MaxPending), late(api.MaxPending), nil, api.OK)
	for _, size := range []int{api.MaxPending + 1, api.MaxPending + 2, 2 * api.MaxPending, 256, 300, 1 << 12} {
		wantAgain(t, have, late(size), nil, nil, api.ErrLen)
		wantAgain(t, []int{0, 0, 49}, late(size), nil, nil, api.ErrLen)
		wantAgain(t, []int{0, 0, 1000}, late(size), nil, nil, api.ErrLen)
	}
}

func TestAgainOfOne(t *testing.T) {
	have := []int{1, 0, 0}
	for _, x := range ops(op(0, 2, 1, 0, 0), op(0, 2, 0, 0, 0), op(1, 1, 1, 0, 0), op(2, 1, 0, 0, 0)) {
		wantAgain(t, have, ops(x), ops(x), nil, api.OK)
	}
	for _, x := range ops(op(0, 3, 2, 0, 0), op(1, 1, 1, 0, 1), op(1, 2, 0, 0, 0), op(2, 1, 2, 0, 0)) {
		wantAgain(t, have, ops(x), nil, ops(x), api.OK)
	}
}

func TestAgainFromTheLastOneOn(t *testing.T) {
	var l []api.Op
	for n := range api.MaxPending {
		l = append(l, op(0, n+1, n, 0))
	}
	backwards := slices.Clone(l)
	slices.Reverse(backwards)
	wantAgain(t, []int{0, 0}, backwards, l, nil, api.OK)
	wantAgain(t, []int{0, 0}, l, l, nil, api.OK)
	// Without the first one, all wait, in their order.
	wantAgain(t, []int{0, 0}, backwards[:api.MaxPending-1], nil, backwards[:api.MaxPending-1], api.OK)
	// A gap holds up those behind it alone.
	gap := slices.Concat(backwards[:10], backwards[11:])
	wantAgain(t, []int{0, 0}, gap, l[:api.MaxPending-11], backwards[:10], api.OK)
}

func TestAgainOfSeveralPeersThatNeedOneAnother(t *testing.T) {
	a1, b1, a2, c1, b2 := op(0, 1, 0, 0, 0), op(1, 1, 1, 0, 0), op(0, 2, 1, 1, 0), op(2, 1, 2, 1, 0), op(1, 2, 2, 1, 1)
	want := ops(a1, b1, a2, c1, b2)
	for _, order := range permutations(5) {
		var waits []api.Op
		for _, i := range order {
			waits = append(waits, want[i])
		}
		wantAgain(t, []int{0, 0, 0}, waits, want, nil, api.OK)
	}
}

// permutations has all orders of the numbers below n.
func permutations(n int) [][]int {
	if n == 0 {
		return [][]int{nil}
	}
	var all [][]int
	for _, p := range permutations(n - 1) {
		for at := range n {
			all = append(all, slices.Insert(slices.Clone(p), at, n-1))
		}
	}
	return all
}

// Of several that can be had, the first is taken; then they are gone through from the beginning again.
func TestAgainTakesTheFirst(t *testing.T) {
	a1, a2, b1, c1 := op(0, 1, 0, 0, 0), op(0, 2, 1, 1, 0), op(1, 1, 0, 0, 0), op(2, 1, 0, 0, 0)
	have := []int{0, 0, 0}
	wantAgain(t, have, ops(a1, b1, c1), ops(a1, b1, c1), nil, api.OK)
	wantAgain(t, have, ops(c1, b1, a1), ops(c1, b1, a1), nil, api.OK)
	wantAgain(t, have, ops(b1, c1, a1), ops(b1, c1, a1), nil, api.OK)
	wantAgain(t, have, ops(a2, a1, b1, c1), ops(a1, b1, a2, c1), nil, api.OK)
	wantAgain(t, have, ops(a2, c1, b1, a1), ops(c1, b1, a1, a2), nil, api.OK)
	wantAgain(t, have, ops(c1, a2, b1, a1), ops(c1, b1, a1, a2), nil, api.OK)
}

func TestAgainOfTwoOfOneDot(t *testing.T) {
	x, y := named("x", 0, 1, 0, 0), named("y", 0, 1, 0, 0)
	have := []int{0, 0}
	wantAgain(t, have, ops(x, y), ops(x), nil, api.OK)
	wantAgain(t, have, ops(y, x), ops(y), nil, api.OK)
	wantAgain(t, have, ops(x, x), ops(x), nil, api.OK)
	// One that needs what is not there does not keep the other one back, and is dropped once that one is had.
	z := named("z", 0, 1, 0, 1)
	wantAgain(t, have, ops(z, x), ops(x), nil, api.OK)
	wantAgain(t, have, ops(x, z), ops(x), nil, api.OK)
	wantAgain(t, have, ops(z), nil, ops(z), api.OK)
	// Both wait, where none can be had.
	wantAgain(t, have, ops(z, z), nil, ops(z, z), api.OK)
	// What was needed comes, and the first of the two is taken though it stood back ahead of that.
	wantAgain(t, have, ops(z, op(1, 1, 0, 0), x), ops(op(1, 1, 0, 0), z), nil, api.OK)
}

func TestAgainDropsWhatIsHad(t *testing.T) {
	have := []int{3, 2}
	had := ops(op(0, 1, 0, 0), op(0, 3, 2, 2), op(1, 2, 3, 1), op(1, 1, 9, 9), op(0, 2))
	for _, x := range had {
		wantAgain(t, have, ops(x), nil, nil, api.OK)
	}
	wantAgain(t, have, had, nil, nil, api.OK)
	a4, b4 := op(0, 4, 3, 2), op(1, 4, 3, 3)
	wantAgain(t, have, slices.Concat(ops(b4), had, ops(a4), had), ops(a4), ops(b4), api.OK)
	// What is had only by what was taken is dropped too, ahead of it and behind.
	again := named("late", 0, 4, 0, 9)
	wantAgain(t, have, ops(again, b4, a4, again), ops(a4), ops(b4), api.OK)
}

// never has what no right vector of two ever has: it stays, whatever comes.
func never() []api.Op {
	return ops(op(2, 1, 0, 0), op(-1, 1, 0, 0), op(0, 0, 0, 0), op(1, -1, 0, 0), op(math.MaxInt, 1, 0, 0), op(math.MinInt, math.MinInt, 0, 0),
		op(0, math.MinInt, 0, 0), op(0, 5), op(0, 5, 0), op(1, 5, 0, 0, 0), op(1, 5, api.MaxSeq+1, 0), op(0, 5, 0, math.MaxInt))
}

func TestAgainLeavesWhatIsNeverHad(t *testing.T) {
	for _, have := range [][]int{{0, 0}, {4, 4}, {4, 0}, {0, 4}} {
		wantAgain(t, have, never(), nil, never(), api.OK)
		for _, x := range never() {
			wantAgain(t, have, ops(x), nil, ops(x), api.OK)
		}
	}
	x := op(0, 1, 0, 0)
	for at := range len(never()) + 1 {
		wantAgain(t, []int{0, 0}, slices.Insert(never(), at, x), ops(x), never(), api.OK)
	}
}

func TestAgainAtTheEnds(t *testing.T) {
	top := api.MaxSeq
	for n := 1; n <= api.MaxPeers; n++ {
		for peer := range n {
			have := slices.Repeat([]int{top}, n)
			have[peer] = top - 2
			x, y := op(peer, top-1, have...), op(peer, top, with(have, peer, top-1)...)
			wantAgain(t, have, ops(y, x), ops(x, y), nil, api.OK)
			wantAgain(t, have, ops(y), nil, ops(y), api.OK)
			wantAgain(t, with(have, peer, top-1), ops(x, y), ops(y), nil, api.OK)
			wantAgain(t, with(have, peer, top), ops(x, y), nil, nil, api.OK)
		}
	}
}

// Of a dot above MaxSeq nothing is promised, but that the call ends.
func TestDotsAboveTheLastEnd(t *testing.T) {
	top := api.MaxSeq
	for _, have := range [][]int{{top, 0}, {top - 1, 0}, {top, top}} {
		var l []api.Op
		for i := range api.MaxPending {
			l = append(l, op(0, top+2+i, 0, 0))
		}
		l[3], l[7] = op(0, math.MaxInt, 0, 0), op(0, math.MaxInt-1, 0, 0)
		for _, waits := range [][]api.Op{l, slices.Concat(l[:9], ops(op(0, top+1, 0, 0)), l[10:])} {
			cbuf.Again(have, waits)
			for _, x := range ops(op(0, top+1, 0, 0), op(1, top+1, top, top), op(0, math.MaxInt, 0, 0)) {
				cbuf.Can(have, x)
				cbuf.Offer(have, waits, x)
				cbuf.Offer(have, waits[1:], x)
			}
		}
	}
}

// P12.2

func TestTheSecondAheadOfTheFirst(t *testing.T) {
	first, second := op(0, 1, 0, 0), op(0, 2, 1, 0)
	wantOffer(t, []int{0, 0}, nil, second, nil, ops(second), api.ErrEarly)
	wantOffer(t, []int{0, 0}, ops(second), first, ops(first, second), nil, api.OK)
}

func TestOfferTellsTheVectorFirst(t *testing.T) {
	for _, bad := range badVectors() {
		over := late(api.MaxPending + 1)
		for _, waits := range [][]api.Op{nil, late(1), late(api.MaxPending), over} {
			wantOffer(t, bad.v, waits, op(0, 1, 0, 0, 0), nil, nil, bad.e)
			wantOffer(t, bad.v, waits, over[0], nil, nil, bad.e)
			wantOffer(t, bad.v, waits, op(-1, 0), nil, nil, bad.e)
		}
	}
}

func TestOfferTellsTooManyAheadOfTheRest(t *testing.T) {
	have := []int{1, 0, 0}
	for _, size := range []int{api.MaxPending + 1, api.MaxPending + 2, 300} {
		waits := late(size)
		// It is had, it waits, it can be had, it can't be had.
		for _, x := range ops(op(0, 1, 0, 0, 0), waits[0], waits[size-1], op(0, 2, 1, 0, 0), op(0, 3, 2, 0, 0)) {
			wantOffer(t, have, waits, x, nil, nil, api.ErrLen)
		}
	}
}

func TestOfferOfWhatIsHad(t *testing.T) {
	have := []int{3, 0, 1}
	for _, waits := range [][]api.Op{nil, late(1), late(api.MaxPending), ops(op(0, 2, 1, 0, 0)), ops(op(0, 4, 3, 0, 0))} {
		for _, x := range ops(op(0, 1, 0, 0, 0), op(0, 2, 1, 0, 0), op(0, 3, 2, 0, 0), op(2, 1, 0, 0, 0), op(0, 3, 9, 9, 9), op(0, 3)) {
			wantOffer(t, have, waits, x, nil, nil, api.ErrTwice)
		}
	}
}

func TestOfferOfWhatWaits(t *testing.T) {
	have := []int{1, 0, 0}
	for _, size := range []int{1, 2, api.MaxPending - 1, api.MaxPending} {
		waits := late(size)
		for i, x := range waits {
			wantOffer(t, have, waits, x, nil, nil, api.ErrTwice)
			// It is its dot that counts, and neither what it does nor what it needs.
			wantOffer(t, have, waits, named("other", 2, 50+i), nil, nil, api.ErrTwice)
		}
	}
	// Though it could be had by itself, or never.
	for _, x := range ops(op(0, 2, 1, 0, 0), op(0, 2, 9, 9, 9), op(-1, 0), op(7, 1, 0, 0, 0), op(0, 0, 0, 0, 0), op(1, -4, 0, 0, 0)) {
		for at := range 4 {
			waits := slices.Insert(late(3), at, x)
			wantOffer(t, have, waits, named("other", x.Dot.Peer, x.Dot.N, 1, 0, 0), nil, nil, api.ErrTwice)
		}
	}
	// The same peer, or the same number, is not the same dot.
	waits := ops(op(1, 3, 0, 2, 0))
	for _, x := range ops(op(1, 2, 0, 1, 0), op(1, 4, 0, 3, 0), op(0, 3, 2, 0, 0), op(2, 3, 0, 0, 2)) {
		wantOffer(t, have, waits, x, nil, append(slices.Clone(waits), x), api.ErrEarly)
	}
}

func TestOfferOfWhatCanBeHad(t *testing.T) {
	have := []int{1, 0, 0}
	for _, size := range []int{0, 1, api.MaxPending - 1, api.MaxPending} {
		for _, x := range ops(op(0, 2, 1, 0, 0), op(0, 2, 0, 0, 0), op(1, 1, 1, 0, 0), op(2, 1, 0, 0, 0)) {
			wantOffer(t, have, late(size), x, ops(x), late(size), api.OK)
		}
	}
}

func TestOfferOfWhatCanNotBeHad(t *testing.T) {
	have := []int{1, 0, 0}
	early := append(never3(), op(0, 3, 2, 0, 0), op(0, 2, 1, 1, 0), op(1, 1, 2, 0, 0), op(2, 1, 0, 0, 1), op(2, 40, 0, 0, 39))
	for _, x := range early {
		for _, size := range []int{0, 1, 2, api.MaxPending - 1} {
			wantOffer(t, have, late(size), x, nil, append(late(size), x), api.ErrEarly)
		}
		wantOffer(t, have, late(api.MaxPending), x, nil, nil, api.ErrFull)
	}
}

// never3 has what no right vector of three ever has.
func never3() []api.Op {
	return ops(op(3, 1, 0, 0, 0), op(-1, 1, 0, 0, 0), op(0, 0, 0, 0, 0), op(1, -1, 0, 0, 0), op(math.MaxInt, 1, 0, 0, 0), op(1, math.MinInt, 0, 0, 0),
		op(1, 1), op(1, 1, 0, 0), op(1, 1, 0, 0, 0, 0), op(1, 1, api.MaxSeq+1, 0, 0), op(1, 1, 0, 0, math.MaxInt))
}

// Beside ErrEarly all that waited is told, as it stood: also what could be had, and what is had.
func TestOfferTooEarlyTakesNothing(t *testing.T) {
	have := []int{1, 0, 0}
	waits := ops(op(0, 2, 1, 0, 0), op(0, 1, 0, 0, 0), op(1, 1, 0, 0, 0), op(0, 1, 0, 0, 0))
	x := op(2, 2, 0, 0, 1)
	wantOffer(t, have, waits, x, nil, append(slices.Clone(waits), x), api.ErrEarly)
	// And it is full of these too.
	full := slices.Concat(waits, late(api.MaxPending-len(waits)))
	wantOffer(t, have, full, x, nil, nil, api.ErrFull)
	// x stays back though what could be had ahead of it is there.
	wantOffer(t, have, ops(op(0, 2, 1, 0, 0)), op(0, 3, 2, 0, 0), nil, ops(op(0, 2, 1, 0, 0), op(0, 3, 2, 0, 0)), api.ErrEarly)
}

func TestOfferFreesAllThatWait(t *testing.T) {
	var l []api.Op
	for n := range api.MaxPending {
		l = append(l, op(1, n+1, 1, n))
	}
	backwards := slices.Clone(l)
	slices.Reverse(backwards)
	x := op(0, 1, 0, 0)
	wantOffer(t, []int{0, 0}, backwards, x, slices.Concat(ops(x), l), nil, api.OK)
	wantOffer(t, []int{0, 0}, l, x, slices.Concat(ops(x), l), nil, api.OK)
}

func TestOfferFreesSomeThatWait(t *testing.T) {
	b2, c1, b1, a2 := op(1, 2, 1, 1, 0), op(2, 1, 2, 2, 0), op(1, 1, 1, 0, 0), op(0, 2, 1, 0, 0)
	a4, c3 := op(0, 4, 3, 0, 0), op(2, 3, 1, 0, 2)
	a1 := op(0, 1, 0, 0, 0)
	wantOffer(t, []int{0, 0, 0}, ops(a4, b2, c1, c3, b1, a2), a1, ops(a1, b1, b2, a2, c1), ops(a4, c3), api.OK)
	wantOffer(t, []int{0, 0, 0}, ops(c3, b1, a4), a1, ops(a1, b1), ops(c3, a4), api.OK)
	wantOffer(t, []int{0, 0, 0}, ops(c3, c1, a4), a1, ops(a1), ops(c3, c1, a4), api.OK)
}

// x comes ahead of what could have been had without it, and drops what it makes had.
func TestOfferIsFirst(t *testing.T) {
	a1, b1 := op(0, 1, 0, 0), op(1, 1, 0, 0)
	wantOffer(t, []int{0, 0}, ops(b1), a1, ops(a1, b1), nil, api.OK)
	wantOffer(t, []int{0, 0}, ops(a1), b1, ops(b1, a1), nil, api.OK)
	wantOffer(t, []int{1, 0}, ops(a1, op(0, 3, 2, 0), a1), b1, ops(b1), ops(op(0, 3, 2, 0)), api.OK)
}

func TestOfferAtTheEnds(t *testing.T) {
	top := api.MaxSeq
	x := op(0, top, top-1, top)
	wantOffer(t, []int{top - 1, top}, nil, x, ops(x), nil, api.OK)
	wantOffer(t, []int{top, top}, nil, x, nil, nil, api.ErrTwice)
	wantOffer(t, []int{top - 2, top}, nil, x, nil, ops(x), api.ErrEarly)
	wantOffer(t, []int{top - 2, top}, ops(x), op(0, top-1, 0, 0), ops(op(0, top-1, 0, 0), x), nil, api.OK)
}

// P12.3

// history has so many operations of n peers, in an order in which they were issued, and is closed: each has as Deps
// what its peer had, and that hears of others' now and then.
func history(r *rand.Rand, n, size int) []api.Op {
	haves := make([][]int, n)
	for i := range haves {
		haves[i] = make([]int, n)
	}
	var all []api.Op
	for range size {
		p, q := r.Intn(n), r.Intn(n)
		if r.Intn(3) > 0 {
			haves[p], _ = dot.Merge(haves[p], haves[q])
		}
		all = append(all, op(p, haves[p][p]+1, haves[p]...))
		haves[p] = with(haves[p], p, haves[p][p]+1)
	}
	return all
}

// receiver is one that is offered operations, and holds that what is ready is right.
type receiver struct {
	t     *testing.T
	have  []int
	waits []api.Op
	seen  []api.Op
}

func (r *receiver) takes(ready, left []api.Op) {
	r.t.Helper()
	for _, x := range ready {
		if x.Dot.Peer < 0 || x.Dot.Peer >= len(r.have) || x.Dot.N != r.have[x.Dot.Peer]+1 || !isLe(x.Deps, r.have) {
			r.t.Fatalf("by %v comes %s", r.have, show(ops(x)))
		}
		r.have[x.Dot.Peer]++
	}
	r.seen = append(r.seen, ready...)
	r.waits = left
}

func (r *receiver) offered(x api.Op) api.Errno {
	r.t.Helper()
	size := len(r.waits)
	ready, left, e := cbuf.Offer(r.have, r.waits, x)
	switch e {
	case api.OK:
		if len(ready)+len(left) != size+1 || !sameOp(ready[0], x) {
			r.t.Fatalf("%d waited, and %s is offered: %s, %s", size, show(ops(x)), show(ready), show(left))
		}
		r.takes(ready, left)
	case api.ErrEarly:
		if len(ready) != 0 || len(left) != size+1 {
			r.t.Fatalf("%d waited, and %s is early: %s, %s", size, show(ops(x)), show(ready), show(left))
		}
		r.waits = left
	}
	return e
}

func byDot(a, b api.Op) int {
	if a.Dot.Peer != b.Dot.Peer {
		return a.Dot.Peer - b.Dot.Peer
	}
	return a.Dot.N - b.Dot.N
}

func TestAnyOrderOfAClosedHistory(t *testing.T) {
	r := rand.New(rand.NewSource(1))
	early := 0
	for range 400 {
		n := 1 + r.Intn(api.MaxPeers)
		all := history(r, n, 1+r.Intn(api.MaxPending))
		to := &receiver{t: t, have: make([]int, n)}
		for _, i := range r.Perm(len(all)) {
			switch e := to.offered(all[i]); e {
			case api.OK:
			case api.ErrEarly:
				early++
			default:
				t.Fatalf("Offer of %s: %d", show(all[i:i+1]), e)
			}
			if e := to.offered(all[i]); e != api.ErrTwice {
				t.Fatalf("Offer of %s a second time: %d", show(all[i:i+1]), e)
			}
		}
		slices.SortFunc(all, byDot)
		slices.SortFunc(to.seen, byDot)
		if len(to.waits) != 0 || !same(to.seen, all) {
			t.Fatalf("of %s came %s, and %s wait", show(all), show(to.seen), show(to.waits))
		}
	}
	if early < 2000 {
		t.Errorf("only %d were early", early)
	}
}

// Where more come than may wait, those that found no room are offered again, and all are ready in the end.
func TestAnyOrderOfALongHistory(t *testing.T) {
	r := rand.New(rand.NewSource(2))
	full := 0
	for range 30 {
		n := 1 + r.Intn(api.MaxPeers)
		all := history(r, n, 150)
		to := &receiver{t: t, have: make([]int, n)}
		for round := 0; len(to.seen) < len(all); round++ {
			if round > len(all) {
				t.Fatalf("%d of %d came, and %s wait", len(to.seen), len(all), show(to.waits))
			}
			for _, i := range r.Perm(len(all)) {
				if e := to.offered(all[i]); e == api.ErrFull {
					full++
				}
			}
		}
		slices.SortFunc(all, byDot)
		slices.SortFunc(to.seen, byDot)
		if len(to.waits) != 0 || !same(to.seen, all) {
			t.Fatalf("%s came, and %s wait", show(to.seen), show(to.waits))
		}
	}
	if full < 500 {
		t.Errorf("only %d found no room", full)
	}
}

// A closed history is ready at once, whatever the order in which it waits.
func TestAgainOfAClosedHistory(t *testing.T) {
	r := rand.New(rand.NewSource(3))
	for range 300 {
		n := 1 + r.Intn(api.MaxPeers)
		all := history(r, n, api.MaxPending)
		r.Shuffle(len(all), func(i, j int) { all[i], all[j] = all[j], all[i] })
		to := &receiver{t: t, have: make([]int, n)}
		ready, left, e := cbuf.Again(to.have, all)
		to.takes(ready, left)
		if len(ready) != len(all) || len(left) != 0 || e != api.OK {
			t.Fatalf("Again(%s): %s, %s, %d", show(all), show(ready), show(left), e)
		}
	}
}

// told is what the chapter says of Again, by marks and not by lists that shrink.
func told(have []int, waits []api.Op) (ready, left []api.Op) {
	have = slices.Clone(have)
	gone := make([]bool, len(waits))
	for at := 0; at < len(waits); at++ {
		x := waits[at]
		if gone[at] || x.Dot.Peer < 0 || x.Dot.Peer >= len(have) || len(x.Deps) != len(have) || x.Dot.N != have[x.Dot.Peer]+1 || !isLe(x.Deps, have) {
			continue
		}
		ready, gone[at] = append(ready, x), true
		have[x.Dot.Peer] = x.Dot.N
		at = -1
	}
	for at, x := range waits {
		had := x.Dot.Peer >= 0 && x.Dot.Peer < len(have) && x.Dot.N > 0 && x.Dot.N <= have[x.Dot.Peer]
		if !gone[at] && !had {
			left = append(left, x)
		}
	}
	return ready, left
}

// toldOffer is what the chapter says of Offer, where have is right and no more wait than may.
func toldOffer(have []int, waits []api.Op, x api.Op) (ready, left []api.Op, e api.Errno) {
	if dot.Has(have, x.Dot) {
		return nil, nil, api.ErrTwice
	}
	for _, w := range waits {
		if w.Dot.Peer == x.Dot.Peer && w.Dot.N == x.Dot.N {
			return nil, nil, api.ErrTwice
		}
	}
	if alone, _ := told(have, ops(x)); len(alone) == 1 {
		ready, left = told(with(have, x.Dot.Peer, x.Dot.N), waits)
		return slices.Concat(ops(x), ready), left, api.OK
	}
	if len(waits) == api.MaxPending {
		return nil, nil, api.ErrFull
	}
	return nil, slices.Concat(waits, ops(x)), api.ErrEarly
}

// randomOp has one near what is had, now and then a wrong one.
func randomOp(r *rand.Rand, n int) api.Op {
	size, peer := n, r.Intn(n)
	if r.Intn(20) == 0 {
		size = r.Intn(api.MaxPeers + 2)
	}
	if r.Intn(20) == 0 {
		peer = r.Intn(n+2) - 1
	}
	deps := make([]int, size)
	for i := range deps {
		deps[i] = r.Intn(4) * r.Intn(2)
	}
	return named(string(rune('a'+r.Intn(26))), peer, r.Intn(7), deps...)
}

func TestOfAnyWaits(t *testing.T) {
	r := rand.New(rand.NewSource(4))
	var errs [16]int
	some := 0
	for range 8000 {
		n := 1 + r.Intn(api.MaxPeers)
		have := make([]int, n)
		for i := range have {
			have[i] = r.Intn(4)
		}
		var waits []api.Op
		for range []int{r.Intn(8), r.Intn(api.MaxPending + 1), api.MaxPending}[r.Intn(3)] {
			waits = append(waits, randomOp(r, n))
		}
		ready, left := told(have, waits)
		wantAgain(t, have, waits, ready, left, api.OK)
		if len(ready) > 2 && len(left) > 0 {
			some++
		}
		x := randomOp(r, n)
		ready, left, e := toldOffer(have, waits, x)
		wantOffer(t, have, waits, x, ready, left, e)
		errs[e]++
		if t.Failed() {
			return
		}
	}
	if some < 1000 || errs[api.OK] < 100 || errs[api.ErrTwice] < 100 || errs[api.ErrFull] < 100 || errs[api.ErrEarly] < 100 {
		t.Errorf("too few of a kind: %d, %v", some, errs)
	}
}

// R2, R3, R6

// roomy has l in memory with spare room behind it, which is zero.
func roomy[T any](l []T) []T {
	out := make([]T, len(l), len(l)+3)
	copy(out, l)
	return out
}

func roomyOp(x api.Op) api.Op {
	x.Deps, x.Vals, x.Dots = roomy(x.Deps), roomy(x.Vals), roomy(x.Dots)
	return x
}

func roomyOps(l []api.Op) []api.Op {
	out := roomy(l)
	for i, x := range l {
		out[i] = roomyOp(x)
	}
	return out
}

// isSpareKept tells whether the spare room of l, as roomy has it, is what it was.
func isSpareKept[T comparable](l []T) bool {
	var zero T
	spare := l[len(l):cap(l)]
	return len(spare) == 3 && !slices.ContainsFunc(spare, func(x T) bool { return x != zero })
}

func isOpKept(now, was api.Op) bool {
	return sameOp(now, was) && isSpareKept(now.Deps) && isSpareKept(now.Vals) && isSpareKept(now.Dots)
}

func isListKept(now, was []api.Op) bool {
	if len(now) != len(was) {
		return false
	}
	for i := range now {
		if !isOpKept(now[i], was[i]) {
			return false
		}
	}
	for _, x := range now[len(now):cap(now)] {
		if !sameOp(x, api.Op{}) {
			return false
		}
	}
	return true
}

// fill writes x over l, and over its spare room.
func fill[T any](l []T, x T) {
	l = l[:cap(l)]
	for i := range l {
		l[i] = x
	}
}

func spoilOp(x api.Op) {
	fill(x.Deps, -77)
	fill(x.Vals, api.Value{Kind: -77})
	fill(x.Dots, api.Dot{Peer: -77})
}

func spoilAll(l []api.Op) {
	for _, x := range l {
		spoilOp(x)
	}
	fill(l, api.Op{Key: "spoilt"})
}

// offer is a call of Offer, or of Again where x is not there.
type offer struct {
	have  []int
	waits []api.Op
	x     *api.Op
}

func (o offer) call() (ready, left []api.Op, e api.Errno) {
	if o.x == nil {
		return cbuf.Again(o.have, o.waits)
	}
	return cbuf.Offer(o.have, o.waits, *o.x)
}

// roomyCopy has the same call, with arguments that have spare room.
func (o offer) roomyCopy() offer {
	out := offer{have: roomy(o.have), waits: roomyOps(o.waits)}
	if o.x != nil {
		x := roomyOp(*o.x)
		out.x = &x
	}
	return out
}

func (o offer) isKept(was offer) bool {
	return slices.Equal(o.have, was.have) && isSpareKept(o.have) && isListKept(o.waits, was.waits) && (o.x == nil || isOpKept(*o.x, *was.x))
}

func (o offer) spoil() {
	fill(o.have, -77)
	spoilAll(o.waits)
	if o.x != nil {
		spoilOp(*o.x)
	}
}

// offers has calls with which some are ready, some wait, some are dropped, and those with errors.
func offers() []offer {
	a1, a2, b1, b2, c4 := op(0, 1, 0, 0, 0), op(0, 2, 1, 1, 0), op(1, 1, 1, 0, 0), op(1, 2, 2, 1, 0), op(2, 4, 0, 0, 3)
	c5, bad := op(2, 5, 0, 0, 4), op(7, 7)
	waits := ops(c4, b2, a2, named("again", 0, 1, 0, 0, 0), bad, b1)
	var all []offer
	for _, have := range [][]int{{0, 0, 0}, {1, 0, 0}, {1, 1, 0}, {2, 2, 2}, {9, 9, 9}, {0, 0, 3}, {-1, 0, 0}, {0}} {
		for _, l := range [][]api.Op{nil, waits, ops(b1, a2), late(api.MaxPending), late(api.MaxPending + 1)} {
			all = append(all, offer{have, l, nil}, offer{have, l, &a1}, offer{have, l, &a2}, offer{have, l, &b1}, offer{have, l, &c5}, offer{have, l, &bad})
		}
	}
	return all
}

func copied(l []api.Op) []api.Op {
	var out []api.Op
	for _, x := range l {
		x.Deps, x.Vals, x.Dots = append([]int(nil), x.Deps...), append([]api.Value(nil), x.Vals...), append([]api.Dot(nil), x.Dots...)
		out = append(out, x)
	}
	return out
}

func TestWhatIsHandedInStays(t *testing.T) {
	for i, o := range offers() {
		in := o.roomyCopy()
		ready, left, _ := in.call()
		if !in.isKept(o) {
			t.Errorf("call %d: handed in is now %v, %s", i, in.have, show(in.waits))
		}
		spoilAll(ready)
		spoilAll(left)
		if !in.isKept(o) {
			t.Errorf("call %d: the answer shares memory with what is handed in: %v, %s", i, in.have, show(in.waits))
		}
		cbuf.Can(in.have, op(0, 1, in.have...))
		if !in.isKept(o) {
			t.Errorf("call %d: Can changes what is handed in", i)
		}
	}
}

func TestAnswersAreNewMemory(t *testing.T) {
	for i, o := range offers() {
		in := o.roomyCopy()
		ready, left, e := in.call()
		other, rest, f := in.call()
		if !same(ready, other) || !same(left, rest) || e != f {
			t.Errorf("call %d: %s, %s, %d, and then %s, %s, %d", i, show(ready), show(left), e, show(other), show(rest), f)
		}
		wasReady, wasLeft := copied(ready), copied(left)
		spoilAll(other)
		spoilAll(rest)
		in.spoil()
		if !same(ready, wasReady) || !same(left, wasLeft) {
			t.Errorf("call %d: the answer was %s, %s, and is %s, %s", i, show(wasReady), show(wasLeft), show(ready), show(left))
		}
	}
}

// wantApart holds that no list of an answer shares memory with another one of it.
func wantApart(t *testing.T, ready, left []api.Op) {
	t.Helper()
	all := slices.Concat(ready, left)
	for i, x := range all {
		was := copied(all)
		spoilOp(x)
		for j := range all {
			if j != i && !sameOp(all[j], was[j]) {
				t.Errorf("%s and %s share memory", show(was[i:i+1]), show(was[j:j+1]))
			}
		}
		copy(x.Deps, was[i].Deps)
		copy(x.Vals, was[i].Vals)
		copy(x.Dots, was[i].Dots)
	}
	wasLeft := copied(left)
	fill(ready, api.Op{Key: "spoilt"})
	if !same(left, wasLeft) {
		t.Error("ready and left share memory")
	}
	wasReady := copied(ready)
	fill(left, api.Op{Key: "spoilt too"})
	if !same(ready, wasReady) {
		t.Error("left and ready share memory")
	}
}

func TestListsOfAnAnswerAreApart(t *testing.T) {
	for _, o := range offers() {
		ready, left, _ := o.roomyCopy().call()
		wantApart(t, ready, left)
	}
}

// One list may stand at several places of what is handed in: the answer's are apart all the same.
func TestOneListAtSeveralPlaces(t *testing.T) {
	deps := []int{0, 0, 0}
	x, y, z := op(0, 1, deps...), op(1, 1, deps...), op(2, 2, deps...)
	x.Vals, x.Dots = y.Vals, y.Dots
	z.Vals, z.Dots = y.Vals, y.Dots
	for _, o := range []offer{{deps, ops(x, y, z), nil}, {deps, ops(z, y), &x}, {deps, ops(x, y), &z}, {deps, ops(z, z), &x}} {
		ready, left, _ := o.call()
		wantApart(t, ready, left)
		if !slices.Equal(deps, []int{0, 0, 0}) {
			t.Fatalf("handed in is now %v", deps)
		}
	}
}

// The spare room of an answer holds nothing of what was taken away.
func TestTheSpareRoomOfAnAnswerIsEmpty(t *testing.T) {
	for i, o := range offers() {
		ready, left, _ := o.call()
		for _, l := range [][]api.Op{ready, left} {
			for _, x := range l[len(l):cap(l)] {
				if !sameOp(x, api.Op{}) {
					t.Errorf("call %d: behind %s lies %s", i, show(l), show(ops(x)))
				}
			}
		}
	}
}

// What lies behind a list's length is not read.
func TestSpareRoomIsNotRead(t *testing.T) {
	a1, a2, b1 := op(0, 1, 0, 0), op(0, 2, 1, 0), op(1, 1, 0, 0)
	waits := ops(a2, a1, b1)[:1]
	wantAgain(t, []int{0, 0}, waits, nil, ops(a2), api.OK)
	wantOffer(t, []int{0, 0}, waits, a1, ops(a1, a2), nil, api.OK)
	wantOffer(t, []int{0, 0}, waits, b1, ops(b1), ops(a2), api.OK)
	have := []int{0, 0, -1}[:2]
	wantAgain(t, have, ops(a1), ops(a1), nil, api.OK)
	short := op(0, 1, 0, 0)
	short.Deps = short.Deps[:1]
	wantCan(t, have, short, false)
	wantAgain(t, have, ops(short), nil, ops(short), api.OK)
	whole := slices.Repeat(ops(a2), api.MaxPending+5)
	wantAgain(t, have, whole[:api.MaxPending], nil, whole[:api.MaxPending], api.OK)
}

// nil and an empty list mean the same.
func TestNilIsAnEmptyList(t *testing.T) {
	x := api.Op{Dot: api.Dot{Peer: 0, N: 2}, Deps: []int{1, 0}}
	y := api.Op{Dot: x.Dot, Deps: []int{1, 0}, Vals: []api.Value{}, Dots: []api.Dot{}}
	for _, have := range [][]int{{0, 0}, {1, 0}, {2, 0}} {
		r1, l1, e1 := cbuf.Offer(have, nil, x)
		r2, l2, e2 := cbuf.Offer(have, ops(), y)
		if !same(r1, r2) || !same(l1, l2) || e1 != e2 {
			t.Errorf("by %v: %s, %s, %d and %s, %s, %d", have, show(r1), show(l1), e1, show(r2), show(l2), e2)
		}
	}
	wantCan(t, nil, api.Op{Dot: api.Dot{Peer: 0, N: 1}}, false)
	wantCan(t, []int{}, api.Op{Dot: api.Dot{Peer: 0, N: 1}, Deps: []int{}}, false)
}
