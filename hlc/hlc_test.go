package hlc_test

import (
	"math"
	"testing"

	"raddle/api"
	"raddle/hlc"
)

// least and most are the ends of what an int may be.
const (
	least = math.MinInt
	most  = math.MaxInt
)

// stamp is a Stamp in one line.
func stamp(phys, logic, peer int) api.Stamp {
	return api.Stamp{Phys: phys, Logic: logic, Peer: peer}
}

// within has numbers from 0 to top: both ends, and some between.
func within(top int) []int {
	return []int{0, 1, top / 2, top - 1, top}
}

// beyond has numbers below 0 and above top: those next to the ends, those that a shorter number would take for right ones, and the greatest and the least.
func beyond(top int) []int {
	return []int{-1, -2, -top, least, least + 1, top + 1, top + 2, 1 << 48, 1<<48 + 1, most - 1, most}
}

// right has right Stamps.
func right() []api.Stamp {
	var all []api.Stamp
	for _, phys := range within(api.MaxPhys) {
		for _, logic := range within(api.MaxLogic) {
			for peer := range api.MaxPeers {
				all = append(all, stamp(phys, logic, peer))
			}
		}
	}
	return all
}

// wrong has Stamps with one number that may not be, the others at either end, and Stamps with none that may.
func wrong() []api.Stamp {
	const lastPeer = api.MaxPeers - 1
	var all []api.Stamp
	for _, x := range beyond(api.MaxPhys) {
		all = append(all, stamp(x, 0, 0), stamp(x, api.MaxLogic, lastPeer), stamp(x, x, x))
	}
	for _, x := range beyond(api.MaxLogic) {
		all = append(all, stamp(0, x, 0), stamp(api.MaxPhys, x, lastPeer))
	}
	for _, x := range beyond(lastPeer) {
		all = append(all, stamp(0, 0, x), stamp(api.MaxPhys, api.MaxLogic, x))
	}
	return all
}

// rising has numbers, each greater than the one ahead of it.
func rising() []int {
	return []int{least, least + 1, -1, 0, 1, api.MaxLogic, 1 << 32, api.MaxPhys, most - 1, most}
}

// ordered has Stamps of those numbers, each later than the one ahead of it.
func ordered() []api.Stamp {
	var all []api.Stamp
	for _, phys := range rising() {
		for _, logic := range rising() {
			for _, peer := range rising() {
				all = append(all, stamp(phys, logic, peer))
			}
		}
	}
	return all
}

// after is whether b stands behind a by the chapter's order.
func after(a, b api.Stamp) bool {
	switch {
	case a.Phys != b.Phys:
		return b.Phys > a.Phys
	case a.Logic != b.Logic:
		return b.Logic > a.Logic
	}
	return b.Peer > a.Peer
}

func wantCheck(t *testing.T, s api.Stamp, want api.Errno) {
	t.Helper()
	if e := hlc.Check(s); e != want {
		t.Errorf("Check(%v): got %d, want %d", s, e, want)
	}
}

func wantCompare(t *testing.T, a, b api.Stamp, want int) {
	t.Helper()
	if got := hlc.Compare(a, b); got != want {
		t.Errorf("Compare(%v, %v): got %d, want %d", a, b, got, want)
	}
}

func wantLater(t *testing.T, a, b, want api.Stamp) {
	t.Helper()
	if got := hlc.Later(a, b); got != want {
		t.Errorf("Later(%v, %v): got %v, want %v", a, b, got, want)
	}
}

// wantNext holds the answer beside an error to be noughts too (R4): there want is noughts.
func wantNext(t *testing.T, last api.Stamp, wall, peer int, want api.Stamp, wantE api.Errno) {
	t.Helper()
	got, e := hlc.Next(last, wall, peer)
	if got != want || e != wantE {
		t.Errorf("Next(%v, %d, %d): got %v, %d; want %v, %d", last, wall, peer, got, e, want, wantE)
	}
}

func wantNextError(t *testing.T, last api.Stamp, wall, peer int, want api.Errno) {
	t.Helper()
	wantNext(t, last, wall, peer, api.Stamp{}, want)
}

// P6.1: Check

func TestCheckTakesRightStamps(t *testing.T) {
	for _, s := range right() {
		wantCheck(t, s, api.OK)
	}
}

func TestCheckTellsWrongStamps(t *testing.T) {
	for _, s := range wrong() {
		wantCheck(t, s, api.ErrArg)
	}
}

func TestCheckAtEachEnd(t *testing.T) {
	wantCheck(t, stamp(0, 0, 0), api.OK)
	wantCheck(t, stamp(-1, 0, 0), api.ErrArg)
	wantCheck(t, stamp(0, -1, 0), api.ErrArg)
	wantCheck(t, stamp(0, 0, -1), api.ErrArg)
	wantCheck(t, stamp(1<<40, 1<<16, 4), api.OK)
	wantCheck(t, stamp(1<<40+1, 1<<16, 4), api.ErrArg)
	wantCheck(t, stamp(1<<40, 1<<16+1, 4), api.ErrArg)
	wantCheck(t, stamp(1<<40, 1<<16, 5), api.ErrArg)
}

// P6.1: Compare

func TestCompareByEachNumber(t *testing.T) {
	a := stamp(5, 5, 3)
	wantCompare(t, a, a, 0)
	for _, b := range []api.Stamp{stamp(6, 5, 3), stamp(5, 6, 3), stamp(5, 5, 4)} {
		wantCompare(t, a, b, -1)
		wantCompare(t, b, a, 1)
	}
}

func TestCompareByTheFirstThatDiffers(t *testing.T) {
	wantCompare(t, stamp(1, 9, 4), stamp(2, 0, 0), -1)
	wantCompare(t, stamp(2, 0, 0), stamp(1, 9, 4), 1)
	wantCompare(t, stamp(1, 0, 4), stamp(1, 1, 0), -1)
	wantCompare(t, stamp(1, 1, 0), stamp(1, 0, 4), 1)
}

// R5: no difference of two numbers wraps.
func TestCompareDoesNotWrap(t *testing.T) {
	wantCompare(t, stamp(least, 0, 0), stamp(most, 0, 0), -1)
	wantCompare(t, stamp(most, 0, 0), stamp(least, 0, 0), 1)
	wantCompare(t, stamp(0, least, 0), stamp(0, most, 0), -1)
	wantCompare(t, stamp(0, most, 0), stamp(0, least, 0), 1)
	wantCompare(t, stamp(0, 0, least), stamp(0, 0, most), -1)
	wantCompare(t, stamp(0, 0, most), stamp(0, 0, least), 1)
}

// P6.1: Later

func TestLaterOfEqualOnesAndOthers(t *testing.T) {
	a := stamp(5, 5, 3)
	wantLater(t, a, a, a)
	for _, b := range []api.Stamp{stamp(6, 0, 0), stamp(5, 6, 0), stamp(5, 5, 4)} {
		wantLater(t, a, b, b)
		wantLater(t, b, a, b)
	}
}

// Every Stamp is held against every other, right or not.
func TestOrderOfAnyStamps(t *testing.T) {
	all := ordered()
	for i, a := range all {
		for _, b := range all[i+1:] {
			wantCompare(t, a, b, -1)
			wantCompare(t, b, a, 1)
			wantLater(t, a, b, b)
			wantLater(t, b, a, b)
		}
		wantCompare(t, a, a, 0)
		wantLater(t, a, a, a)
	}
}

// P6.2: errors

func TestNextTellsALastThatIsNotRight(t *testing.T) {
	for _, last := range wrong() {
		for _, wall := range within(api.MaxPhys) {
			wantNextError(t, last, wall, 0, api.ErrArg)
			wantNextError(t, last, wall, api.MaxPeers-1, api.ErrArg)
		}
	}
}

func TestNextTellsAWallThatMayNotBe(t *testing.T) {
	for _, last := range right() {
		for _, wall := range beyond(api.MaxPhys) {
			wantNextError(t, last, wall, 0, api.ErrArg)
		}
	}
}

func TestNextTellsAPeerThatMayNotBe(t *testing.T) {
	for _, last := range right() {
		for _, peer := range beyond(api.MaxPeers - 1) {
			wantNextError(t, last, 0, peer, api.ErrArg)
			wantNextError(t, last, api.MaxPhys, peer, api.ErrArg)
		}
	}
}

func TestNextTellsArgumentsAheadOfTheClock(t *testing.T) {
	last := stamp(5, api.MaxLogic, 1)
	wantNextError(t, last, 5, 0, api.ErrClock)
	wantNextError(t, last, -1, 0, api.ErrArg)
	wantNextError(t, last, 5, -1, api.ErrArg)
	wantNextError(t, last, 5, api.MaxPeers, api.ErrArg)
	wantNextError(t, stamp(5, api.MaxLogic, api.MaxPeers), 5, 0, api.ErrArg)
	wantNextError(t, stamp(5, api.MaxLogic+1, 1), 5, 0, api.ErrArg)
	wantNextError(t, stamp(5, api.MaxLogic+1, 1), 6, 0, api.ErrArg)
}

// P6.2: times

func TestNextByTheWall(t *testing.T) {
	last := stamp(5, 3, 1)
	wantNext(t, last, 0, 0, stamp(5, 4, 0), api.OK)
	wantNext(t, last, 4, 2, stamp(5, 4, 2), api.OK)
	wantNext(t, last, 5, 0, stamp(5, 4, 0), api.OK)
	wantNext(t, last, 5, 4, stamp(5, 4, 4), api.OK)
	wantNext(t, last, 6, 0, stamp(6, 0, 0), api.OK)
	wantNext(t, last, 6, 1, stamp(6, 0, 1), api.OK)
	wantNext(t, last, api.MaxPhys, 4, stamp(api.MaxPhys, 0, 4), api.OK)
}

func TestNextAtTheFirstAndTheLastTime(t *testing.T) {
	wantNext(t, stamp(0, 0, 0), 0, 0, stamp(0, 1, 0), api.OK)
	wantNext(t, stamp(0, 0, 0), 1, 0, stamp(1, 0, 0), api.OK)
	wantNext(t, stamp(api.MaxPhys, 0, 0), api.MaxPhys, 4, stamp(api.MaxPhys, 1, 4), api.OK)
	wantNext(t, stamp(api.MaxPhys-1, 7, 0), api.MaxPhys, 4, stamp(api.MaxPhys, 0, 4), api.OK)
	wantNextError(t, stamp(api.MaxPhys, api.MaxLogic, 4), api.MaxPhys, 4, api.ErrClock)
}

func TestNextAtTheGreatestLogic(t *testing.T) {
	for _, phys := range []int{1, 5, api.MaxPhys - 1} {
		below, top := stamp(phys, api.MaxLogic-1, 4), stamp(phys, api.MaxLogic, 0)
		for _, wall := range []int{0, phys - 1, phys} {
			wantNext(t, below, wall, 2, stamp(phys, api.MaxLogic, 2), api.OK)
			wantNextError(t, top, wall, 4, api.ErrClock)
		}
		for _, wall := range []int{phys + 1, api.MaxPhys} {
			wantNext(t, below, wall, 2, stamp(wall, 0, 2), api.OK)
			wantNext(t, top, wall, 2, stamp(wall, 0, 2), api.OK)
		}
	}
}

// next is what the chapter says, at length.
func next(last api.Stamp, wall, peer int) (api.Stamp, api.Errno) {
	if wall > last.Phys {
		return stamp(wall, 0, peer), api.OK
	}
	if last.Logic+1 > api.MaxLogic {
		return api.Stamp{}, api.ErrClock
	}
	return stamp(last.Phys, last.Logic+1, peer), api.OK
}

func TestNextOfRightStamps(t *testing.T) {
	for _, last := range right() {
		for _, wall := range within(api.MaxPhys) {
			for peer := range api.MaxPeers {
				want, e := next(last, wall, peer)
				wantNext(t, last, wall, peer, want, e)
			}
		}
	}
}

// P6.3

// wantBehind holds an answer of Next to be right, later than last, at wall or ahead of it, and the peer's own.
func wantBehind(t *testing.T, last api.Stamp, wall, peer int) {
	t.Helper()
	got, e := hlc.Next(last, wall, peer)
	if e == api.ErrClock {
		return
	}
	if e != api.OK || hlc.Check(got) != api.OK || got.Peer != peer {
		t.Errorf("Next(%v, %d, %d): %v, %d", last, wall, peer, got, e)
	}
	if !after(last, got) || hlc.Compare(last, got) != -1 || hlc.Later(last, got) != got {
		t.Errorf("Next(%v, %d, %d): %v is not later", last, wall, peer, got)
	}
	if got.Phys < wall {
		t.Errorf("Next(%v, %d, %d): %v is behind the wall", last, wall, peer, got)
	}
}

func TestNextIsLaterThanLast(t *testing.T) {
	for _, last := range right() {
		for _, wall := range append(within(api.MaxPhys), max(last.Phys-1, 0), last.Phys, min(last.Phys+1, api.MaxPhys)) {
			for peer := range api.MaxPeers {
				wantBehind(t, last, wall, peer)
			}
		}
	}
}

// A clock that stands still is told by Logic alone, up to its end; one that goes on begins again.
func TestNextOfTheOneBefore(t *testing.T) {
	s := stamp(5, 0, 4)
	for n := 1; n <= api.MaxLogic; n++ {
		got, e := hlc.Next(s, 5, n%api.MaxPeers)
		if got != stamp(5, n, n%api.MaxPeers) || e != api.OK {
			t.Fatalf("Next(%v): %v, %d", s, got, e)
		}
		s = got
	}
	wantNextError(t, s, 5, 0, api.ErrClock)
	wantNextError(t, s, 0, 0, api.ErrClock)
	wantNext(t, s, 6, 0, stamp(6, 0, 0), api.OK)
}

// R3

func TestAnswersHangOnArgumentsAlone(t *testing.T) {
	last := stamp(5, 3, 1)
	for range 3 {
		wantNext(t, last, 9, 0, stamp(9, 0, 0), api.OK)
		wantNext(t, last, 5, 0, stamp(5, 4, 0), api.OK)
		wantNextError(t, last, -1, 0, api.ErrArg)
		wantNextError(t, stamp(9, api.MaxLogic, 0), 9, 0, api.ErrClock)
		wantCompare(t, last, stamp(5, 4, 0), -1)
		wantLater(t, last, stamp(5, 4, 0), stamp(5, 4, 0))
	}
}
