package pad_test

import (
	"bytes"
	"math"
	"slices"
	"strconv"
	"strings"
	"testing"

	"raddle/api"
	"raddle/pad"
)

// least and most are the ends of what an int may be.
const (
	least = math.MinInt
	most  = math.MaxInt
)

// show tells the slots of a Pad that is on, one letter each: ~ is a spoilt one, ? one that cannot be read, | stands behind the safe ones.
func show(p *pad.Pad) string {
	s := ""
	for i := range p.Len() {
		if i == p.Safe() {
			s += "|"
		}
		b, e := p.Read(i)
		switch {
		case e == api.OK && len(b) == 1:
			s += string(b)
		case e == api.ErrTorn && len(b) == 0:
			s += "~"
		default:
			s += "?"
		}
	}
	if p.Safe() == p.Len() {
		s += "|"
	}
	return s
}

// filled has the letters ahead of the | safe, and the others not.
func filled(t *testing.T, slots string) *pad.Pad {
	t.Helper()
	p := pad.New()
	safe, rest, _ := strings.Cut(slots, "|")
	add(t, p, safe)
	wantE(t, "Sync", p.Sync(), api.OK)
	add(t, p, rest)
	wantOn(t, p, slots, 0)
	return p
}

// add appends each letter.
func add(t *testing.T, p *pad.Pad, letters string) {
	t.Helper()
	for i := range len(letters) {
		wantE(t, "Append", p.Append([]byte(letters[i:i+1])), api.OK)
	}
}

func wantE(t *testing.T, what string, got, want api.Errno) {
	t.Helper()
	if got != want {
		t.Errorf("%s: got %d, want %d", what, got, want)
	}
}

func wantOn(t *testing.T, p *pad.Pad, slots string, life int) {
	t.Helper()
	if p.Off() || show(p) != slots || p.Life() != life {
		t.Errorf("got off %v, %s, life %d; want on, %s, life %d", p.Off(), show(p), p.Life(), slots, life)
	}
}

// wantOff asks whether it is off, and starts it, to look at its slots, all of which are safe then.
func wantOff(t *testing.T, p *pad.Pad, slots string, life int) {
	t.Helper()
	n := strings.Index(slots, "|")
	if !p.Off() || p.Len() != n || p.Safe() != n || p.Life() != life {
		t.Errorf("got off %v, %d slots, %d safe, life %d; want off, %s, life %d", p.Off(), p.Len(), p.Safe(), p.Life(), slots, life)
	}
	p.Start()
	wantOn(t, p, slots, life)
}

func wantRead(t *testing.T, p *pad.Pad, i int, want []byte, wantE api.Errno) {
	t.Helper()
	if b, e := p.Read(i); e != wantE || !bytes.Equal(b, want) {
		t.Errorf("Read(%d): got %d bytes, %d; want %d bytes, %d", i, len(b), e, len(want), wantE)
	}
}

// write is a call of those that a Trip counts.
type write struct {
	name string
	do   func(p *pad.Pad) api.Errno
}

func appendOf(b string) write {
	return write{"Append", func(p *pad.Pad) api.Errno { return p.Append([]byte(b)) }}
}

func trim(n int) write {
	return write{"Trim " + strconv.Itoa(n), func(p *pad.Pad) api.Errno { return p.Trim(n) }}
}

func cut(n int) write {
	return write{"Cut " + strconv.Itoa(n), func(p *pad.Pad) api.Errno { return p.Cut(n) }}
}

func syncAll() write {
	return write{"Sync", func(p *pad.Pad) api.Errno { return p.Sync() }}
}

// refused has calls that have an error, whatever slots there are below MaxSlots.
func refused() []struct {
	write
	e api.Errno
} {
	return []struct {
		write
		e api.Errno
	}{
		{appendOf(strings.Repeat("x", api.MaxBytes+1)), api.ErrLen},
		{trim(-1), api.ErrArg},
		{trim(least), api.ErrArg},
		{trim(api.MaxSlots), api.ErrArg},
		{trim(most), api.ErrArg},
		{cut(-1), api.ErrArg},
		{cut(least), api.ErrArg},
		{cut(api.MaxSlots), api.ErrArg},
		{cut(most), api.ErrArg},
	}
}

// wantAllRefused makes all of those calls.
func wantAllRefused(t *testing.T, p *pad.Pad) {
	t.Helper()
	for _, c := range refused() {
		wantE(t, c.name, c.do(p), c.e)
	}
}

// P9.1

func TestANewPadIsOnAndHasNoSlots(t *testing.T) {
	p := pad.New()
	if p.Len() != 0 || p.Safe() != 0 || p.Off() || p.Life() != 0 {
		t.Errorf("got %d slots, %d safe, off %v, life %d", p.Len(), p.Safe(), p.Off(), p.Life())
	}
	for _, i := range []int{least, -1, 0, 1, most} {
		wantRead(t, p, i, nil, api.ErrNone)
	}
}

func TestReadAtEachEnd(t *testing.T) {
	p := filled(t, "ab|cd")
	for i, want := range []string{"a", "b", "c", "d"} {
		wantRead(t, p, i, []byte(want), api.OK)
	}
	for _, i := range []int{least, -2, -1, 4, 5, most} {
		wantRead(t, p, i, nil, api.ErrNone)
	}
}

func TestReadOfASpoiltSlot(t *testing.T) {
	p := filled(t, "a|bcd")
	p.Crash([]bool{true, false, true}, -1)
	p.Start()
	wantRead(t, p, 0, []byte("a"), api.OK)
	wantRead(t, p, 1, []byte("b"), api.OK)
	wantRead(t, p, 2, nil, api.ErrTorn)
	wantRead(t, p, 3, []byte("d"), api.OK)
	wantRead(t, p, 4, nil, api.ErrNone)
}

func TestReadWhileItIsOff(t *testing.T) {
	p := filled(t, "a|bc")
	p.Crash([]bool{true}, -1)
	for _, i := range []int{least, -1, 0, 1, 2, 3, most} {
		wantRead(t, p, i, nil, api.ErrOff)
	}
	wantOff(t, p, "ab~|", 1)
}

// P9.2: all

func TestNothingIsWrittenWhileItIsOff(t *testing.T) {
	p := filled(t, "ab|c")
	p.Crash([]bool{true}, -1)
	for _, c := range []write{appendOf(""), appendOf("x"), syncAll(), trim(0), trim(1), trim(3), cut(0), cut(1), cut(3)} {
		wantE(t, c.name, c.do(p), api.ErrOff)
	}
	for _, c := range refused() {
		wantE(t, c.name, c.do(p), api.ErrOff)
	}
	wantOff(t, p, "abc|", 1)
}

func TestAppendToAFullPadThatIsOff(t *testing.T) {
	p := full(t)
	p.Crash(nil, -1)
	wantE(t, "Append", p.Append(nil), api.ErrOff)
	if p.Len() != api.MaxSlots {
		t.Errorf("got %d slots", p.Len())
	}
}

func TestWhatIsRefusedChangesNothing(t *testing.T) {
	p := filled(t, "ab|c")
	wantAllRefused(t, p)
	wantOn(t, p, "ab|c", 0)
}

// P9.2: Append

func TestAppendPutsASlotBehindTheOthersNotSafe(t *testing.T) {
	p := pad.New()
	for i, want := range []string{"|a", "|ab", "|abc"} {
		add(t, p, want[i+1:])
		wantOn(t, p, want, 0)
	}
	wantE(t, "Sync", p.Sync(), api.OK)
	add(t, p, "d")
	wantOn(t, p, "abc|d", 0)
}

func TestAppendTakesFromNoneToMaxBytes(t *testing.T) {
	p := pad.New()
	long := bytes.Repeat([]byte{0, 1, 255, 7}, api.MaxBytes/4+1)
	lengths := []int{0, 1, 2, api.MaxBytes - 1, api.MaxBytes}
	for _, n := range lengths {
		wantE(t, "Append", p.Append(long[:n]), api.OK)
	}
	wantE(t, "Append of nil", p.Append(nil), api.OK)
	for _, n := range []int{api.MaxBytes + 1, api.MaxBytes + 2} {
		wantE(t, "Append beyond", p.Append(long[:n]), api.ErrLen)
	}
	if p.Len() != len(lengths)+1 || p.Safe() != 0 {
		t.Errorf("got %d slots, %d safe", p.Len(), p.Safe())
	}
	for i, n := range lengths {
		wantRead(t, p, i, long[:n], api.OK)
	}
	wantRead(t, p, len(lengths), nil, api.OK)
}

// full has MaxSlots slots, all of them safe, each with its number's bytes.
func full(t *testing.T) *pad.Pad {
	t.Helper()
	p := pad.New()
	for i := range api.MaxSlots {
		wantE(t, "Append", p.Append(number(i)), api.OK)
	}
	wantE(t, "Sync", p.Sync(), api.OK)
	return p
}

func number(i int) []byte { return []byte{byte(i >> 8), byte(i)} }

// wantFull asks for the slots from that number on, and that there is room for none more.
func wantFull(t *testing.T, p *pad.Pad, from int) {
	t.Helper()
	wantE(t, "Append of none", p.Append(nil), api.ErrFull)
	wantE(t, "Append of MaxBytes", p.Append(make([]byte, api.MaxBytes)), api.ErrFull)
	wantE(t, "Append beyond both", p.Append(make([]byte, api.MaxBytes+1)), api.ErrLen)
	if p.Len() != api.MaxSlots {
		t.Errorf("got %d slots", p.Len())
	}
	for i := range p.Len() {
		wantRead(t, p, i, number(from+i), api.OK)
	}
}

func TestAppendFindsNoRoomBehindMaxSlots(t *testing.T) {
	p := full(t)
	wantFull(t, p, 0)
	if p.Safe() != api.MaxSlots {
		t.Errorf("got %d safe", p.Safe())
	}
	wantE(t, "Sync of a full one", p.Sync(), api.OK)
}

func TestAppendFindsRoomAgain(t *testing.T) {
	p := full(t)
	wantE(t, "Trim", p.Trim(2), api.OK)
	for i := range 2 {
		wantE(t, "Append behind Trim", p.Append(number(api.MaxSlots+i)), api.OK)
	}
	wantFull(t, p, 2)
	wantE(t, "Cut", p.Cut(api.MaxSlots-3), api.OK)
	for i := range 3 {
		wantE(t, "Append behind Cut", p.Append(number(api.MaxSlots-1+i)), api.OK)
	}
	wantFull(t, p, 2)
	wantE(t, "Trim of none", p.Trim(0), api.OK)
	wantE(t, "Cut of none", p.Cut(api.MaxSlots), api.OK)
	wantFull(t, p, 2)
}

// Spoilt slots take room like others.
func TestACrashMakesNoRoom(t *testing.T) {
	p := full(t)
	wantE(t, "Cut", p.Cut(api.MaxSlots-1), api.OK)
	wantE(t, "Append", p.Append(nil), api.OK)
	p.Crash(nil, -1)
	p.Start()
	wantE(t, "Append", p.Append(nil), api.ErrFull)
	wantE(t, "Cut", p.Cut(api.MaxSlots-1), api.OK)
	wantE(t, "Append", p.Append(nil), api.OK)
}

// P9.2: Sync

func TestSyncMakesAllSafe(t *testing.T) {
	p := pad.New()
	wantE(t, "Sync of none", p.Sync(), api.OK)
	wantOn(t, p, "|", 0)
	add(t, p, "ab")
	wantE(t, "Sync", p.Sync(), api.OK)
	wantOn(t, p, "ab|", 0)
	wantE(t, "Sync again", p.Sync(), api.OK)
	wantOn(t, p, "ab|", 0)
	add(t, p, "c")
	wantE(t, "Sync", p.Sync(), api.OK)
	wantOn(t, p, "abc|", 0)
}

// P9.2: Trim

func TestTrimAtEachEnd(t *testing.T) {
	for n, want := range []string{"abc|de", "bc|de", "c|de", "|de"} {
		p := filled(t, "abc|de")
		wantE(t, "Trim", p.Trim(n), api.OK)
		wantOn(t, p, want, 0)
	}
	p := filled(t, "abc|de")
	for _, n := range []int{least, -2, -1, 4, 5, 6, most} {
		wantE(t, "Trim "+strconv.Itoa(n), p.Trim(n), api.ErrArg)
		wantOn(t, p, "abc|de", 0)
	}
}

func TestTrimWhereNothingIsSafe(t *testing.T) {
	for _, slots := range []string{"|", "|ab"} {
		p := filled(t, slots)
		wantE(t, "Trim 1", p.Trim(1), api.ErrArg)
		wantE(t, "Trim 0", p.Trim(0), api.OK)
		wantOn(t, p, slots, 0)
	}
}

func TestTrimAgainAndAgain(t *testing.T) {
	p := filled(t, "abc|de")
	for _, c := range []struct {
		n    int
		e    api.Errno
		want string
	}{{1, api.OK, "bc|de"}, {3, api.ErrArg, "bc|de"}, {2, api.OK, "|de"}, {1, api.ErrArg, "|de"}, {0, api.OK, "|de"}} {
		wantE(t, "Trim", p.Trim(c.n), c.e)
		wantOn(t, p, c.want, 0)
	}
	add(t, p, "f")
	wantE(t, "Sync", p.Sync(), api.OK)
	wantOn(t, p, "def|", 0)
}

func TestTrimTakesSpoiltSlots(t *testing.T) {
	p := filled(t, "a|bcd")
	p.Crash([]bool{false, true, false}, -1)
	p.Start()
	wantE(t, "Trim", p.Trim(2), api.OK)
	wantOn(t, p, "c~|", 1)
	wantE(t, "Trim", p.Trim(2), api.OK)
	wantOn(t, p, "|", 1)
}

// P9.2: Cut

func TestCutAtEachEnd(t *testing.T) {
	for n, want := range []string{"|", "a|", "ab|", "abc|", "abc|d", "abc|de"} {
		p := filled(t, "abc|de")
		wantE(t, "Cut", p.Cut(n), api.OK)
		wantOn(t, p, want, 0)
	}
	p := filled(t, "abc|de")
	for _, n := range []int{least, -2, -1, 6, 7, most} {
		wantE(t, "Cut "+strconv.Itoa(n), p.Cut(n), api.ErrArg)
		wantOn(t, p, "abc|de", 0)
	}
}

func TestCutOfNone(t *testing.T) {
	p := pad.New()
	wantE(t, "Cut 0", p.Cut(0), api.OK)
	wantE(t, "Cut 1", p.Cut(1), api.ErrArg)
	wantOn(t, p, "|", 0)
}

func TestWhatIsAppendedBehindACutIsNotSafe(t *testing.T) {
	for n, want := range []string{"|xy", "a|xy", "ab|xy", "abc|xy", "abc|dxy", "abc|dexy"} {
		p := filled(t, "abc|de")
		wantE(t, "Cut", p.Cut(n), api.OK)
		add(t, p, "xy")
		wantOn(t, p, want, 0)
		safe, rest, _ := strings.Cut(want, "|")
		wantE(t, "Trim beyond", p.Trim(len(safe)+1), api.ErrArg)
		p.Crash(nil, -1)
		wantOff(t, p, safe+strings.Repeat("~", len(rest))+"|", 1)
	}
}

func TestCutTakesSpoiltSlots(t *testing.T) {
	p := filled(t, "a|bcd")
	p.Crash([]bool{true, false, true}, -1)
	p.Start()
	wantE(t, "Cut", p.Cut(2), api.OK)
	wantOn(t, p, "ab|", 1)
	add(t, p, "xy")
	wantOn(t, p, "ab|xy", 1)
}

// P9.3: Crash

func TestTheChaptersExample(t *testing.T) {
	p := pad.New()
	add(t, p, "ab")
	p.Crash([]bool{true}, -1)
	p.Start()
	wantRead(t, p, 0, []byte("a"), api.OK)
	wantRead(t, p, 1, nil, api.ErrTorn)
}

// crashes are told of the slots ab|cde.
func crashes() []struct {
	keep []bool
	torn int
	want string
} {
	return []struct {
		keep []bool
		torn int
		want string
	}{
		{nil, -1, "ab~~~|"},
		{[]bool{}, -1, "ab~~~|"},
		{nil, 0, "ab~~~|"},
		{nil, 1, "ab~~~|"},
		{[]bool{true}, -1, "abc~~|"},
		{[]bool{false}, -1, "ab~~~|"},
		{[]bool{true, true}, -1, "abcd~|"},
		{[]bool{false, true}, -1, "ab~d~|"},
		{[]bool{true, false}, -1, "abc~~|"},
		{[]bool{true, true}, 2, "abcd~|"},
		{[]bool{true, true, true}, -1, "abcde|"},
		{[]bool{true, false, true}, -1, "abc~e|"},
		{[]bool{false, false, false}, -1, "ab~~~|"},
		{[]bool{true, true, true}, least, "abcde|"},
		{[]bool{true, true, true}, -2, "abcde|"},
		{[]bool{true, true, true}, 0, "ab~de|"},
		{[]bool{true, true, true}, 1, "abc~e|"},
		{[]bool{true, true, true}, 2, "abcd~|"},
		{[]bool{true, true, true}, 3, "abcde|"},
		{[]bool{true, true, true}, most, "abcde|"},
		{[]bool{true, false, true}, 1, "abc~e|"},
		{[]bool{false, true, true}, 1, "ab~~e|"},
		{[]bool{true, true, true, true, true}, -1, "abcde|"},
		{[]bool{true, true, true, true, true}, 3, "abcde|"},
		{[]bool{true, true, true, true, true}, 2, "abcd~|"},
		{[]bool{true, true, true, false, false}, -1, "abcde|"},
		{[]bool{false, true, false, true, true}, 4, "ab~d~|"},
	}
}

func TestCrashSpoilsWhatIsNotKept(t *testing.T) {
	for _, c := range crashes() {
		p := filled(t, "ab|cde")
		p.Crash(c.keep, c.torn)
		wantOff(t, p, c.want, 1)
	}
}

func TestCrashSpoilsNothingThatIsSafe(t *testing.T) {
	for _, slots := range []string{"|", "abc|"} {
		for _, torn := range []int{-1, 0, 1, 2, 3} {
			p := filled(t, slots)
			p.Crash([]bool{false, false, false}, torn)
			wantOff(t, p, slots, 1)
		}
	}
}

func TestCrashWhileItIsOff(t *testing.T) {
	p := filled(t, "a|bc")
	p.Crash([]bool{true, true}, -1)
	p.Crash(nil, 0)
	p.Crash([]bool{false, false}, 1)
	wantOff(t, p, "abc|", 1)
}

func TestCrashTwiceWithAStartBetween(t *testing.T) {
	p := filled(t, "a|bc")
	p.Crash([]bool{true}, -1)
	p.Start()
	wantOn(t, p, "ab~|", 1)
	p.Crash(nil, 0)
	wantOff(t, p, "ab~|", 2)
	add(t, p, "de")
	wantOn(t, p, "ab~|de", 2)
	p.Crash([]bool{false, true}, -1)
	wantOff(t, p, "ab~~e|", 3)
}

// P9.3: Start

func TestStartWhileItIsOn(t *testing.T) {
	p := filled(t, "a|bc")
	p.Start()
	wantOn(t, p, "a|bc", 0)
	p.Crash(nil, -1)
	p.Start()
	p.Start()
	wantOn(t, p, "a~~|", 1)
}

func TestStartDisarmsNothing(t *testing.T) {
	p := filled(t, "a|b")
	p.Trip(1, []bool{true}, -1)
	p.Start()
	wantE(t, "Sync", p.Sync(), api.ErrOff)
	wantOff(t, p, "ab|", 1)
}

// P9.3: Trip

// tripped has each call that may be a crash, on the slots ab|cd, with what is kept of all that is not safe, and of its first.
func tripped() []struct {
	write
	all, one string
} {
	return []struct {
		write
		all, one string
	}{
		{appendOf("x"), "abcdx|", "abc~~|"},
		{syncAll(), "abcd|", "abc~|"},
		{trim(0), "abcd|", "abc~|"},
		{trim(1), "abcd|", "abc~|"},
		{trim(2), "abcd|", "abc~|"},
		{cut(0), "abcd|", "abc~|"},
		{cut(1), "abcd|", "abc~|"},
		{cut(3), "abcd|", "abc~|"},
		{cut(4), "abcd|", "abc~|"},
	}
}

func TestTripCrashesInPlaceOfTheFirst(t *testing.T) {
	for _, c := range tripped() {
		p := filled(t, "ab|cd")
		p.Trip(1, []bool{true, true, true, true}, -1)
		wantOn(t, p, "ab|cd", 0)
		wantE(t, c.name, c.do(p), api.ErrOff)
		wantOff(t, p, c.all, 1)

		p = filled(t, "ab|cd")
		p.Trip(1, []bool{true}, -1)
		wantE(t, c.name, c.do(p), api.ErrOff)
		wantOff(t, p, c.one, 1)
	}
}

// The slots that are not safe are counted as a Crash counts them, the appended one behind the others.
func TestTripKeepsWhatACrashKeeps(t *testing.T) {
	for _, c := range crashes() {
		p := filled(t, "ab|cd")
		p.Trip(1, c.keep, c.torn)
		wantE(t, "Append", p.Append([]byte("e")), api.ErrOff)
		wantOff(t, p, c.want, 1)

		p = filled(t, "ab|cde")
		p.Trip(1, c.keep, c.torn)
		wantE(t, "Sync", p.Sync(), api.ErrOff)
		wantOff(t, p, c.want, 1)
	}
}

func TestTripCrashesAtTheNth(t *testing.T) {
	calls := []write{appendOf("c"), syncAll(), appendOf("d"), cut(3), appendOf("e"), trim(1), appendOf("f")}
	for n, want := range []string{"abc|", "abc|", "abcd|", "abcd|", "abce|", "abce|", "bcef|"} {
		p := filled(t, "a|b")
		p.Trip(n+1, []bool{true, true, true, true}, -1)
		for i, c := range calls[:n+1] {
			wantAllRefused(t, p)
			p.Read(0)
			p.Read(-1)
			wanted := api.OK
			if i == n {
				wanted = api.ErrOff
			}
			wantE(t, c.name, c.do(p), wanted)
		}
		wantOff(t, p, want, 1)
	}
}

func TestTripDoesNotCountAFullPad(t *testing.T) {
	p := full(t)
	p.Trip(1, []bool{true}, -1)
	wantFull(t, p, 0)
	wantE(t, "Cut", p.Cut(0), api.ErrOff)
	if p.Len() != api.MaxSlots || p.Life() != 1 {
		t.Errorf("got %d slots, life %d", p.Len(), p.Life())
	}
}

// The crash is asked for all slots that there may be.
func TestTripKeepsUpToMaxSlots(t *testing.T) {
	p := pad.New()
	for i := range api.MaxSlots - 1 {
		wantE(t, "Append", p.Append(number(i)), api.OK)
	}
	p.Trip(1, slices.Repeat([]bool{true}, api.MaxSlots+5), api.MaxSlots-2)
	wantE(t, "Append", p.Append(number(api.MaxSlots-1)), api.ErrOff)
	p.Start()
	for i := range api.MaxSlots {
		if i == api.MaxSlots-2 {
			wantRead(t, p, i, nil, api.ErrTorn)
		} else {
			wantRead(t, p, i, number(i), api.OK)
		}
	}
	wantRead(t, p, api.MaxSlots, nil, api.ErrNone)
}

func TestTripBelowOneArmsNothing(t *testing.T) {
	for _, n := range []int{0, -1, -2, least} {
		p := filled(t, "a|b")
		p.Trip(n, []bool{true}, -1)
		for range 5 {
			wantE(t, "Sync", p.Sync(), api.OK)
		}
		wantOn(t, p, "ab|", 0)

		p.Trip(1, []bool{true}, -1)
		p.Trip(n, nil, 0)
		for range 5 {
			wantE(t, "Sync", p.Sync(), api.OK)
		}
		wantOn(t, p, "ab|", 0)
	}
}

func TestTripFarAheadDoesNothingYet(t *testing.T) {
	p := filled(t, "a|b")
	p.Trip(most, nil, -1)
	for range 1000 {
		wantE(t, "Sync", p.Sync(), api.OK)
	}
	wantOn(t, p, "ab|", 0)
}

func TestTripAnewTakesThePlaceOfTheOther(t *testing.T) {
	p := filled(t, "a|bc")
	p.Trip(1, nil, 0)
	p.Trip(2, []bool{true, true, true}, -1)
	wantE(t, "Trim", p.Trim(0), api.OK)
	p.Trip(2, []bool{false, true, true}, -1)
	wantE(t, "Append", p.Append([]byte("d")), api.OK)
	wantE(t, "Sync", p.Sync(), api.ErrOff)
	wantOff(t, p, "a~cd|", 1)
}

func TestTripWhileItIsOff(t *testing.T) {
	p := filled(t, "a|b")
	p.Crash([]bool{true}, -1)
	p.Trip(2, []bool{false, true}, -1)
	for range 3 {
		wantE(t, "Sync while off", p.Sync(), api.ErrOff)
		wantE(t, "Append while off", p.Append(nil), api.ErrOff)
		wantE(t, "Trim while off", p.Trim(0), api.ErrOff)
		wantE(t, "Cut while off", p.Cut(0), api.ErrOff)
	}
	p.Crash(nil, 0)
	wantOff(t, p, "ab|", 1)
	wantE(t, "Append", p.Append([]byte("c")), api.OK)
	wantE(t, "Append", p.Append([]byte("d")), api.ErrOff)
	wantOff(t, p, "ab~d|", 2)
}

func TestACrashDisarms(t *testing.T) {
	p := filled(t, "a|b")
	p.Trip(2, nil, -1)
	wantE(t, "Append", p.Append([]byte("c")), api.OK)
	p.Crash([]bool{true, true}, -1)
	wantOff(t, p, "abc|", 1)
	add(t, p, "defgh")
	wantE(t, "Sync", p.Sync(), api.OK)
	wantOn(t, p, "abcdefgh|", 1)
}

func TestATripHappensOnce(t *testing.T) {
	for _, c := range tripped() {
		p := filled(t, "ab|cd")
		p.Trip(1, []bool{true, true, true}, -1)
		wantE(t, c.name, c.do(p), api.ErrOff)
		wantE(t, c.name+" again", c.do(p), api.ErrOff)
		wantOff(t, p, c.all, 1)
		for range 5 {
			wantE(t, "Sync", p.Sync(), api.OK)
		}
		wantE(t, c.name+" at last", c.do(p), api.OK)
		if p.Off() || p.Life() != 1 {
			t.Errorf("%s: off %v, life %d", c.name, p.Off(), p.Life())
		}
	}
}

func TestTripBehindATrip(t *testing.T) {
	p := filled(t, "a|")
	for life := 1; life <= 20; life++ {
		p.Trip(2, nil, -1)
		wantE(t, "Append", p.Append([]byte("x")), api.OK)
		wantE(t, "Sync", p.Sync(), api.ErrOff)
		wantOff(t, p, "a~|", life)
		wantE(t, "Cut", p.Cut(1), api.OK)
	}
}

// P9.1: Life

func TestLifeTellsCrashesAlone(t *testing.T) {
	p := filled(t, "a|b")
	for life := range 50 {
		wantE(t, "Append", p.Append([]byte("c")), api.OK)
		wantE(t, "Sync", p.Sync(), api.OK)
		wantE(t, "Trim", p.Trim(1), api.OK)
		wantE(t, "Cut", p.Cut(1), api.OK)
		wantAllRefused(t, p)
		p.Start()
		p.Trip(3, nil, -1)
		p.Trip(0, nil, -1)
		if p.Life() != life {
			t.Errorf("got %d, want %d", p.Life(), life)
		}
		p.Crash(nil, -1)
		p.Crash(nil, -1)
		if p.Life() != life+1 {
			t.Errorf("off: got %d, want %d", p.Life(), life+1)
		}
		p.Start()
	}
}

// P9.4

func TestWhatIsSafeIsReadAgainBehindManyCrashes(t *testing.T) {
	p := pad.New()
	var want [][]byte
	for round := range 60 {
		b := bytes.Repeat([]byte{byte(round), 7}, round)
		want = append(want, b)
		wantE(t, "Append", p.Append(b), api.OK)
		wantE(t, "Sync", p.Sync(), api.OK)
		wantE(t, "Append", p.Append([]byte("lost")), api.OK)
		if round%2 == 0 {
			p.Crash(nil, round)
		} else {
			p.Trip(1, []bool{false}, -1)
			wantE(t, "Sync", p.Sync(), api.ErrOff)
		}
		p.Start()
		wantRead(t, p, len(want), nil, api.ErrTorn)
		wantE(t, "Cut", p.Cut(len(want)), api.OK)
		if round%5 == 4 {
			want = want[2:]
			wantE(t, "Trim", p.Trim(2), api.OK)
		}
		for i, b := range want {
			wantRead(t, p, i, b, api.OK)
		}
	}
}

// told is a slot as the chapter tells it, each with its own marks.
type told struct {
	text         string
	safe, spoilt bool
}

// twin is what the chapter says of a Pad, slot by slot.
type twin struct {
	slots    []told
	off      bool
	life     int
	trip     int
	keep     []bool
	torn     int
	appended int
}

func (w *twin) safe() int {
	n := 0
	for _, s := range w.slots {
		if s.safe {
			n++
		}
	}
	return n
}

func (w *twin) crash(keep []bool, torn int) {
	if w.off {
		return
	}
	k := 0
	for i := range w.slots {
		s := &w.slots[i]
		if s.safe {
			continue
		}
		s.spoilt = !(k < len(keep) && keep[k]) || k == torn
		s.safe = true
		k++
	}
	w.off, w.trip = true, 0
	w.life++
}

// write does what a call without an error does, or the crash that is in its place.
func (w *twin) write(ahead, done func()) api.Errno {
	ahead()
	if w.trip == 1 {
		w.crash(w.keep, w.torn)
		return api.ErrOff
	}
	w.trip = max(0, w.trip-1)
	done()
	return api.OK
}

// next is the next number of a row that is the same each time.
func next(x *uint32, bound int) int {
	*x = *x*1664525 + 1013904223
	return int(*x>>16) % bound
}

func someBools(x *uint32) []bool {
	l := make([]bool, next(x, 8))
	for i := range l {
		l[i] = next(x, 3) > 0
	}
	return l
}

// step does one thing with both, and tells both errors.
func step(p *pad.Pad, w *twin, x *uint32) (got, want api.Errno) {
	nothing := func() {}
	kind, n := next(x, 20), next(x, len(w.slots)+4)-1
	switch {
	case kind < 8:
		w.appended++
		text := strconv.Itoa(w.appended)
		got, want = p.Append([]byte(text)), api.ErrOff
		if !w.off {
			want = w.write(func() { w.slots = append(w.slots, told{text: text}) }, nothing)
		}
	case kind < 10:
		got, want = p.Sync(), api.ErrOff
		if !w.off {
			want = w.write(nothing, func() {
				for i := range w.slots {
					w.slots[i].safe = true
				}
			})
		}
	case kind < 12:
		got, want = p.Trim(n), api.ErrOff
		if !w.off && (n < 0 || n > w.safe()) {
			want = api.ErrArg
		} else if !w.off {
			want = w.write(nothing, func() { w.slots = slices.Clone(w.slots[n:]) })
		}
	case kind < 13:
		got, want = p.Cut(n), api.ErrOff
		if !w.off && (n < 0 || n > len(w.slots)) {
			want = api.ErrArg
		} else if !w.off {
			want = w.write(nothing, func() { w.slots = slices.Clone(w.slots[:n]) })
		}
	case kind < 14:
		keep, torn := someBools(x), next(x, 8)-2
		p.Crash(keep, torn)
		w.crash(keep, torn)
	case kind < 16:
		keep, torn, calls := someBools(x), next(x, 8)-2, next(x, 6)-1
		p.Trip(calls, keep, torn)
		w.trip, w.keep, w.torn = max(0, calls), keep, torn
	default:
		p.Start()
		w.off = false
	}
	return got, want
}

// wantTwin holds all that can be told of a Pad against its twin.
func wantTwin(t *testing.T, p *pad.Pad, w *twin) {
	t.Helper()
	if p.Len() != len(w.slots) || p.Safe() != w.safe() || p.Off() != w.off || p.Life() != w.life {
		t.Fatalf("got %d slots, %d safe, off %v, life %d; want %d, %d, %v, %d", p.Len(), p.Safe(), p.Off(), p.Life(), len(w.slots), w.safe(), w.off, w.life)
	}
	wantRead(t, p, -1, nil, map[bool]api.Errno{true: api.ErrOff, false: api.ErrNone}[w.off])
	wantRead(t, p, len(w.slots), nil, map[bool]api.Errno{true: api.ErrOff, false: api.ErrNone}[w.off])
	for i, s := range w.slots {
		switch {
		case w.off:
			wantRead(t, p, i, nil, api.ErrOff)
		case s.spoilt:
			wantRead(t, p, i, nil, api.ErrTorn)
		default:
			wantRead(t, p, i, []byte(s.text), api.OK)
		}
	}
}

func TestManyScripts(t *testing.T) {
	for seed := range 200 {
		x := uint32(seed)
		p, w := pad.New(), &twin{}
		for range 300 {
			got, want := step(p, w, &x)
			if got != want {
				t.Fatalf("script %d: got %d, want %d", seed, got, want)
			}
			wantTwin(t, p, w)
			if t.Failed() {
				t.Fatalf("script %d", seed)
			}
		}
	}
}

// R2, R3, R6

func TestWhatIsHandedInStays(t *testing.T) {
	room := bytes.Repeat([]byte("r"), 40)
	p := pad.New()
	for _, n := range []int{0, 1, 8} {
		wantE(t, "Append", p.Append(room[8:8+n]), api.OK)
	}
	p.Trip(1, nil, -1)
	wantE(t, "Append that trips", p.Append(room[8:16]), api.ErrOff)
	wantE(t, "Append while off", p.Append(room[8:16]), api.ErrOff)
	if !bytes.Equal(room, bytes.Repeat([]byte("r"), 40)) {
		t.Errorf("Append wrote into what was handed in: %s", room)
	}
	keep := slices.Repeat([]bool{true}, 9)
	p = filled(t, "a|bcd")
	p.Trip(1, keep[3:5], 0)
	wantE(t, "Append", p.Append(nil), api.ErrOff)
	p.Start()
	add(t, p, "xyz")
	p.Crash(keep[3:5], 0)
	if !slices.Equal(keep, slices.Repeat([]bool{true}, 9)) {
		t.Errorf("keep was written over: %v", keep)
	}
}

func TestWhatIsAppendedIsKeptInMemoryOfItsOwn(t *testing.T) {
	b := []byte("abc")
	p := pad.New()
	wantE(t, "Append", p.Append(b), api.OK)
	copy(b, "xyz")
	wantE(t, "Append", p.Append(b[:2]), api.OK)
	wantE(t, "Sync", p.Sync(), api.OK)
	p.Trip(1, []bool{true}, -1)
	wantE(t, "Append that trips", p.Append(b), api.ErrOff)
	copy(b, "123")
	p.Start()
	for i, want := range []string{"abc", "xy", "xyz"} {
		wantRead(t, p, i, []byte(want), api.OK)
	}
}

func TestTripKeepsKeepInMemoryOfItsOwn(t *testing.T) {
	keep := []bool{true, false, true}
	p := filled(t, "a|bcd")
	p.Trip(1, keep, -1)
	copy(keep, []bool{false, true, false})
	wantE(t, "Sync", p.Sync(), api.ErrOff)
	wantOff(t, p, "ab~d|", 1)
}

func TestCrashKeepsNothingOfKeep(t *testing.T) {
	keep := []bool{true, false}
	p := filled(t, "a|bc")
	p.Crash(keep, -1)
	copy(keep, []bool{false, true})
	wantOff(t, p, "ab~|", 1)
}

func TestKeepIsNotReadBehindItsLength(t *testing.T) {
	keep := []bool{true, true, true}
	p := filled(t, "|abc")
	p.Crash(keep[:1], -1)
	wantOff(t, p, "a~~|", 1)
	p = filled(t, "|abc")
	p.Trip(1, keep[:1], -1)
	wantE(t, "Sync", p.Sync(), api.ErrOff)
	wantOff(t, p, "a~~|", 1)
}

func TestWhatReadTellsIsNewMemory(t *testing.T) {
	p := filled(t, "ab|")
	long := bytes.Repeat([]byte("l"), 33)
	wantE(t, "Append", p.Append(long), api.OK)
	for i, want := range []string{"a", "b", string(long)} {
		first, _ := p.Read(i)
		second, _ := p.Read(i)
		first = first[:cap(first)]
		for k := range first {
			first[k] = '#'
		}
		if string(second) != want {
			t.Errorf("two answers share memory: %s", second)
		}
	}
	if string(long) != strings.Repeat("l", 33) {
		t.Error("an answer shares memory with what was handed in")
	}
	wantRead(t, p, 0, []byte("a"), api.OK)
	wantRead(t, p, 1, []byte("b"), api.OK)
	wantRead(t, p, 2, long, api.OK)
}

// What is answered stays, whatever is done with the slots behind it.
func TestAnswersStayAsTheyWere(t *testing.T) {
	p := filled(t, "ab|c")
	var all [3][]byte
	for i := range all {
		all[i], _ = p.Read(i)
	}
	wantE(t, "Trim", p.Trim(1), api.OK)
	wantE(t, "Cut", p.Cut(0), api.OK)
	add(t, p, "xyz")
	p.Crash(nil, -1)
	p.Start()
	add(t, p, "xyz")
	if string(all[0]) != "a" || string(all[1]) != "b" || string(all[2]) != "c" {
		t.Errorf("got %s", all)
	}
}

func TestWhatIsAnsweredHandsOutNothingBehindIt(t *testing.T) {
	p := pad.New()
	for n := range 70 {
		wantE(t, "Append", p.Append(bytes.Repeat([]byte("x"), 70)[:n]), api.OK)
		b, _ := p.Read(n)
		for _, c := range b[len(b):cap(b)] {
			if c != 0 {
				t.Errorf("of %d bytes it hands out what lay behind", n)
			}
		}
	}
}

func TestPadsHaveNothingInCommon(t *testing.T) {
	a, b := filled(t, "a|b"), filled(t, "c|d")
	a.Trip(2, nil, -1)
	for range 5 {
		wantE(t, "Sync of the other", b.Sync(), api.OK)
	}
	wantE(t, "Append", a.Append([]byte("x")), api.OK)
	wantE(t, "Append", a.Append([]byte("y")), api.ErrOff)
	wantOn(t, b, "cd|", 0)
	wantOff(t, a, "a~~~|", 1)
}

// What was cut or trimmed does not come again.
func TestWhatIsGoneIsNotReadAgain(t *testing.T) {
	p := filled(t, "abcd|")
	wantE(t, "Cut", p.Cut(1), api.OK)
	for i := 1; i < 6; i++ {
		wantRead(t, p, i, nil, api.ErrNone)
	}
	wantE(t, "Append", p.Append(nil), api.OK)
	wantRead(t, p, 1, nil, api.OK)
	wantE(t, "Trim", p.Trim(1), api.OK)
	wantRead(t, p, 0, nil, api.OK)
	wantRead(t, p, 1, nil, api.ErrNone)
}
