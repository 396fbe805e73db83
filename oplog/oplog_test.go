package oplog_test

import (
	"bytes"
	"slices"
	"strconv"
	"strings"
	"testing"

	"raddle/api"
	"raddle/oplog"
	"raddle/pad"
)

// opOf and snapOf tell what a letter stands for: a small one for an Op, a capital one for a Snap.
func opOf(letter byte) api.Op {
	x := []api.Op{insert(), update(), remove()}[int(letter)%3]
	x.Key = string(letter)
	return x
}

func snapOf(letter byte) api.Snap {
	s := filled()
	s.Tables[0][0].Key = string(letter)
	return s
}

func isSnap(letter byte) bool { return letter >= 'A' && letter <= 'Z' }

func isOp(letter byte) bool { return letter >= 'a' && letter <= 'z' }

// junk has what is no record; a digit stands for each.
func junk() [][]byte {
	x, s := opBytes(opOf('a')), asBytes(snapOf('A'))
	return [][]byte{
		{},
		append([]byte{0}, x...),
		append([]byte{3}, x...),
		append([]byte{255}, s...),
		{1},
		{2},
		slices.Concat([]byte{1}, x, []byte{0}),
		slices.Concat([]byte{2}, s, []byte{0}),
		append([]byte{1}, s...),
		append([]byte{2}, x...),
	}
}

// slotOf is what the slot of a letter has.
func slotOf(letter byte) []byte {
	switch {
	case isSnap(letter):
		return append([]byte{api.RecSnap}, asBytes(snapOf(letter))...)
	case isOp(letter):
		return append([]byte{api.RecOp}, opBytes(opOf(letter))...)
	case letter >= '0' && letter <= '9':
		return junk()[letter-'0']
	}
	return []byte{99}
}

// show tells the slots, one letter each: ~ is a spoilt one, ? an unknown one, | stands behind the safe ones.
func show(p *pad.Pad) string {
	s := ""
	for i := range p.Len() {
		if i == p.Safe() {
			s += "|"
		}
		s += string(letterOf(p.Read(i)))
	}
	if p.Safe() == p.Len() {
		s += "|"
	}
	return s
}

func letterOf(b []byte, e api.Errno) byte {
	if e == api.ErrTorn {
		return '~'
	}
	for _, letter := range []byte("abcdefghijklmnopqrstuvwxyzABCDEFGH0123456789") {
		if e == api.OK && bytes.Equal(b, slotOf(letter)) {
			return letter
		}
	}
	return '?'
}

// padOf has these slots, those ahead of the | safe; spoilt ones stand there alone.
func padOf(t *testing.T, slots string) *pad.Pad {
	t.Helper()
	p := pad.New()
	safe, rest, _ := strings.Cut(slots, "|")
	var keep []bool
	for i := range len(safe) {
		wantE(t, "Append", p.Append(slotOf(safe[i])), api.OK)
		keep = append(keep, safe[i] != '~')
	}
	p.Crash(keep, -1)
	p.Start()
	for i := range len(rest) {
		wantE(t, "Append", p.Append(slotOf(rest[i])), api.OK)
	}
	wantSlots(t, p, slots)
	return p
}

func logOf(t *testing.T, p *pad.Pad) *oplog.Log {
	t.Helper()
	l, _, _, e := oplog.Open(p)
	if e != api.OK || l == nil {
		t.Fatalf("Open: got %d", e)
	}
	return l
}

func wantE(t *testing.T, what string, got, want api.Errno) {
	t.Helper()
	if got != want {
		t.Errorf("%s: got %d, want %d", what, got, want)
	}
}

// wantSlots asks for slots of a pad that is on.
func wantSlots(t *testing.T, p *pad.Pad, slots string) {
	t.Helper()
	if p.Off() || show(p) != slots {
		t.Errorf("got off %v, %s; want on, %s", p.Off(), show(p), slots)
	}
}

// told tells a Snap and the Ops behind it by their letters; ? is one that is not as it was.
func told(s api.Snap, ops []api.Op) string {
	out := ""
	if !isZero(s) {
		out += snapLetter(s)
	}
	for _, x := range ops {
		if len(x.Key) != 1 || !isOp(x.Key[0]) || !sameOp(x, opOf(x.Key[0])) {
			return out + "?"
		}
		out += x.Key
	}
	return out
}

func snapLetter(s api.Snap) string {
	if len(s.Tables) == 0 || len(s.Tables[0]) == 0 {
		return "?"
	}
	key := s.Tables[0][0].Key
	if len(key) != 1 || !isSnap(key[0]) || !same(s, snapOf(key[0])) {
		return "?"
	}
	return key
}

// wantOpen asks for what is told, and for the slots behind it.
func wantOpen(t *testing.T, p *pad.Pad, want, slots string) *oplog.Log {
	t.Helper()
	l, s, ops, e := oplog.Open(p)
	if e != api.OK || l == nil || told(s, ops) != want {
		t.Errorf("got %s, %d; want %s", told(s, ops), e, want)
	}
	wantSlots(t, p, slots)
	return l
}

func wantUnopened(t *testing.T, p *pad.Pad, want api.Errno) {
	t.Helper()
	l, s, ops, e := oplog.Open(p)
	if e != want || l != nil || !isZero(s) || len(ops) != 0 {
		t.Errorf("got %d, nil %v, %s; want %d, nil, and nothing", e, l == nil, told(s, ops), want)
	}
}

// P10.2

func TestOpenOfNoPad(t *testing.T) {
	wantUnopened(t, nil, api.ErrArg)
}

func TestOpenOfAPadThatIsOff(t *testing.T) {
	for _, slots := range []string{"|", "abc|", "Aab|", "aA~b|", "ab0|"} {
		p := padOf(t, slots)
		p.Crash(nil, -1)
		wantUnopened(t, p, api.ErrOff)
		if !p.Off() || p.Len() != len(slots)-1 || p.Life() != 2 {
			t.Errorf("%s: off %v, %d slots, life %d", slots, p.Off(), p.Len(), p.Life())
		}
		p.Start()
		wantSlots(t, p, slots)
	}
}

func TestOpenOfRecords(t *testing.T) {
	for _, c := range []struct{ slots, told string }{
		{"|", ""},
		{"a|", "a"},
		{"abc|", "abc"},
		{"cba|", "cba"},
		{"aab|", "aab"},
		{"|abc", "abc"},
		{"ab|cd", "abcd"},
		{"A|", "A"},
		{"|A", "A"},
		{"Aabc|", "Aabc"},
		{"Aa|bc", "Aabc"},
		{"abA|", "A"},
		{"ab|A", "A"},
		{"abAcd|", "Acd"},
		{"AB|", "B"},
		{"BA|", "A"},
		{"ABCabc|", "Cabc"},
		{"abAcdBef|", "Bef"},
		{"abAc|dBef", "Bef"},
		{"aAbBcCd|", "Cd"},
	} {
		wantOpen(t, padOf(t, c.slots), c.told, strings.ReplaceAll(c.slots, "|", "")+"|")
	}
}

func TestOpenOfSpoiltSlots(t *testing.T) {
	for _, c := range []struct{ slots, told, left string }{
		{"~|", "", "|"},
		{"~~~|", "", "|"},
		{"~abA|", "", "|"},
		{"a~|", "a", "a|"},
		{"ab~c|", "ab", "ab|"},
		{"ab~~c|d", "ab", "ab|"},
		{"ab~A|", "ab", "ab|"},
		{"A~|", "A", "A|"},
		{"A~B|", "A", "A|"},
		{"abA~B|c", "A", "abA|"},
		{"AaBb~Cc|", "Bb", "AaBb|"},
		{"ab~|cd", "ab", "ab|"},
		{"a~b~c|", "a", "a|"},
	} {
		wantOpen(t, padOf(t, c.slots), c.told, c.left)
	}
}

func TestOpenOfWhatIsNoRecord(t *testing.T) {
	for k := range junk() {
		for _, c := range []struct{ slots, told, left string }{
			{"0|", "", "|"},
			{"|0", "", "|"},
			{"0ab|", "", "|"},
			{"0A|", "", "|"},
			{"ab0|", "ab", "ab|"},
			{"ab|0", "ab", "ab|"},
			{"a|b0", "ab", "ab|"},
			{"ab0cd|", "ab", "ab|"},
			{"ab0A|", "ab", "ab|"},
			{"Aa0|b", "Aa", "Aa|"},
			{"AaBb0Cc|", "Bb", "AaBb|"},
			{"AaB|b0Cc", "Bb", "AaBb|"},
			{"A0B|", "A", "A|"},
			{"a0~b|", "a", "a|"},
			{"a~0b|", "a", "a|"},
			{"a00|0b", "a", "a|"},
		} {
			slots := strings.ReplaceAll(c.slots, "0", strconv.Itoa(k))
			wantOpen(t, padOf(t, slots), c.told, c.left)
		}
	}
}

// A record that is cut short at whatever place is none.
func TestOpenOfRecordsThatAreCutShort(t *testing.T) {
	for _, letter := range []byte("aA") {
		b := slotOf(letter)
		for cut := range b {
			p := padOf(t, "b|")
			wantE(t, "Append", p.Append(b[:cut]), api.OK)
			wantOpen(t, p, "b", "b|")
		}
	}
}

func TestOpenOfEveryFirstByte(t *testing.T) {
	for kind := range 256 {
		for _, letter := range []byte("aA") {
			p := padOf(t, "b|")
			wantE(t, "Append", p.Append(append([]byte{byte(kind)}, slotOf(letter)[1:]...)), api.OK)
			_, s, ops, e := oplog.Open(p)
			want := "b"
			if kind == api.RecOp && isOp(letter) {
				want = "ba"
			}
			if kind == api.RecSnap && isSnap(letter) {
				want = "A"
			}
			if told(s, ops) != want || e != api.OK {
				t.Errorf("%d ahead of %c: got %s, %d; want %s", kind, letter, told(s, ops), e, want)
			}
		}
	}
}

// What is no right Op, but can be written, is a record.
func TestOpenTakesOpsThatAreNotRight(t *testing.T) {
	p := pad.New()
	l := logOf(t, p)
	all := []api.Op{{}, {Kind: 255, Key: strings.Repeat("k", api.MaxText)}, odd().Ops[1]}
	for _, x := range all {
		wantE(t, "Append", l.Append(x), api.OK)
	}
	_, s, ops, e := oplog.Open(p)
	if e != api.OK || !isZero(s) || !sameOps(ops, all) {
		t.Errorf("got %v, %d", ops, e)
	}
}

func TestOpenOfAFullPad(t *testing.T) {
	p := pad.New()
	for range api.MaxSlots {
		wantE(t, "Append", p.Append(slotOf('a')), api.OK)
	}
	_, _, ops, e := oplog.Open(p)
	if len(ops) != api.MaxSlots || e != api.OK || p.Safe() != api.MaxSlots {
		t.Errorf("got %d Ops, %d, %d safe", len(ops), e, p.Safe())
	}
}

func TestOpenAgainTellsTheSame(t *testing.T) {
	p := padOf(t, "aBbc~d|e")
	for range 3 {
		wantOpen(t, p, "Bbc", "aBbc|")
	}
}

// wantTripped asks whether a call was crashed, and starts the pad, to look at its slots.
func wantTripped(t *testing.T, what string, p *pad.Pad, e api.Errno, slots string) {
	t.Helper()
	if e != api.ErrOff || !p.Off() || p.Safe() != p.Len() {
		t.Errorf("%s: got %d, off %v, %d of %d safe", what, e, p.Off(), p.Safe(), p.Len())
	}
	p.Start()
	wantSlots(t, p, slots)
}

// Where all slots are records Open writes once; where one is not, twice, the cut ahead of the sync.
func TestOpenCrashesAtEachOfItsWrites(t *testing.T) {
	yes := []bool{true, true, true, true}
	for _, c := range []struct {
		slots string
		n     int
		keep  []bool
		left  string
	}{
		{"|", 1, yes, "|"},
		{"ab|", 1, yes, "ab|"},
		{"ab|cd", 1, yes, "abcd|"},
		{"ab|cd", 1, nil, "ab~~|"},
		{"ab|cd", 1, []bool{false, true}, "ab~d|"},
		{"ab0|cd", 1, yes, "ab0cd|"},
		{"ab0|cd", 1, nil, "ab0~~|"},
		{"ab0|cd", 2, nil, "ab|"},
		{"ab~|cd", 1, yes, "ab~cd|"},
		{"ab~|cd", 2, yes, "ab|"},
		{"a|b0d", 2, nil, "a~|"},
		{"a|b0d", 2, yes, "ab|"},
	} {
		p := padOf(t, c.slots)
		p.Trip(c.n, c.keep, -1)
		l, s, ops, e := oplog.Open(p)
		if l != nil || !isZero(s) || len(ops) != 0 {
			t.Errorf("%s, %d: got %s beside %d", c.slots, c.n, told(s, ops), e)
		}
		wantTripped(t, c.slots, p, e, c.left)
	}
}

func TestOpenWritesNoMoreThanThat(t *testing.T) {
	for slots, writes := range map[string]int{"|": 1, "ab|": 1, "aA|b": 1, "0|": 2, "ab~|cd": 2, "ab|0": 2} {
		p := padOf(t, slots)
		p.Trip(writes+1, nil, -1)
		l := logOf(t, p)
		if p.Off() {
			t.Errorf("%s: it writes more than %d times", slots, writes)
		}
		wantE(t, slots, l.Sync(), api.ErrOff)
	}
}

// P10.3

func TestAppendPutsARecordBehindTheOthers(t *testing.T) {
	p := pad.New()
	l := wantOpen(t, p, "", "|")
	for i, want := range []string{"|a", "|ab", "|abc"} {
		wantE(t, "Append", l.Append(opOf("abc"[i])), api.OK)
		wantSlots(t, p, want)
	}
	p = padOf(t, "Aa|")
	l = logOf(t, p)
	wantE(t, "Append", l.Append(opOf('b')), api.OK)
	wantSlots(t, p, "Aa|b")
}

// unwritable has Ops of each thing that op.Bytes tells.
func unwritable() []api.Op {
	var all []api.Op
	for _, bad := range []func(x *api.Op){
		func(x *api.Op) { x.Kind = -1 },
		func(x *api.Op) { x.Dot.N = 1 << 32 },
		func(x *api.Op) { x.Deps = make([]int, api.MaxPeers+1) },
		func(x *api.Op) { x.Stamp.Phys = 1 << 48 },
		func(x *api.Op) { x.Table = 256 },
		func(x *api.Op) { x.Key = strings.Repeat("k", api.MaxText+1) },
		func(x *api.Op) { x.Col = least },
		func(x *api.Op) { x.Vals = []api.Value{{}} },
		func(x *api.Op) { x.Dots = make([]api.Dot, api.MaxDots+1) },
	} {
		x := opOf('a')
		bad(&x)
		all = append(all, x)
	}
	return all
}

func TestAppendTellsWhatCannotBeWritten(t *testing.T) {
	for _, slots := range []string{"|", "ab|", "Aab|"} {
		p := padOf(t, slots)
		l := logOf(t, p)
		wantE(t, "Append", l.Append(opOf('c')), api.OK)
		for _, x := range unwritable() {
			wantE(t, "Append", l.Append(x), api.ErrArg)
		}
		wantSlots(t, p, slots+"c")
	}
}

// unwritableSnaps has Snaps that SnapBytes tells an error of, and that error.
func unwritableSnaps() map[api.Errno]api.Snap {
	bad := filled()
	bad.Ops[1].Kind = -1
	return map[api.Errno]api.Snap{api.ErrArg: bad, api.ErrLen: ofSize(maxSnap + 1)}
}

func TestSnapTellsWhatCannotBeWritten(t *testing.T) {
	for want, s := range unwritableSnaps() {
		p := padOf(t, "Aab|")
		l := logOf(t, p)
		wantE(t, "Append", l.Append(opOf('c')), api.OK)
		wantE(t, "Snap", l.Snap(s), want)
		wantSlots(t, p, "Aab|c")
	}
}

// What cannot be written is told ahead of a pad that is off.
func TestNothingIsWrittenWhileThePadIsOff(t *testing.T) {
	p := padOf(t, "Aab|")
	l := logOf(t, p)
	p.Crash(nil, -1)
	for range 2 {
		wantE(t, "Append", l.Append(opOf('c')), api.ErrOff)
		wantE(t, "Sync", l.Sync(), api.ErrOff)
		wantE(t, "Snap", l.Snap(snapOf('B')), api.ErrOff)
		for _, x := range unwritable() {
			wantE(t, "Append", l.Append(x), api.ErrArg)
		}
		for want, s := range unwritableSnaps() {
			wantE(t, "Snap", l.Snap(s), want)
		}
	}
	if !p.Off() || p.Life() != 2 {
		t.Errorf("off %v, life %d", p.Off(), p.Life())
	}
	p.Start()
	wantSlots(t, p, "Aab|")
	wantE(t, "Append", l.Append(opOf('c')), api.OK)
	wantSlots(t, p, "Aab|c")
}

func TestNothingIsWrittenWhereThePadIsFull(t *testing.T) {
	p := pad.New()
	l := logOf(t, p)
	for range api.MaxSlots - 1 {
		wantE(t, "Append", l.Append(opOf('a')), api.OK)
	}
	wantE(t, "Sync", l.Sync(), api.OK)
	wantE(t, "the last one", l.Append(opOf('b')), api.OK)
	wantE(t, "Append", l.Append(opOf('c')), api.ErrFull)
	wantE(t, "Snap", l.Snap(snapOf('A')), api.ErrFull)
	for _, x := range unwritable() {
		wantE(t, "Append", l.Append(x), api.ErrArg)
	}
	for want, s := range unwritableSnaps() {
		wantE(t, "Snap", l.Snap(s), want)
	}
	if b, e := p.Read(api.MaxSlots - 1); p.Len() != api.MaxSlots || p.Safe() != api.MaxSlots-1 || letterOf(b, e) != 'b' {
		t.Errorf("%d slots, %d safe, the last one %c", p.Len(), p.Safe(), letterOf(b, e))
	}
}

// Where one slot is left a Snap makes room for all.
func TestSnapTakesTheLastSlot(t *testing.T) {
	p := pad.New()
	l := logOf(t, p)
	for range api.MaxSlots - 1 {
		wantE(t, "Append", l.Append(opOf('a')), api.OK)
	}
	wantE(t, "Snap", l.Snap(snapOf('A')), api.OK)
	wantSlots(t, p, "A|")
}

func TestSyncMakesAllSafe(t *testing.T) {
	p := pad.New()
	l := logOf(t, p)
	wantE(t, "Sync of nothing", l.Sync(), api.OK)
	wantSlots(t, p, "|")
	for range 2 {
		wantE(t, "Append", l.Append(opOf('a')), api.OK)
	}
	wantE(t, "Sync", l.Sync(), api.OK)
	wantSlots(t, p, "aa|")
	wantE(t, "Sync again", l.Sync(), api.OK)
	wantSlots(t, p, "aa|")
}

func TestSnapStandsAlone(t *testing.T) {
	for _, slots := range []string{"|", "|a", "a|", "abc|", "ab|cd", "A|", "Aa|b", "aAbBc|d"} {
		safe, rest, _ := strings.Cut(slots, "|")
		p := padOf(t, safe+"|")
		l := logOf(t, p)
		for i := range len(rest) {
			wantE(t, "Append", l.Append(opOf(rest[i])), api.OK)
		}
		wantE(t, "Snap", l.Snap(snapOf('C')), api.OK)
		wantSlots(t, p, "C|")
		wantE(t, "Append", l.Append(opOf('x')), api.OK)
		wantSlots(t, p, "C|x")
		wantOpen(t, p, "Cx", "Cx|")
	}
}

func TestSnapOfTheZeroSnap(t *testing.T) {
	p := padOf(t, "Aab|")
	wantE(t, "Snap", logOf(t, p).Snap(api.Snap{}), api.OK)
	if b, e := p.Read(0); p.Len() != 1 || !bytes.Equal(b, append([]byte{2}, make([]byte, noughtSnap)...)) {
		t.Errorf("%d slots; got %v, %d", p.Len(), b, e)
	}
	_, s, ops, e := oplog.Open(p)
	if !isZero(s) || len(ops) != 0 || e != api.OK {
		t.Errorf("got %s, %d", told(s, ops), e)
	}
}

// The greatest Snap and its kind fill a slot to the last byte.
func TestSnapOfTheGreatest(t *testing.T) {
	p := pad.New()
	wantE(t, "Snap", logOf(t, p).Snap(ofSize(maxSnap)), api.OK)
	if b, _ := p.Read(0); len(b) != api.MaxBytes {
		t.Errorf("got %d bytes", len(b))
	}
	_, s, _, e := oplog.Open(p)
	if e != api.OK || !same(s, ofSize(maxSnap)) {
		t.Errorf("got %d, or another Snap", e)
	}
}

func TestEachCallCrashesAtEachOfItsWrites(t *testing.T) {
	yes := []bool{true, true, true, true}
	appends := func(l *oplog.Log) api.Errno { return l.Append(opOf('x')) }
	syncs := func(l *oplog.Log) api.Errno { return l.Sync() }
	snaps := func(l *oplog.Log) api.Errno { return l.Snap(snapOf('B')) }
	for _, c := range []struct {
		name string
		do   func(l *oplog.Log) api.Errno
		n    int
		keep []bool
		torn int
		left string
	}{
		{"Append", appends, 1, yes, -1, "Aabcx|"},
		{"Append", appends, 1, nil, -1, "Aa~~~|"},
		{"Append", appends, 1, yes, 2, "Aabc~|"},
		{"Append", appends, 1, yes, 0, "Aa~cx|"},
		{"Append", appends, 1, []bool{true, false, true}, -1, "Aab~x|"},
		{"Sync", syncs, 1, yes, -1, "Aabc|"},
		{"Sync", syncs, 1, nil, -1, "Aa~~|"},
		{"Sync", syncs, 1, yes, 1, "Aab~|"},
		{"Snap's Append", snaps, 1, yes, -1, "AabcB|"},
		{"Snap's Append", snaps, 1, nil, -1, "Aa~~~|"},
		{"Snap's Append", snaps, 1, yes, 2, "Aabc~|"},
		{"Snap's Append", snaps, 1, yes, 1, "Aab~B|"},
		{"Snap's Sync", snaps, 2, yes, -1, "AabcB|"},
		{"Snap's Sync", snaps, 2, nil, -1, "Aa~~~|"},
		{"Snap's Sync", snaps, 2, []bool{true, true}, -1, "Aabc~|"},
		{"Snap's Trim", snaps, 3, yes, -1, "AabcB|"},
		{"Snap's Trim", snaps, 3, nil, -1, "AabcB|"},
		{"Snap's Trim", snaps, 3, nil, 0, "AabcB|"},
	} {
		p := padOf(t, "Aa|")
		l := logOf(t, p)
		wantE(t, "Append", l.Append(opOf('b')), api.OK)
		wantE(t, "Append", l.Append(opOf('c')), api.OK)
		p.Trip(c.n, c.keep, c.torn)
		wantTripped(t, c.name, p, c.do(l), c.left)
	}
}

// Each call writes so often, whatever slots there are: Snap trims, though there be nothing to trim.
func TestHowOftenEachCallWrites(t *testing.T) {
	for _, slots := range []string{"|", "a|", "Aab|"} {
		for _, c := range []struct {
			name   string
			do     func(l *oplog.Log) api.Errno
			writes int
		}{
			{"Append", func(l *oplog.Log) api.Errno { return l.Append(opOf('x')) }, 1},
			{"Sync", func(l *oplog.Log) api.Errno { return l.Sync() }, 1},
			{"Snap", func(l *oplog.Log) api.Errno { return l.Snap(snapOf('B')) }, 3},
			{"a bad Append", func(l *oplog.Log) api.Errno { l.Append(unwritable()[0]); return api.OK }, 0},
			{"a bad Snap", func(l *oplog.Log) api.Errno { l.Snap(unwritableSnaps()[api.ErrLen]); return api.OK }, 0},
		} {
			for n := 1; n <= c.writes; n++ {
				p := padOf(t, slots)
				l := logOf(t, p)
				p.Trip(n, nil, -1)
				wantE(t, c.name, c.do(l), api.ErrOff)
			}
			p := padOf(t, slots)
			l := logOf(t, p)
			p.Trip(c.writes+1, nil, -1)
			wantE(t, c.name, c.do(l), api.OK)
			wantE(t, "behind "+c.name, l.Sync(), api.ErrOff)
		}
	}
}

// A Log that nobody opened has no pad.
func TestALogThatNobodyOpenedIsOff(t *testing.T) {
	var l oplog.Log
	wantE(t, "Append", l.Append(opOf('a')), api.ErrOff)
	wantE(t, "Append", l.Append(unwritable()[0]), api.ErrArg)
	wantE(t, "Sync", l.Sync(), api.ErrOff)
	wantE(t, "Snap", l.Snap(snapOf('A')), api.ErrOff)
	for want, s := range unwritableSnaps() {
		wantE(t, "Snap", l.Snap(s), want)
	}
}

// P10.4

func TestTheChaptersExample(t *testing.T) {
	p := pad.New()
	l := logOf(t, p)
	wantE(t, "Append", l.Append(opOf('a')), api.OK)
	wantE(t, "Sync", l.Sync(), api.OK)
	wantE(t, "Append", l.Append(opOf('b')), api.OK)
	p.Crash(nil, -1)
	p.Start()
	wantOpen(t, p, "a", "a|")
}

// story is what may be told behind a crash: the last Snap that was safe, the operations behind it, the first so many of them safe,
// and a Snap that was under way.
type story struct {
	snap   string
	ops    string
	safe   int
	coming string
}

// tell makes a call, by its letter (. is a Sync), and keeps in mind what of it may be told later.
func (s *story) tell(l *oplog.Log, letter byte) api.Errno {
	switch {
	case letter == '.':
		e := l.Sync()
		if e == api.OK {
			s.safe = len(s.ops)
		}
		return e
	case isSnap(letter):
		e := l.Snap(snapOf(letter))
		if e == api.OK {
			*s = story{snap: string(letter)}
		} else {
			s.coming = string(letter)
		}
		return e
	}
	s.ops += string(letter)
	return l.Append(opOf(letter))
}

func (s *story) allows(told string) bool {
	if s.coming != "" && told == s.coming {
		return true
	}
	ops, ok := strings.CutPrefix(told, s.snap)
	return ok && len(ops) >= s.safe && strings.HasPrefix(s.ops, ops)
}

// keeps has all ways to keep three slots, and to keep all.
func keeps() [][]bool {
	all := [][]bool{slices.Repeat([]bool{true}, 20)}
	for m := range 8 {
		all = append(all, []bool{m&1 > 0, m&2 > 0, m&4 > 0})
	}
	return all
}

// wantAllowed starts the pad, and opens it: in peace, and with a crash at each write of Open ahead of that.
func wantAllowed(t *testing.T, p *pad.Pad, s *story) {
	t.Helper()
	p.Crash(nil, -1)
	p.Start()
	p.Trip(1, nil, 0)
	wantUnopened(t, p, api.ErrOff)
	p.Start()
	p.Trip(2, nil, 0)
	oplog.Open(p)
	p.Start()
	p.Trip(0, nil, 0)
	_, snap, ops, e := oplog.Open(p)
	if got := told(snap, ops); e != api.OK || !s.allows(got) {
		t.Errorf("got %s, %d; behind %s are %s, %d of them safe, and %s is under way", got, e, s.snap, s.ops, s.safe, s.coming)
	}
}

func TestWhatIsToldBehindACrashAtEachWrite(t *testing.T) {
	script := "ab.cdAef.gBCh.iDjk"
	for n := 1; n < 40; n++ {
		for _, keep := range keeps() {
			for torn := -1; torn < 4; torn++ {
				p := pad.New()
				l := logOf(t, p)
				p.Trip(n, keep, torn)
				var s story
				for i := 0; i < len(script) && !p.Off(); i++ {
					s.tell(l, script[i])
				}
				wantAllowed(t, p, &s)
			}
		}
	}
}

// Between two calls nothing is under way.
func TestWhatIsToldBehindACrashBetweenCalls(t *testing.T) {
	script := "ab.cdAef.gBCh.iDjk"
	for n := range len(script) + 1 {
		for _, keep := range keeps() {
			p := pad.New()
			l := logOf(t, p)
			var s story
			for i := range n {
				wantE(t, "a call", s.tell(l, script[i]), api.OK)
			}
			p.Crash(keep, -1)
			wantAllowed(t, p, &s)
		}
	}
}

// A Snap is safe once its Sync is done: a crash at its Trim tells it.
func TestASnapThatIsSafeIsTold(t *testing.T) {
	for _, keep := range keeps() {
		p := padOf(t, "Aa|")
		l := logOf(t, p)
		wantE(t, "Append", l.Append(opOf('b')), api.OK)
		p.Trip(3, keep, 0)
		wantE(t, "Snap", l.Snap(snapOf('B')), api.ErrOff)
		p.Start()
		wantOpen(t, p, "B", "AabB|")
	}
}

// What comes behind a crash is told behind what was told then, and nothing of what was cut comes again.
func TestWorkGoesOnBehindACrash(t *testing.T) {
	p := pad.New()
	l := logOf(t, p)
	for _, c := range []struct {
		calls, told, left string
	}{
		{"ab.cd", "abc", "abc|"},
		{"e", "abce", "abce|"},
		{"Afg", "Af", "Af|"},
		{"h.i", "Afhi", "Afhi|"},
		{"", "Afhi", "Afhi|"},
		{"Bjk", "Bj", "Bj|"},
	} {
		var s story
		for i := range len(c.calls) {
			wantE(t, "a call", s.tell(l, c.calls[i]), api.OK)
		}
		p.Crash([]bool{true, false, true}, -1)
		p.Start()
		l = wantOpen(t, p, c.told, c.left)
	}
}

// twin is a log as plainly as can be: letters, of which the first so many are safe.
type twin struct {
	slots string
	safe  int
}

func (w *twin) crash(keep []bool) {
	out := w.slots[:w.safe]
	for k := range len(w.slots) - w.safe {
		if k < len(keep) && keep[k] {
			out += w.slots[w.safe+k : w.safe+k+1]
		} else {
			out += "~"
		}
	}
	w.slots, w.safe = out, len(out)
}

// open answers what is told: the last capital letter, and what is behind it.
func (w *twin) open() string {
	if bad := strings.IndexAny(w.slots, "~0123456789"); bad >= 0 {
		w.slots = w.slots[:bad]
	}
	w.safe = len(w.slots)
	return w.slots[max(0, strings.LastIndexFunc(w.slots, func(r rune) bool { return isSnap(byte(r)) })):]
}

func (w *twin) show() string { return w.slots[:w.safe] + "|" + w.slots[w.safe:] }

// step makes some call of the log, and does the same to the twin.
func step(t *testing.T, p *pad.Pad, l **oplog.Log, w *twin, x *uint32) {
	t.Helper()
	switch kind := next(x, 20); {
	case kind < 9:
		letter := byte('a' + next(x, 26))
		wantE(t, "Append", (*l).Append(opOf(letter)), api.OK)
		w.slots += string(letter)
	case kind < 12:
		wantE(t, "Sync", (*l).Sync(), api.OK)
		w.safe = len(w.slots)
	case kind < 14:
		letter := byte('A' + next(x, 8))
		wantE(t, "Snap", (*l).Snap(snapOf(letter)), api.OK)
		w.slots, w.safe = string(letter), 1
	case kind < 15:
		wantE(t, "Append", (*l).Append(unwritable()[next(x, 9)]), api.ErrArg)
	case kind < 16:
		digit := byte('0' + next(x, 10))
		wantE(t, "junk", p.Append(slotOf(digit)), api.OK)
		w.slots += string(digit)
		fallthrough
	default:
		if kind > 16 {
			keep := []bool{next(x, 4) > 0, next(x, 4) > 0, next(x, 4) > 0, true}
			p.Crash(keep, -1)
			w.crash(keep)
			p.Start()
		}
		*l = wantOpen(t, p, w.open(), w.show())
	}
}

func TestManyScripts(t *testing.T) {
	x := uint32(3)
	for range 60 {
		p := pad.New()
		l := logOf(t, p)
		var w twin
		for range 60 {
			step(t, p, &l, &w, &x)
			wantSlots(t, p, w.show())
			if t.Failed() {
				t.FailNow()
			}
		}
	}
}

// Rules

// roomy answers a list with the elements of this one and room behind them, and all of that room.
func roomy[T any](list []T, x T) (part, room []T) {
	room = append(slices.Clone(list), slices.Repeat([]T{x}, 3)...)
	return room[:len(list)], room
}

// looseSnap is filled with room behind each list; check tells whether it, and all that room, is as it was.
func looseSnap() (s api.Snap, check func() bool) {
	s = filled()
	var haveRoom, safeRoom []int
	var tablesRoom [][]api.Row
	var rowsRoom []api.Row
	var dotsRoom []api.Dot
	var cellsRoom []api.Cell
	var vectorsRoom [][]int
	var opsRoom []api.Op
	s.Have, haveRoom = roomy(s.Have, 77)
	s.Safe[0], safeRoom = roomy(s.Safe[0], 77)
	s.Safe, vectorsRoom = roomy(s.Safe, []int{77})
	s.Tables[0][0].Dots, dotsRoom = roomy(s.Tables[0][0].Dots, api.Dot{Peer: 77})
	s.Tables[0][0].Cells, cellsRoom = roomy(s.Tables[0][0].Cells, api.Cell{Dot: api.Dot{Peer: 77}})
	s.Tables[0], rowsRoom = roomy(s.Tables[0], api.Row{Key: "77"})
	s.Tables, tablesRoom = roomy(s.Tables, []api.Row{{Key: "77"}})
	s.Ops, opsRoom = roomy(s.Ops, api.Op{Kind: 77})
	return s, func() bool {
		ok := same(s, filled())
		for i := range 3 {
			ok = ok && haveRoom[3+i] == 77 && safeRoom[3+i] == 77 && len(vectorsRoom[3+i]) == 1 && vectorsRoom[3+i][0] == 77
			ok = ok && dotsRoom[2+i].Peer == 77 && cellsRoom[2+i].Dot.Peer == 77 && rowsRoom[2+i].Key == "77"
			ok = ok && len(tablesRoom[3+i]) == 1 && tablesRoom[3+i][0].Key == "77" && opsRoom[3+i].Kind == 77
		}
		return ok
	}
}

func TestWhatIsHandedInStaysAsItWas(t *testing.T) {
	s, ok := looseSnap()
	oplog.SnapBytes(s)
	if !ok() {
		t.Error("SnapBytes wrote over what it was handed")
	}
	p := pad.New()
	wantE(t, "Snap", logOf(t, p).Snap(s), api.OK)
	if !ok() {
		t.Error("Snap wrote over what it was handed")
	}
	_, got, _, _ := oplog.Open(p)
	if !same(got, filled()) {
		t.Error("another Snap is told: what lies behind a list was read")
	}
	b, room := roomy(asBytes(filled()), 9)
	kept := slices.Clone(room)
	oplog.ReadSnap(b)
	if !bytes.Equal(room, kept) {
		t.Error("ReadSnap wrote over what it was handed")
	}
}

func TestAnAppendedOpStaysAsItWas(t *testing.T) {
	for _, letter := range []byte("abc") {
		x := opOf(letter)
		var deps []int
		var vals []api.Value
		var dots []api.Dot
		x.Deps, deps = roomy(x.Deps, 77)
		x.Vals, vals = roomy(x.Vals, num(77))
		x.Dots, dots = roomy(x.Dots, api.Dot{Peer: 77})
		p := pad.New()
		wantE(t, "Append", logOf(t, p).Append(x), api.OK)
		if !sameOp(x, opOf(letter)) || deps[len(deps)-3] != 77 || vals[len(vals)-3] != num(77) || dots[len(dots)-3].Peer != 77 {
			t.Errorf("%c is written over", letter)
		}
		wantSlots(t, p, "|"+string(letter))
	}
}

// fill writes x all over a list, and over its spare room.
func fill[T any](list []T, x T) {
	list = list[:cap(list)]
	for i := range list {
		list[i] = x
	}
}

// spoilOp writes over all lists of x.
func spoilOp(x api.Op) {
	fill(x.Deps, 99)
	fill(x.Vals, text("spoilt"))
	fill(x.Dots, api.Dot{Peer: 99})
}

// spoilOps writes over all lists of l, and over l.
func spoilOps(l []api.Op) {
	for _, x := range l {
		spoilOp(x)
	}
	fill(l, api.Op{Kind: 99})
}

// spoil writes over all lists of s.
func spoil(s api.Snap) {
	fill(s.Have, 99)
	for _, rows := range s.Tables {
		for _, r := range rows {
			fill(r.Dots, api.Dot{Peer: 99})
			fill(r.Cells, api.Cell{Val: text("spoilt")})
		}
		fill(rows, api.Row{Key: "spoilt"})
	}
	fill(s.Tables, nil)
	for _, v := range s.Safe {
		fill(v, 99)
	}
	fill(s.Safe, nil)
	spoilOps(s.Ops)
}

func TestALogKeepsNothingOfWhatItWasHanded(t *testing.T) {
	p := pad.New()
	l := logOf(t, p)
	s := snapOf('A')
	wantE(t, "Snap", l.Snap(s), api.OK)
	spoil(s)
	for _, letter := range []byte("abc") {
		x := opOf(letter)
		wantE(t, "Append", l.Append(x), api.OK)
		spoilOp(x)
	}
	wantSlots(t, p, "A|abc")
	wantOpen(t, p, "Aabc", "Aabc|")
}

func TestWhatIsToldIsNewMemory(t *testing.T) {
	p := padOf(t, "Aabc|")
	_, first, firstOps, _ := oplog.Open(p)
	l, second, secondOps, _ := oplog.Open(p)
	spoil(first)
	spoilOps(firstOps)
	if told(second, secondOps) != "Aabc" {
		t.Errorf("got %s", told(second, secondOps))
	}
	spoil(second)
	spoilOps(secondOps)
	wantSlots(t, p, "Aabc|")
	wantE(t, "Append", l.Append(opOf('d')), api.OK)
	wantOpen(t, p, "Aabcd", "Aabcd|")
}

func TestBytesAreNewMemory(t *testing.T) {
	s := filled()
	b, _ := oplog.SnapBytes(s)
	other, _ := oplog.SnapBytes(s)
	fill(b, 99)
	if !same(s, filled()) || !bytes.Equal(other, asBytes(filled())) {
		t.Error("bytes are shared")
	}
	spoil(s)
	if !bytes.Equal(other, asBytes(filled())) {
		t.Error("bytes hang on what was handed in")
	}
}

func TestWhatIsReadIsNewMemory(t *testing.T) {
	b := asBytes(filled())
	s, _ := oplog.ReadSnap(b)
	other, _ := oplog.ReadSnap(b)
	spoil(other)
	if !bytes.Equal(b, asBytes(filled())) || !same(s, filled()) {
		t.Error("what is read is shared")
	}
	fill(b, 99)
	if !same(s, filled()) {
		t.Error("what is read hangs on the bytes")
	}
}

// wantApart writes something of its own over each list, and its room, and asks whether it stands there still.
func wantApart[T any](t *testing.T, what string, lists [][]T, mark func(k int) T, same func(a, b T) bool) {
	t.Helper()
	for k, l := range lists {
		fill(l, mark(k))
	}
	for k, l := range lists {
		for _, x := range l[:cap(l)] {
			if !same(x, mark(k)) {
				t.Errorf("%s: list %d shares memory with another one", what, k)
				return
			}
		}
	}
}

func TestNoTwoListsOfAnAnswerShareMemory(t *testing.T) {
	_, s, ops, _ := oplog.Open(padOf(t, "Aabcabc|"))
	numbers, dots, vals := append([][]int{s.Have}, s.Safe...), [][]api.Dot{}, [][]api.Value{}
	var cells [][]api.Cell
	for _, x := range slices.Concat(s.Ops, ops) {
		numbers, dots, vals = append(numbers, x.Deps), append(dots, x.Dots), append(vals, x.Vals)
	}
	for _, rows := range s.Tables {
		for _, r := range rows {
			dots, cells = append(dots, r.Dots), append(cells, r.Cells)
		}
	}
	sameInt := func(a, b int) bool { return a == b }
	wantApart(t, "numbers", numbers, func(k int) int { return k }, sameInt)
	wantApart(t, "dots", dots, func(k int) api.Dot { return api.Dot{N: k} }, func(a, b api.Dot) bool { return a == b })
	wantApart(t, "vals", vals, num, func(a, b api.Value) bool { return a == b })
	wantApart(t, "cells", cells, func(k int) api.Cell { return api.Cell{Val: num(k)} }, func(a, b api.Cell) bool { return a == b })
	wantApart(t, "rows", s.Tables, func(k int) api.Row { return api.Row{Key: strconv.Itoa(k)} }, sameRow)
	wantApart(t, "Ops", [][]api.Op{s.Ops, ops}, func(k int) api.Op { return api.Op{Kind: k} }, sameOp)
}

// What a list of an answer has room for beyond its length is noughts: nothing is handed out behind it.
func TestNothingStandsBehindAnAnswer(t *testing.T) {
	_, s, ops, _ := oplog.Open(padOf(t, "abcdefgAab|"))
	for _, x := range slices.Concat(ops[len(ops):cap(ops)], s.Ops[len(s.Ops):cap(s.Ops)]) {
		if !sameOp(x, api.Op{}) {
			t.Errorf("%v stands behind what is told", x)
		}
	}
	for _, rows := range s.Tables {
		for _, r := range rows[len(rows):cap(rows)] {
			if !sameRow(r, api.Row{}) {
				t.Errorf("%v stands behind what is told", r)
			}
		}
	}
}

func TestEmptyListsAreNone(t *testing.T) {
	s := api.Snap{Have: []int{}, Tables: [][]api.Row{{}, {{Dots: []api.Dot{}, Cells: []api.Cell{}}}}, Safe: [][]int{{}}, Ops: []api.Op{{Deps: []int{}, Vals: []api.Value{}, Dots: []api.Dot{}}}}
	wantBytes(t, "empty lists", s, asBytes(api.Snap{Tables: [][]api.Row{nil, {{}}}, Safe: [][]int{nil}, Ops: []api.Op{{}}}))
}

func TestLogsHaveNothingInCommonButTheirPad(t *testing.T) {
	p, other := pad.New(), pad.New()
	one, two, apart := logOf(t, p), logOf(t, p), logOf(t, other)
	wantE(t, "one", one.Append(opOf('a')), api.OK)
	wantE(t, "two", two.Append(opOf('b')), api.OK)
	wantE(t, "apart", apart.Append(opOf('c')), api.OK)
	wantE(t, "one", one.Sync(), api.OK)
	wantSlots(t, p, "ab|")
	wantSlots(t, other, "|c")
	wantE(t, "two", two.Snap(snapOf('A')), api.OK)
	wantE(t, "one", one.Append(opOf('d')), api.OK)
	wantE(t, "one", one.Snap(snapOf('B')), api.OK)
	wantSlots(t, p, "B|")
	wantSlots(t, other, "|c")
	p.Crash(nil, -1)
	wantE(t, "apart", apart.Sync(), api.OK)
	wantSlots(t, other, "c|")
}

func TestAnswersHangOnArgumentsAlone(t *testing.T) {
	for _, s := range writable() {
		first, e := oplog.SnapBytes(s)
		for want, bad := range unwritableSnaps() {
			wantRefused(t, "between", bad, want)
		}
		wantUnread(t, "between", []byte{9, 9, 9})
		second, again := oplog.SnapBytes(s)
		if e != again || !bytes.Equal(first, second) {
			t.Error("the same Snap has other bytes")
		}
	}
}
