package tape_test

import (
	"bytes"
	"math"
	"slices"
	"strings"
	"testing"

	"raddle/api"
	"raddle/tape"
	"raddle/value"
	"raddle/wire"
)

// step is something that is written, what it is as bytes, and how it is read again.
type step struct {
	write func(w *tape.Writer)
	b     []byte
	read  func(r *tape.Reader) bool
}

// steps has each thing that can be written.
func steps() []step {
	dots := []api.Dot{{Peer: 1, N: 2}, {Peer: 3, N: 0x04050607}}
	at := api.Stamp{Phys: 0x010203040506, Logic: 0x070809, Peer: 10}
	v := api.Value{Kind: api.Text, S: "v"}
	return []step{
		{func(w *tape.Writer) { w.Number(0x010203, 3) }, []byte{1, 2, 3}, func(r *tape.Reader) bool { return r.Number(3) == 0x010203 }},
		{func(w *tape.Writer) { w.Byte(255) }, []byte{255}, func(r *tape.Reader) bool { return r.Byte() == 255 }},
		{func(w *tape.Writer) { w.Count(258, 2, 258) }, []byte{1, 2}, func(r *tape.Reader) bool { return r.Count(2, 258) == 258 }},
		{func(w *tape.Writer) { w.Text("ab") }, []byte{2, 'a', 'b'}, func(r *tape.Reader) bool { return r.Text() == "ab" }},
		{func(w *tape.Writer) { w.Dot(dots[1]) }, []byte{3, 4, 5, 6, 7}, func(r *tape.Reader) bool { return r.Dot() == dots[1] }},
		{func(w *tape.Writer) { w.Dots(nil, 0) }, []byte{0}, func(r *tape.Reader) bool { return len(r.Dots(0)) == 0 }},
		{func(w *tape.Writer) { w.Dots(dots, 2) }, []byte{2, 1, 0, 0, 0, 2, 3, 4, 5, 6, 7}, func(r *tape.Reader) bool { return slices.Equal(r.Dots(2), dots) }},
		{func(w *tape.Writer) { w.Vector(nil) }, []byte{0}, func(r *tape.Reader) bool { return len(r.Vector()) == 0 }},
		{func(w *tape.Writer) { w.Vector([]int{1, 2, 3, 4, 0x05060708}) }, []byte{5, 0, 0, 0, 1, 0, 0, 0, 2, 0, 0, 0, 3, 0, 0, 0, 4, 5, 6, 7, 8}, func(r *tape.Reader) bool { return slices.Equal(r.Vector(), []int{1, 2, 3, 4, 0x05060708}) }},
		{func(w *tape.Writer) { w.Stamp(at) }, []byte{1, 2, 3, 4, 5, 6, 7, 8, 9, 10}, func(r *tape.Reader) bool { return r.Stamp() == at }},
		{func(w *tape.Writer) { w.Add(value.Bytes(v)) }, []byte{4, 1, 'v'}, func(r *tape.Reader) bool { return tape.Take(r, value.Read) == v }},
		{func(w *tape.Writer) { tape.AddAll(w, nil, 2, 0, value.Bytes) }, []byte{0, 0}, func(r *tape.Reader) bool { return len(tape.TakeAll(r, 2, 0, value.Read)) == 0 }},
		{func(w *tape.Writer) { tape.AddAll(w, []api.Value{v, {Kind: api.Null}}, 2, 2, value.Bytes) }, []byte{0, 2, 4, 1, 'v', 1}, func(r *tape.Reader) bool {
			return slices.Equal(tape.TakeAll(r, 2, 2, value.Read), []api.Value{v, {Kind: api.Null}})
		}},
	}
}

func wantWritten(t *testing.T, w *tape.Writer, want []byte, wantE api.Errno) {
	t.Helper()
	if b, e := w.Bytes(); !bytes.Equal(b, want) || e != wantE {
		t.Errorf("got %v, %d; want %v, %d", b, e, want, wantE)
	}
}

func wantEnd(t *testing.T, r *tape.Reader, want int, wantE api.Errno) {
	t.Helper()
	if next, e := r.End(); next != want || e != wantE {
		t.Errorf("got %d, %d; want %d, %d", next, e, want, wantE)
	}
}

func TestNothingIsWrittenAndRead(t *testing.T) {
	wantWritten(t, &tape.Writer{}, nil, api.OK)
	wantEnd(t, tape.NewReader(nil, 0), 0, api.OK)
}

func TestEachThingIsWrittenAndRead(t *testing.T) {
	for i, s := range steps() {
		var w tape.Writer
		s.write(&w)
		wantWritten(t, &w, s.b, api.OK)
		r := tape.NewReader(append([]byte{9}, s.b...), 1)
		if !s.read(r) {
			t.Errorf("%d is read as something else", i)
		}
		wantEnd(t, r, 1+len(s.b), api.OK)
	}
}

func TestOneBehindTheOther(t *testing.T) {
	var w tape.Writer
	var want []byte
	for _, s := range steps() {
		s.write(&w)
		want = append(want, s.b...)
	}
	wantWritten(t, &w, want, api.OK)
	r := tape.NewReader(want, 0)
	for i, s := range steps() {
		if !s.read(r) {
			t.Errorf("%d is read as something else", i)
		}
	}
	wantEnd(t, r, len(want), api.OK)
}

func TestWhatCannotBeWrittenIsKeptInMind(t *testing.T) {
	for i, bad := range []func(w *tape.Writer){
		func(w *tape.Writer) { w.Number(-1, 3) },
		func(w *tape.Writer) { w.Number(1<<24, 3) },
		func(w *tape.Writer) { w.Byte(256) },
		func(w *tape.Writer) { w.Count(3, 1, 2) },
		func(w *tape.Writer) { w.Count(256, 1, 1000) },
		func(w *tape.Writer) { w.Text(strings.Repeat("x", api.MaxText+1)) },
		func(w *tape.Writer) { w.Dot(api.Dot{Peer: 256}) },
		func(w *tape.Writer) { w.Dot(api.Dot{N: 1 << 32}) },
		func(w *tape.Writer) { w.Dots(make([]api.Dot, 3), 2) },
		func(w *tape.Writer) { w.Vector(make([]int, api.MaxPeers+1)) },
		func(w *tape.Writer) { w.Vector([]int{0, -1}) },
		func(w *tape.Writer) { w.Stamp(api.Stamp{Phys: 1 << 48}) },
		func(w *tape.Writer) { w.Stamp(api.Stamp{Logic: 1 << 24}) },
		func(w *tape.Writer) { w.Stamp(api.Stamp{Peer: -1}) },
		func(w *tape.Writer) { w.Add(value.Bytes(api.Value{})) },
		func(w *tape.Writer) { w.Add([]byte{1}, api.ErrLen) },
		func(w *tape.Writer) {
			tape.AddAll(w, slices.Repeat([]api.Value{{Kind: api.Null}}, 3), 1, 2, value.Bytes)
		},
		func(w *tape.Writer) {
			tape.AddAll(w, slices.Repeat([]api.Value{{Kind: api.Null}}, 256), 1, 1000, value.Bytes)
		},
		func(w *tape.Writer) { tape.AddAll(w, []api.Value{{}, {Kind: api.Null}}, 1, 2, value.Bytes) },
		func(w *tape.Writer) { tape.AddAll(w, []api.Value{{Kind: api.Null}, {}}, 1, 2, value.Bytes) },
	} {
		var w tape.Writer
		w.Byte(1)
		bad(&w)
		w.Byte(2)
		if b, e := w.Bytes(); b != nil || e != api.ErrArg {
			t.Errorf("%d: got %v, %d", i, b, e)
		}
	}
}

func TestWhatCannotBeReadIsKeptInMind(t *testing.T) {
	for _, s := range steps() {
		for cut := range s.b {
			r := tape.NewReader(s.b[:cut], 0)
			s.read(r)
			wantEnd(t, r, 0, api.ErrBytes)
			for _, later := range steps() {
				later.read(r)
			}
			wantEnd(t, r, 0, api.ErrBytes)
		}
	}
}

func TestReadBoundsTheCounts(t *testing.T) {
	for i, read := range []func(r *tape.Reader){
		func(r *tape.Reader) { r.Count(1, 5) },
		func(r *tape.Reader) { r.Dots(5) },
		func(r *tape.Reader) { r.Vector() },
		func(r *tape.Reader) { tape.TakeAll(r, 1, 5, wire.GetText) },
	} {
		for count := range 256 {
			r := tape.NewReader(append([]byte{byte(count)}, make([]byte, 2000)...), 0)
			read(r)
			if _, e := r.End(); (e == api.OK) != (count <= 5) || (e != api.OK && e != api.ErrBytes) {
				t.Errorf("%d, of %d: got %d", i, count, e)
			}
		}
	}
}

// Of what cannot be read whole nothing is answered, and what stands behind it is not asked for.
func TestTakeAllEndsAtTheFirstThatCannotBeRead(t *testing.T) {
	asked := 0
	read := func(b []byte, at int) (string, int, api.Errno) {
		asked++
		return wire.GetText(b, at)
	}
	r := tape.NewReader([]byte{255, 255, 1, 'a', 2, 'b'}, 0)
	if l := tape.TakeAll(r, 2, 1<<16-1, read); len(l) != 0 || asked != 2 {
		t.Errorf("got %v, asked %d times", l, asked)
	}
	wantEnd(t, r, 0, api.ErrBytes)
}

func TestAddAllEndsAtTheFirstThatCannotBeWritten(t *testing.T) {
	asked := 0
	write := func(x api.Value) ([]byte, api.Errno) {
		asked++
		return value.Bytes(x)
	}
	var w tape.Writer
	tape.AddAll(&w, []api.Value{{Kind: api.Null}, {}, {Kind: api.Null}}, 1, 3, write)
	tape.AddAll(&w, make([]api.Value, 4), 1, 3, write)
	if asked != 2 {
		t.Errorf("asked %d times", asked)
	}
	wantWritten(t, &w, nil, api.ErrArg)
}

func TestAPlaceThatIsNoneIsTold(t *testing.T) {
	for _, at := range []int{math.MinInt, -1, 4, math.MaxInt} {
		for _, s := range steps() {
			r := tape.NewReader([]byte{1, 2, 3}, at)
			s.read(r)
			wantEnd(t, r, 0, api.ErrArg)
		}
	}
}

func TestWhatIsHandedInStaysAsItWas(t *testing.T) {
	room := bytes.Repeat([]byte{7}, 40)
	var w tape.Writer
	w.Add(room[:3], api.OK)
	w.Byte(1)
	if b, _ := w.Bytes(); !bytes.Equal(b, []byte{7, 7, 7, 1}) || !bytes.Equal(room, bytes.Repeat([]byte{7}, 40)) {
		t.Errorf("got %v, and %v is left", b, room)
	}
}
