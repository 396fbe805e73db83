package rooms_test

import (
	"slices"
	"testing"

	"raddle/api"
	"raddle/rooms"
)

func num(n int) api.Value { return api.Value{Kind: api.Int, I: n} }

// apart has lists of each kind, none of which shares memory with another one.
func apart() []rooms.Room {
	return slices.Concat(
		rooms.Ints([]int{1, 2}), rooms.Ints(nil), rooms.Dots(make([]api.Dot, 2, 5)), rooms.Values([]api.Value{num(1), num(2)}),
		rooms.Rows([][]api.Value{{num(1)}, nil, {num(2), num(3)}}), rooms.Items([]api.Item{{Row: []api.Value{num(1)}}, {}, {W: 2}}),
	)
}

func TestNoneIsShared(t *testing.T) {
	if got := rooms.Sharing(apart()); len(got) != 0 {
		t.Errorf("got %v", got)
	}
}

// Memory is shared where two lists have one place alone, and be it behind the length of both.
func TestSharing(t *testing.T) {
	numbers, values, dots := make([]int, 9), make([]api.Value, 9), make([]api.Dot, 9)
	for i, all := range [][]rooms.Room{
		slices.Concat(rooms.Ints(numbers[:2]), rooms.Ints(numbers[8:])),
		slices.Concat(rooms.Ints(numbers[:0]), rooms.Ints(numbers[4:4])),
		slices.Concat(rooms.Dots(dots[:0:1]), rooms.Dots(dots[:9])),
		slices.Concat(rooms.Values(values[:5:5]), rooms.Values(values[4:5:5])),
		rooms.Rows([][]api.Value{values[:5], values[6:]}),
		rooms.Items([]api.Item{{Row: values[:1]}, {Row: values[1:]}}),
	} {
		was := len(all)
		got := rooms.Sharing(slices.Concat(apart(), all))
		if len(got) != 1 || got[0] < len(apart()) || got[0] >= len(apart())+was {
			t.Errorf("case %d: got %v of %d, behind %d", i, got, was, len(apart()))
		}
	}
}

func TestListsApartInOneMemory(t *testing.T) {
	numbers := make([]int, 9)
	if got := rooms.Sharing(slices.Concat(rooms.Ints(numbers[:3:3]), rooms.Ints(numbers[3:7:7]), rooms.Ints(numbers[7:]))); len(got) != 0 {
		t.Errorf("got %v", got)
	}
}

func TestKeep(t *testing.T) {
	numbers, dots, r := make([]int, 3, 9), make([]api.Dot, 2), []api.Value{num(1), num(2)}[:1]
	l, z := [][]api.Value{{num(1)}, {num(2), num(4)}}, []api.Item{{Row: []api.Value{num(1)}, W: 3}, {W: 4}}
	all := slices.Concat(rooms.Ints(numbers), rooms.Dots(dots), rooms.Values(r), rooms.Rows(l), rooms.Items(z))
	kept := rooms.Keep(all)
	if !kept() {
		t.Fatal("nothing has changed yet")
	}
	for i, change := range []func(n int){
		func(n int) { numbers[0] += n },
		func(n int) { numbers[:9][8] += n },
		func(n int) { dots[1].N += n },
		func(n int) { r[:2][1].I += n },
		func(n int) { l[1][1].I += n },
		func(n int) { l[0] = []api.Value{num(n)} },
		func(n int) { z[0].Row[0].Kind += n },
		func(n int) { z[1].W += n },
	} {
		kept := rooms.Keep(all)
		change(5)
		if kept() {
			t.Errorf("change %d was not seen", i)
		}
	}
}

func TestFault(t *testing.T) {
	shared, asked := []int{1, 2, 3, 4}, 0
	for want, ask := range map[string]func(in []int) ([]rooms.Room, string){
		"":                                 func(in []int) ([]rooms.Room, string) { return rooms.Ints(slices.Clone(in)), "same" },
		"it tells a, and then aa":          func([]int) ([]rooms.Room, string) { asked++; return nil, "aaa"[:asked] },
		"what is handed in has changed":    func(in []int) ([]rooms.Room, string) { in[:3][2]++; return nil, "" },
		"lists share memory: 0 1 of 1 1 1": func(in []int) ([]rooms.Room, string) { return rooms.Ints(in[:1]), "" },
		"lists share memory: 1 of 1 1 1":   func([]int) ([]rooms.Room, string) { return rooms.Ints(shared[:2]), "" },
		"lists share memory: 1 3 4 of 1 3 3": func([]int) ([]rooms.Room, string) {
			return slices.Concat(rooms.Ints(shared[:1]), rooms.Ints([]int{4}), rooms.Ints(shared[1:])), ""
		},
	} {
		in := make([]int, 2, 5)
		if got := rooms.Fault(rooms.Ints(in), func() ([]rooms.Room, string) { return ask(in) }); got != want {
			t.Errorf("got %q, want %q", got, want)
		}
	}
}

func TestSpare(t *testing.T) {
	in := []api.Item{{Row: []api.Value{num(1)}, W: 3}, {W: 4}}
	z := rooms.SpareItems(in)
	if len(z) != 2 || cap(z) < 5 || z[0].W != 3 || z[0].Row[0] != num(1) || len(z[1].Row) != 0 || cap(z[1].Row) < 3 || z[:5][4].W == 0 || z[1].Row[:3][0] == (api.Value{}) {
		t.Errorf("got %v", z[:cap(z)])
	}
	l := rooms.SpareRows([][]api.Value{nil, {num(6)}})
	if len(l) != 2 || cap(l) < 5 || len(l[0]) != 0 || len(l[1]) != 1 || l[1][0] != num(6) || cap(l[1]) < 4 {
		t.Errorf("got %v", l[:cap(l)])
	}
	numbers, dots := rooms.SpareInts([]int{8}), rooms.SpareDots(nil)
	if !slices.Equal(numbers, []int{8}) || numbers[:2][1] == 0 || len(dots) != 0 || dots[:1][0] == (api.Dot{}) {
		t.Errorf("got %v, %v", numbers[:cap(numbers)], dots[:cap(dots)])
	}
	if got := rooms.Sharing(slices.Concat(rooms.Items(in), rooms.Items(z), rooms.Rows(l))); len(got) != 0 {
		t.Errorf("shared: %v", got)
	}
}
