package rooms_test

import (
	"fmt"
	"slices"
	"testing"

	"raddle/api"
	"raddle/rooms"
)

func num(n int) api.Value { return api.Value{Kind: api.Int, I: n} }

// apart has lists of each kind, none of which shares memory with another one.
func apart() []rooms.Room {
	return slices.Concat(
		rooms.Ints([]int{1, 2}), rooms.Ints(nil), rooms.Dots(make([]api.Dot, 2, 5)), rooms.Values([]api.Value{num(1), num(2)}),
		rooms.Rows([][]api.Value{{num(1)}, nil, {num(2), num(3)}}), rooms.Items([]api.Item{{Row: []api.Value{num(1)}}, {}, {W: 2}}),
	)
}

func TestNoneIsShared(t *testing.T) {
	if got := rooms.Sharing(apart()); len(got) != 0 {
		t.Errorf("got %v", got)
	}
}

// Memory is shared where two lists have one place alone, and be it behind the length of both.
func TestSharing(t *testing.T) {
	numbers, values, dots := make([]int, 9), make([]api.Value, 9), make([]api.Dot, 9)
	for i, all := range [][]rooms.Room{
		slices.Concat(rooms.Ints(numbers[:2]), rooms.Ints(numbers[8:])),
		slices.Concat(rooms.Ints(numbers[:0]), rooms.Ints(numbers[4:4])),
		slices.Concat(rooms.Dots(dots[:0:1]), rooms.Dots(dots[:9])),
		slices.Concat(rooms.Values(values[:5:5]), rooms.Values(values[4:5:5])),
		rooms.Rows([][]api.Value{values[:5], values[6:]}),
		rooms.Items([]api.Item{{Row: values[:1]}, {Row: values[1:]}}),
	} {
		was := len(all)
		got := rooms.Sharing(slices.Concat(apart(), all))
		if len(got) != 1 || got[0] < len(apart()) || got[0] >= len(apart())+was {
			t.Errorf("case %d: got %v of %d, behind %d", i, got, was, len(apart()))
		}
	}
}

func TestListsApartInOneMemory(t *testing.T) {
	numbers := make([]int, 9)
	if got := rooms.Sharing(slices.Concat(rooms.Ints(numbers[:3:3]), rooms.Ints(numbers[3:7:7]), rooms.Ints(numbers[7:]))); len(got) != 0 {
		t.Errorf("got %v", got)
	}
}

func TestKeep(t *testing.T) {
	numbers, dots, r := make([]int, 3, 9), make([]api.Dot, 2), []api.Value{num(1), num(2)}[:1]
	l, z := [][]api.Value{{num(1)}, {num(2), num(4)}}, []api.Item{{Row: []api.Value{num(1)}, W: 3}, {W: 4}}
	all := slices.Concat(rooms.Ints(numbers), rooms.Dots(dots), rooms.Values(r), rooms.Rows(l), rooms.Items(z))
	kept := rooms.Keep(all)
	if !kept() {
		t.Fatal("nothing has changed yet")
	}
	for i, change := range []func(n int){
		func(n int) { numbers[0] += n },
		func(n int) { numbers[:9][8] += n },
		func(n int) { dots[1].N += n },
		func(n int) { r[:2][1].I += n },
		func(n int) { l[1][1].I += n },
		func(n int) { l[0] = []api.Value{num(n)} },
		func(n int) { z[0].Row[0].Kind += n },
		func(n int) { z[1].W += n },
	} {
		kept := rooms.Keep(all)
		change(5)
		if kept() {
			t.Errorf("change %d was not seen", i)
		}
	}
}

func TestFault(t *testing.T) {
	shared, asked := []int{1, 2, 3, 4}, 0
	for want, ask := range map[string]func(in []int) ([]rooms.Room, string){
		"":                                 func(in []int) ([]rooms.Room, string) { return rooms.Ints(slices.Clone(in)), "same" },
		"it tells a, and then aa":          func([]int) ([]rooms.Room, string) { asked++; return nil, "aaa"[:asked] },
		"what is handed in has changed":    func(in []int) ([]rooms.Room, string) { in[:3][2]++; return nil, "" },
		"lists share memory: 0 1 of 1 1 1": func(in []int) ([]rooms.Room, string) { return rooms.Ints(in[:1]), "" },
		"lists share memory: 1 of 1 1 1":   func([]int) ([]rooms.Room, string) { return rooms.Ints(shared[:2]), "" },
		"lists share memory: 1 3 4 of 1 3 3": func([]int) ([]rooms.Room, string) {
			return slices.Concat(rooms.Ints(shared[:1]), rooms.Ints([]int{4}), rooms.Ints(shared[1:])), ""
		},
		"something lies behind a list that is answered": func([]int) ([]rooms.Room, string) {
			return slices.Concat(rooms.Ints(make([]int, 2, 5)), rooms.Ints([]int{1, 2}[:1])), ""
		},
	} {
		in := make([]int, 2, 5)
		if got := rooms.Fault(rooms.Ints(in), func() ([]rooms.Room, string) { return ask(in) }); got != want {
			t.Errorf("got %q, want %q", got, want)
		}
	}
}

func TestSpare(t *testing.T) {
	in := []api.Item{{Row: []api.Value{num(1)}, W: 3}, {W: 4}}
	z := rooms.SpareItems(in)
	if len(z) != 2 || cap(z) < 5 || z[0].W != 3 || z[0].Row[0] != num(1) || len(z[1].Row) != 0 || cap(z[1].Row) < 3 || z[:5][4].W == 0 || z[1].Row[:3][0] == (api.Value{}) {
		t.Errorf("got %v", z[:cap(z)])
	}
	l := rooms.SpareRows([][]api.Value{nil, {num(6)}})
	if len(l) != 2 || cap(l) < 5 || len(l[0]) != 0 || len(l[1]) != 1 || l[1][0] != num(6) || cap(l[1]) < 4 {
		t.Errorf("got %v", l[:cap(l)])
	}
	numbers, dots := rooms.SpareInts([]int{8}), rooms.SpareDots(nil)
	if !slices.Equal(numbers, []int{8}) || numbers[:2][1] == 0 || len(dots) != 0 || dots[:1][0] == (api.Dot{}) {
		t.Errorf("got %v, %v", numbers[:cap(numbers)], dots[:cap(dots)])
	}
	if got := rooms.Sharing(slices.Concat(rooms.Items(in), rooms.Items(z), rooms.Rows(l))); len(got) != 0 {
		t.Errorf("shared: %v", got)
	}
}

func TestFaultOfWhatLiesBehindAnswers(t *testing.T) {
	r := func() []api.Value { return []api.Value{num(1), num(0), {}} }
	for i, ask := range []func() []rooms.Room{
		func() []rooms.Room { return rooms.Ints([]int{0, 1}[:1]) },
		func() []rooms.Room { return rooms.Dots([]api.Dot{{}, {}, {N: 1}}[:0]) },
		func() []rooms.Room { return rooms.Values(r()[:1]) },
		func() []rooms.Room { return rooms.Rows([][]api.Value{nil, r()}[:1]) },
		func() []rooms.Room { return rooms.Rows([][]api.Value{r(), r()[:1]}) },
		func() []rooms.Room { return rooms.Items([]api.Item{{W: 2}, {W: 1}}[:1]) },
		func() []rooms.Room { return rooms.Items([]api.Item{{Row: r()}, {Row: r()[:1]}}) },
	} {
		if fault := rooms.Fault(nil, func() ([]rooms.Room, string) { return ask(), "" }); fault != "something lies behind a list that is answered" {
			t.Errorf("case %d: got %q", i, fault)
		}
	}
	empty := func() ([]rooms.Room, string) {
		all := slices.Concat(rooms.Ints(append(make([]int, 0, 9), 7)), rooms.Dots(make([]api.Dot, 2, 5)), rooms.Values(r()[:2]))
		return slices.Concat(all, rooms.Rows([][]api.Value{r()[:2], nil}[:1]), rooms.Items([]api.Item{{Row: r()[:2]}, {}}[:1])), ""
	}
	if fault := rooms.Fault(nil, empty); fault != "" {
		t.Errorf("got %q", fault)
	}
}

// call asks of numbers what its ask answers; it keeps how often that was asked.
type call struct {
	in    []int
	asked *int
	ask   func(c call) []int
}

func (c call) Roomy() call         { return call{rooms.SpareInts(c.in), c.asked, c.ask} }
func (c call) Rooms() []rooms.Room { return rooms.Ints(c.in) }

func (c call) Answers() ([]rooms.Room, string) {
	*c.asked++
	out := c.ask(c)
	return rooms.Ints(out), fmt.Sprint(out)
}

func TestFaults(t *testing.T) {
	asks := []func(c call) []int{
		func(c call) []int { return slices.Clone(c.in) },
		func(c call) []int { return append([]int{0}, slices.Clone(c.in[:min(3, cap(c.in))])[2:]...) },
		func(c call) []int { return c.in[:1:1] },
		func(c call) []int { return nil },
	}
	for k, wants := range [][]string{
		nil,
		{"call 1: with spare room it tells [0 3], without it [0]"},
		{"call 2: lists share memory: 0 1 of 1 1 1"},
		nil,
	} {
		var calls []call
		asked := 0
		for i := range asks {
			calls = append(calls, call{make([]int, 2), &asked, asks[0]})
			if i == k {
				calls[i].ask = asks[k]
			}
		}
		if got := rooms.Faults(calls); !slices.Equal(got, wants) {
			t.Errorf("ask %d: got %q, want %q", k, got, wants)
		}
	}
	// What was asked ahead tells in what is told now.
	asked := 0
	count := func(c call) []int { return []int{*c.asked} }
	got := rooms.Faults([]call{{nil, &asked, asks[3]}, {nil, &asked, count}, {nil, &asked, asks[3]}})
	want := []string{"call 1: it told [2], and now [8]", "call 1: with spare room it tells [9], without it [2]", "call 1: it tells [10], and then [11]"}
	if !slices.Equal(got, want) {
		t.Errorf("got %q, want %q", got, want)
	}
}
