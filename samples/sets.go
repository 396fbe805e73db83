package samples

import (
	"math"
	"slices"

	"raddle/api"
)

// Rows has right rows, each ahead of those behind it.
func Rows() [][]api.Value {
	return [][]api.Value{
		nil,
		{null()},
		{null(), null()},
		many(api.MaxArity-1, null()),
		many(api.MaxArity, null()),
		{null(), truth(0)},
		{truth(0)},
		{truth(0), num(-api.MaxValue)},
		{truth(1)},
		{num(-api.MaxValue)},
		{num(-1), text("b")},
		{num(0)},
		{num(0), num(0)},
		{num(0), num(1)},
		{num(2)},
		{num(10)},
		{num(api.MaxValue)},
		{text("")},
		{text(""), null()},
		{text("10")},
		{text("2")},
		many(api.MaxArity, text(Longest())),
		{text("\xff")},
	}
}

// WrongRows has one of each way in which a row is not right, those that are too long among them.
func WrongRows() [][]api.Value {
	var all [][]api.Value
	for _, v := range []api.Value{
		{}, {Kind: -1}, {Kind: api.Text + 1}, {Kind: api.Null, I: 1}, {Kind: api.Null, S: "x"}, truth(-1), truth(2), {Kind: api.Bool, S: "x"},
		num(-api.MaxValue - 1), num(api.MaxValue + 1), num(math.MinInt), {Kind: api.Int, S: "x"}, text(Longest() + "x"), {Kind: api.Text, I: 1},
	} {
		last := append(many(api.MaxArity-1, num(0)), v)
		all = append(all, []api.Value{v}, []api.Value{num(0), v}, []api.Value{v, num(0)}, last)
	}
	return append(all, many(api.MaxArity+1, null()), many(api.MaxArity+1, num(7)), many(257, num(7)), make([]api.Value, api.MaxArity+1))
}

// WrongWeights has such as are one beyond each end, and far beyond it.
func WrongWeights() []int {
	const most = api.MaxWeight
	return []int{most + 1, -most - 1, most * 2, -most * 2, math.MaxInt, math.MinInt, math.MinInt + 1}
}

// WrongItems has Items whose Row or whose weight is none, those of weight 0 not among them.
func WrongItems() []api.Item {
	var all []api.Item
	for _, r := range WrongRows() {
		all = append(all, item(1, r...), item(-api.MaxWeight, r...))
	}
	for _, w := range WrongWeights() {
		all = append(all, item(w, num(3)), item(w))
	}
	return all
}

// Set is that of all Rows, with weights of both signs.
func Set() []api.Item {
	var z []api.Item
	for i, r := range Rows() {
		z = append(z, item([]int{1, -1, 2, api.MaxWeight, -api.MaxWeight, -3, api.MaxWeight - 1}[i%7], r...))
	}
	return z
}

// WrongSets has one of each way in which a set is not right, at the first Item, in the middle and at the last.
func WrongSets() [][]api.Item {
	return slices.Concat(setsOfWrongItems(), setsOutOfOrder(), setsOfFewOutOfOrder())
}

func setsOfWrongItems() [][]api.Item {
	var all [][]api.Item
	for _, x := range append(WrongItems(), item(0, num(3)), item(0)) {
		all = append(all, items(x), items(x, item(1, text("z"))), items(item(1, text("a")), x, item(1, text("z"))))
		for _, place := range []int{0, 5, len(Set()) - 1} {
			all = append(all, with(Set(), place, x))
		}
	}
	for i, x := range Set() {
		all = append(all, with(Set(), i, item(0, x.Row...)))
	}
	return all
}

// setsOutOfOrder has such as are right but for two Items side by side, which are alike or the wrong way about.
func setsOutOfOrder() [][]api.Item {
	var all [][]api.Item
	for i, x := range Set() {
		if i == 0 {
			continue
		}
		ahead := Set()[i-1]
		twin := with(Set(), i, item(x.W, ahead.Row...))
		turned := with(with(Set(), i, ahead), i-1, x)
		all = append(all, twin, turned, items(ahead, ahead), items(x, ahead))
	}
	return all
}

func setsOfFewOutOfOrder() [][]api.Item {
	one, two, three := num(1), num(2), num(3)
	var all [][]api.Item
	for _, w := range []int{1, -1, api.MaxWeight} {
		all = append(all,
			items(item(w), item(w)), items(item(w, two), item(-w, two)), items(item(w, two), item(w, one)),
			items(item(w, one), item(w, three), item(w, two)), items(item(w, one), item(w, two), item(w, two)),
			items(item(w, one), item(w, two), item(w, one)), items(item(w, one, one), item(w, one)),
		)
	}
	return all
}

func many(n int, v api.Value) []api.Value {
	return slices.Repeat([]api.Value{v}, n)
}

func item(w int, r ...api.Value) api.Item {
	return api.Item{Row: r, W: w}
}

func items(l ...api.Item) []api.Item {
	return l
}

// with has z with x in the place of one.
func with(z []api.Item, place int, x api.Item) []api.Item {
	out := slices.Clone(z)
	out[place] = x
	return out
}
