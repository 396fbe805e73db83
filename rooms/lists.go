package rooms

import (
	"slices"

	"raddle/api"
)

// Ints has the memory of numbers.
func Ints(l []int) []Room {
	return []Room{OfPlain(l, oneInt)}
}

// Dots has that of dots.
func Dots(l []api.Dot) []Room {
	return []Room{OfPlain(l, oneDot)}
}

// Values has that of a row.
func Values(r []api.Value) []Room {
	return []Room{OfPlain(r, oneValue)}
}

// Rows has that of a list of rows, and of each of them.
func Rows(l [][]api.Value) []Room {
	all := []Room{Of(l, oneRow, slices.Equal)}
	for _, r := range l {
		all = append(all, Values(r)...)
	}
	return all
}

// Items has that of rows with weights, and of each Row.
func Items(z []api.Item) []Room {
	all := []Room{Of(z, oneItem, sameItem)}
	for _, x := range z {
		all = append(all, Values(x.Row)...)
	}
	return all
}

// SpareInts has spare room behind numbers, as Spare makes it.
func SpareInts(l []int) []int {
	return Spare(l, oneInt)
}

// SpareDots has it behind dots.
func SpareDots(l []api.Dot) []api.Dot {
	return Spare(l, oneDot)
}

// SpareValues has it behind a row.
func SpareValues(r []api.Value) []api.Value {
	return Spare(r, oneValue)
}

// SpareRows has it behind a list of rows, and behind each of them.
func SpareRows(l [][]api.Value) [][]api.Value {
	out := Spare(l, oneRow)
	for i, r := range l {
		out[i] = SpareValues(r)
	}
	return out
}

// SpareItems has it behind rows with weights, and behind each Row.
func SpareItems(z []api.Item) []api.Item {
	out := Spare(z, oneItem)
	for i, x := range z {
		out[i].Row = SpareValues(x.Row)
	}
	return out
}

func oneInt(n int) int {
	return n
}

func oneDot(n int) api.Dot {
	return api.Dot{Peer: n, N: n}
}

func oneValue(n int) api.Value {
	return api.Value{Kind: api.Int, I: n}
}

func oneRow(n int) []api.Value {
	return []api.Value{oneValue(n)}
}

func oneItem(n int) api.Item {
	return api.Item{Row: oneRow(n), W: n}
}

func sameItem(a, b api.Item) bool {
	return slices.Equal(a.Row, b.Row) && a.W == b.W
}
