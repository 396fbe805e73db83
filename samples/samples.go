// Package samples stands beside the layers, for their tests: values, rows and sets, right and not, that several of them ask.
package samples

import (
	"math"
	"strings"

	"raddle/api"
)

// Longest is as long as a text may be, with its first and its last byte told apart.
func Longest() string {
	return "<" + strings.Repeat("x", api.MaxText-2) + ">"
}

// Values has right Values of every Kind at both ends, each ahead of those behind it.
func Values() []api.Value {
	return []api.Value{
		null(),
		truth(0), truth(1),
		num(-api.MaxValue), num(-api.MaxValue + 1), num(-api.MaxInt - 1), num(-api.MaxInt), num(-256), num(-1), num(0), num(1), num(255), num(256), num(api.MaxInt), num(api.MaxInt + 1), num(api.MaxValue - 1), num(api.MaxValue),
		text(""), text("\x00"), text("\x00\x00"), text("-1"), text("0"), text("10"), text("9"), text(Longest()), text("A"), text("a"), text("a\x00"), text("ab"), text("b"), text(strings.Repeat("x", api.MaxText-1)), text(strings.Repeat("x", api.MaxText)), text("\x7f"), text("\xc3\xa4"), text("\xff"), text(strings.Repeat("\xff", api.MaxText)),
	}
}

// WrongValues has such as are one beyond each end, of Kinds that there are not, and with fields set that the Kind leaves alone.
func WrongValues() []api.Value {
	return []api.Value{
		{}, {I: 1}, {S: "x"}, {Kind: -1}, {Kind: -api.Int, I: 1}, {Kind: api.Text + 1}, {Kind: api.Text + 1, S: "x"}, {Kind: 256 + api.Null}, {Kind: 256 + api.Int}, {Kind: math.MaxInt}, {Kind: math.MinInt},
		{Kind: api.Null, I: 1}, {Kind: api.Null, I: -1}, {Kind: api.Null, S: "x"}, {Kind: api.Null, S: "\x00"},
		truth(-1), truth(2), truth(256), truth(257), truth(math.MaxInt), truth(math.MinInt), {Kind: api.Bool, S: "x"}, {Kind: api.Bool, I: 1, S: "\x00"},
		num(-api.MaxValue - 1), num(api.MaxValue + 1), num(math.MinInt), num(math.MaxInt), {Kind: api.Int, S: "x"}, {Kind: api.Int, I: 5, S: "5"},
		text(Longest() + "x"), text(strings.Repeat("x", 255)), text(strings.Repeat("x", 256)), text(strings.Repeat("x", api.MaxBytes)), {Kind: api.Text, I: 1}, {Kind: api.Text, I: -1, S: "x"}, {Kind: api.Text, I: math.MinInt, S: Longest()},
	}
}

// AnyValues has Values right and not, each ahead of those behind it: the loops stand from the field that counts most to
// the one that counts least.
func AnyValues() []api.Value {
	var up []api.Value
	for _, kind := range []int{math.MinInt, -1, 0, api.Null, api.Bool, api.Int, api.Text, api.Text + 1, math.MaxInt} {
		for _, i := range []int{math.MinInt, -api.MaxValue - 1, -1, 0, 1, 2, api.MaxValue + 1, math.MaxInt} {
			for _, s := range []string{"", "\x00", Longest() + "~~", "a", "ab", "b", "\xff"} {
				up = append(up, api.Value{Kind: kind, I: i, S: s})
			}
		}
	}
	return up
}

func null() api.Value {
	return api.Value{Kind: api.Null}
}

func truth(i int) api.Value {
	return api.Value{Kind: api.Bool, I: i}
}

func num(i int) api.Value {
	return api.Value{Kind: api.Int, I: i}
}

func text(s string) api.Value {
	return api.Value{Kind: api.Text, S: s}
}
