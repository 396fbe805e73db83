// Package rooms stands beside the layers, for their tests: it tells whether lists share memory, and whether what
// lies in it stays as it was.
package rooms

import (
	"slices"
	"strconv"
	"strings"
)

// Room is the memory of a list, with what lies behind its length.
type Room struct {
	mark func(n int)
	has  func(n int) bool
	keep func() func() bool
	bare func() bool
}

// Of answers that of l. An element that made tells by a number is like no other one by same.
func Of[T any](l []T, made func(n int) T, same func(a, b T) bool) Room {
	rest := l[len(l):cap(l)]
	l = l[:cap(l)]
	return Room{
		mark: func(n int) {
			for i := range l {
				l[i] = made(n)
			}
		},
		has: func(n int) bool {
			return !slices.ContainsFunc(l, func(x T) bool { return !same(x, made(n)) })
		},
		keep: func() func() bool {
			was := slices.Clone(l)
			return func() bool { return slices.EqualFunc(l, was, same) }
		},
		bare: func() bool {
			var zero T
			return !slices.ContainsFunc(rest, func(x T) bool { return !same(x, zero) })
		},
	}
}

// OfPlain answers that of a list whose elements == tells apart.
func OfPlain[T comparable](l []T, made func(n int) T) Room {
	return Of(l, made, func(a, b T) bool { return a == b })
}

// Keep answers what tells whether all that lies in these is still what it is now.
func Keep(all []Room) func() bool {
	var kept []func() bool
	for _, r := range all {
		kept = append(kept, r.keep())
	}
	return func() bool {
		return !slices.ContainsFunc(kept, func(same func() bool) bool { return !same() })
	}
}

// Sharing writes over all of these, each in its own way, and answers the places of those that were touched by what
// was written to another one.
func Sharing(all []Room) []int {
	for i, r := range all {
		r.mark(firstMark + i)
	}
	var places []int
	for i, r := range all {
		if !r.has(firstMark + i) {
			places = append(places, i)
		}
	}
	return places
}

// Fault asks twice, and answers what is wrong then: that what is told hangs on more than what is handed in, that what
// is handed in does not stay, that lists share memory, the places of those handed in ahead of what each asking
// answers, or that something lies behind one that is answered. It answers an empty text where nothing is. In the end
// all is written over.
func Fault(in []Room, ask func() (answer []Room, told string)) string {
	stays := Keep(in)
	first, told := ask()
	second, again := ask()
	if told != again {
		return "it tells " + told + ", and then " + again
	}
	if !stays() {
		return "what is handed in has changed"
	}
	// It is asked ahead of Sharing, which writes behind the lists too.
	bare := !slices.ContainsFunc(first, func(r Room) bool { return !r.bare() })
	if places := Sharing(slices.Concat(in, first, second)); len(places) > 0 {
		return "lists share memory: " + numbers(places) + " of " + numbers([]int{len(in), len(first), len(second)})
	}
	if !bare {
		return "something lies behind a list that is answered"
	}
	return ""
}

func numbers(l []int) string {
	var all []string
	for _, n := range l {
		all = append(all, strconv.Itoa(n))
	}
	return strings.Join(all, " ")
}

// firstMark is above the numbers that tests put in their lists themselves.
const firstMark = 1000

// Spare answers l in new memory, with spare room in which something lies that would be seen if it were read.
func Spare[T any](l []T, made func(n int) T) []T {
	out := append(slices.Clone(l), made(3), made(2), made(1))
	return out[:len(l)]
}
