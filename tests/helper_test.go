package tests

import (
	"math"
	"slices"
	"testing"
)

// sizes are the numbers of points that a ring may have.
var sizes = []int{3, 4, 5, 6, 7}

// noSizes are numbers of points that no ring has.
var noSizes = []int{math.MinInt, -7, -3, -1, 0, 1, 2, 8, 9, 21, 100, math.MaxInt}

// allTellings returns, in the order of lists, all lists of n points, each one once.
func allTellings(n int) [][]int {
	lists := [][]int{}
	var grow func(list []int)
	grow = func(list []int) {
		if len(list) == n {
			lists = append(lists, slices.Clone(list))
			return
		}
		for x := range n {
			if !slices.Contains(list, x) {
				grow(append(slices.Clone(list), x))
			}
		}
	}
	grow(nil)
	return lists
}

// allRings returns, in the order of lists, all rings of n points.
func allRings(n int) [][]int {
	rings := [][]int{}
	for _, list := range allTellings(n) {
		if list[0] == 0 {
			rings = append(rings, list)
		}
	}
	return rings
}

// everyRing runs a check for all rings of all sizes.
func everyRing(check func(a []int)) {
	for _, n := range sizes {
		for _, a := range allRings(n) {
			check(a)
		}
	}
}

// noTellings returns lists that tell no ring.
func noTellings() [][]int {
	long := make([]int, 1000)
	for i := range long {
		long[i] = i
	}
	return [][]int{
		nil, {}, {0}, {1}, {-1}, {0, 0}, {0, 1}, {1, 0}, {0, 2}, {1, 2},
		{0, 1, 2, 3, 4, 5, 6, 7}, {7, 6, 5, 4, 3, 2, 1, 0}, {0, 2, 1, 3, 4, 5, 6, 7, 8}, long,
		{0, 1, 2, 3, 4, 5, 6, 6}, {0, 1, 2, 3, 4, 5, 6, 0}, {0, 1, 2, 3, 4, 5, 6, -1},
		{0, 0, 0}, {0, 0, 1}, {0, 1, 1}, {0, 1, 0}, {1, 1, 0}, {2, 2, 2},
		{0, 1, 2, 2}, {0, 1, 2, 0}, {0, 2, 2, 3}, {0, 1, 2, 3, 4, 5, 5}, {0, 1, 2, 3, 4, 5, 0},
		{0, -1, 1}, {-1, 0, 1}, {0, 1, -1}, {0, 1, -2}, {0, 1, 2, -1}, {0, 1, 2, 3, 4, 5, -1}, {-1, -2, -3},
		{0, 1, 3}, {1, 2, 3}, {0, 2, 3}, {3, 0, 1}, {0, 1, 2, 4}, {0, 1, 2, 7}, {0, 1, 2, 3, 4, 5, 7}, {1, 2, 3, 4, 5, 6, 7},
		{0, 1, math.MaxInt}, {0, 1, math.MinInt}, {math.MinInt, math.MaxInt, 0}, {0, 1, 2 - 1<<32}, {0, 1, 2 + 1<<32},
	}
}

// noRings returns lists that are no rings: those that tell none, and some that tell one but do not begin with 0.
func noRings() [][]int {
	return append(noTellings(), [][]int{
		{1, 2, 0}, {2, 0, 1}, {1, 0, 2}, {2, 1, 0}, {3, 0, 1, 2}, {1, 0, 2, 3}, {4, 3, 2, 1, 0}, {5, 0, 1, 2, 3, 4}, {6, 0, 1, 2, 3, 4, 5}, {1, 2, 3, 4, 5, 6, 0},
	}...)
}

// noPoints returns numbers that are no points of a ring of n points.
func noPoints(n int) []int {
	return []int{-1, -2, -n, -n - 1, n, n + 1, 2 * n, 100, math.MinInt, math.MinInt + 1, math.MaxInt, 1 << 32, -1 << 32}
}

// wantList fails the test if a list is not as it must be.
func wantList(t *testing.T, got []int, ok bool, want []int, what string, args ...any) {
	t.Helper()
	if !ok || !slices.Equal(got, want) {
		t.Fatalf("%s of %v returned %v, %v; want %v, true", what, args, got, ok, want)
	}
}

// wantNumber fails the test if a number is not as it must be.
func wantNumber(t *testing.T, got int, ok bool, want int, what string, args ...any) {
	t.Helper()
	if !ok || got != want {
		t.Fatalf("%s of %v returned %v, %v; want %v, true", what, args, got, ok, want)
	}
}

// wantNoList fails the test if a call did not return an empty list and false.
func wantNoList(t *testing.T, got []int, ok bool, what string, args ...any) {
	t.Helper()
	if ok || len(got) != 0 {
		t.Fatalf("%s of %v returned %v, %v; want an empty list and false", what, args, got, ok)
	}
}

// wantNoNumber fails the test if a call did not return 0 and false.
func wantNoNumber(t *testing.T, got int, ok bool, what string, args ...any) {
	t.Helper()
	if ok || got != 0 {
		t.Fatalf("%s of %v returned %v, %v; want 0, false", what, args, got, ok)
	}
}

// spare is what guarded puts behind the end of a list, within its capacity.
const spare = 77

// guarded returns a copy of a list with room behind its end, so that writing there shows.
func guarded(list []int) []int {
	room := append(slices.Clone(list), spare, spare, spare)
	return room[:len(list)]
}

// wantKept fails the test if a guarded list, or the room behind it, is not as it was made.
func wantKept(t *testing.T, list []int, was []int, what string) {
	t.Helper()
	room := list[:len(was)+3]
	if !slices.Equal(room[:len(was)], was) || !slices.Equal(room[len(was):], []int{spare, spare, spare}) {
		t.Fatalf("%s changed its argument %v to %v", what, was, room)
	}
}

// scribble overwrites a result, with all of its capacity.
func scribble(list []int) {
	room := list[:cap(list)]
	for i := range room {
		room[i] = -99
	}
}
