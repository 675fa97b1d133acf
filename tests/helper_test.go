package tests

import (
	"math"
	"slices"
	"testing"
)

// sizes are the numbers of points that a ring may have.
var sizes = []int{3, 4, 5, 6, 7}

// noSizes are numbers of points that no ring has.
var noSizes = []int{math.MinInt, -7, -3, -1, 0, 1, 2, 8, 9, 21, 100, math.MaxInt}

// allTellings returns, in the order of lists, all lists of n points, each one once.
func allTellings(n int) [][]int {
	lists := [][]int{}
	var grow func(list []int)
	grow = func(list []int) {
		if len(list) == n {
			lists = append(lists, slices.Clone(list))
			return
		}
		for x := range n {
			if !slices.Contains(list, x) {
				grow(append(slices.Clone(list), x))
			}
		}
	}
	grow(nil)
	return lists
}

// knownRings has, at each number of points, all rings of so many; they are listed once, as most tests go over them.
var knownRings = listRings()

// listRings returns, at each number of points, all rings of so many, in the order of lists.
func listRings() [][][]int {
	rings := make([][][]int, 8)
	for _, n := range sizes {
		for _, list := range allTellings(n) {
			if list[0] == 0 {
				rings[n] = append(rings[n], list)
			}
		}
	}
	return rings
}

// allRings returns, in the order of lists, all rings of n points.
func allRings(n int) [][]int {
	return slices.Clone(knownRings[n])
}

// everyRing runs a check for all rings of all sizes.
func everyRing(check func(a []int)) {
	for _, n := range sizes {
		for _, a := range allRings(n) {
			check(a)
		}
	}
}

// noTellings returns lists that tell no ring.
func noTellings() [][]int {
	long := make([]int, 1000)
	for i := range long {
		long[i] = i
	}
	return [][]int{
		nil, {}, {0}, {1}, {-1}, {0, 0}, {0, 1}, {1, 0}, {0, 2}, {1, 2},
		{0, 1, 2, 3, 4, 5, 6, 7}, {7, 6, 5, 4, 3, 2, 1, 0}, {0, 2, 1, 3, 4, 5, 6, 7, 8}, long,
		{0, 1, 2, 3, 4, 5, 6, 6}, {0, 1, 2, 3, 4, 5, 6, 0}, {0, 1, 2, 3, 4, 5, 6, -1},
		{0, 0, 0}, {0, 0, 1}, {0, 1, 1}, {0, 1, 0}, {1, 1, 0}, {2, 2, 2},
		{0, 1, 2, 2}, {0, 1, 2, 0}, {0, 2, 2, 3}, {0, 1, 2, 3, 4, 5, 5}, {0, 1, 2, 3, 4, 5, 0},
		{0, -1, 1}, {-1, 0, 1}, {0, 1, -1}, {0, 1, -2}, {0, 1, 2, -1}, {0, 1, 2, 3, 4, 5, -1}, {-1, -2, -3},
		{0, 1, 3}, {1, 2, 3}, {0, 2, 3}, {3, 0, 1}, {0, 1, 2, 4}, {0, 1, 2, 7}, {0, 1, 2, 3, 4, 5, 7}, {1, 2, 3, 4, 5, 6, 7},
		{0, 1, math.MaxInt}, {0, 1, math.MinInt}, {math.MinInt, math.MaxInt, 0}, {0, 1, 2 - 1<<32}, {0, 1, 2 + 1<<32},
	}
}

// noRings returns lists that are no rings: those that tell none, and some that tell one but do not begin with 0.
func noRings() [][]int {
	return append(noTellings(), [][]int{
		{1, 2, 0}, {2, 0, 1}, {1, 0, 2}, {2, 1, 0}, {3, 0, 1, 2}, {1, 0, 2, 3}, {4, 3, 2, 1, 0}, {5, 0, 1, 2, 3, 4}, {6, 0, 1, 2, 3, 4, 5}, {1, 2, 3, 4, 5, 6, 0},
	}...)
}

// noPoints returns numbers that are no points of a ring of n points.
func noPoints(n int) []int {
	return []int{-1, -2, -n, -n - 1, n, n + 1, 2 * n, 100, math.MinInt, math.MinInt + 1, math.MaxInt, 1 << 32, -1 << 32}
}

// wantList fails the test if a list is not as it must be.
func wantList(t *testing.T, got []int, ok bool, want []int, what string, args ...any) {
	t.Helper()
	if !ok || !slices.Equal(got, want) {
		t.Fatalf("%s of %v returned %v, %v; want %v, true", what, args, got, ok, want)
	}
}

// wantNumber fails the test if a number is not as it must be.
func wantNumber(t *testing.T, got int, ok bool, want int, what string, args ...any) {
	t.Helper()
	if !ok || got != want {
		t.Fatalf("%s of %v returned %v, %v; want %v, true", what, args, got, ok, want)
	}
}

// wantNoList fails the test if a call did not return an empty list and false.
func wantNoList(t *testing.T, got []int, ok bool, what string, args ...any) {
	t.Helper()
	if ok || len(got) != 0 {
		t.Fatalf("%s of %v returned %v, %v; want an empty list and false", what, args, got, ok)
	}
}

// wantNoNumber fails the test if a call did not return 0 and false.
func wantNoNumber(t *testing.T, got int, ok bool, what string, args ...any) {
	t.Helper()
	if ok || got != 0 {
		t.Fatalf("%s of %v returned %v, %v; want 0, false", what, args, got, ok)
	}
}

// sameLists reports whether two lists of lists have the same lists in the same order.
func sameLists(x [][]int, y [][]int) bool {
	return slices.EqualFunc(x, y, slices.Equal)
}

// cloneLists returns a copy of a list of lists that shares no memory with it.
func cloneLists(lists [][]int) [][]int {
	copies := make([][]int, len(lists))
	for i, list := range lists {
		copies[i] = slices.Clone(list)
	}
	return copies
}

// wantLists fails the test if a list of lists is not as it must be.
func wantLists(t *testing.T, got [][]int, ok bool, want [][]int, what string, args ...any) {
	t.Helper()
	if !ok || !sameLists(got, want) {
		t.Fatalf("%s of %v returned %v, %v; want %v, true", what, args, got, ok, want)
	}
}

// wantNoLists fails the test if a call did not return an empty list of lists and false.
func wantNoLists(t *testing.T, got [][]int, ok bool, what string, args ...any) {
	t.Helper()
	if ok || len(got) != 0 {
		t.Fatalf("%s of %v returned %v, %v; want an empty list and false", what, args, got, ok)
	}
}

// wantBool fails the test if a bool is not as it must be.
func wantBool(t *testing.T, got bool, want bool, what string, args ...any) {
	t.Helper()
	if got != want {
		t.Fatalf("%s of %v returned %v", what, args, got)
	}
}

// spare is what guarded puts behind the end of a list, within its capacity.
const spare = 77

// guarded returns a copy of a list with room behind its end, so that writing there shows.
func guarded(list []int) []int {
	room := append(slices.Clone(list), spare, spare, spare)
	return room[:len(list)]
}

// wantKept fails the test if a guarded list, or the room behind it, is not as it was made.
func wantKept(t *testing.T, list []int, was []int, what string) {
	t.Helper()
	room := list[:len(was)+3]
	if !slices.Equal(room[:len(was)], was) || !slices.Equal(room[len(was):], []int{spare, spare, spare}) {
		t.Fatalf("%s changed its argument %v to %v", what, was, room)
	}
}

// guardedLists returns a copy of a list of lists with room behind the end of each list, and behind its own.
func guardedLists(lists [][]int) [][]int {
	room := make([][]int, 0, len(lists)+3)
	for _, list := range lists {
		room = append(room, guarded(list))
	}
	return append(room, []int{spare}, []int{spare}, []int{spare})[:len(lists)]
}

// wantListsKept fails the test if guarded lists, or the room behind them, are not as they were made.
func wantListsKept(t *testing.T, lists [][]int, were [][]int, what string) {
	t.Helper()
	room := lists[:len(were)+3]
	for i, list := range room {
		if i >= len(were) {
			if !slices.Equal(list, []int{spare}) {
				t.Fatalf("%s wrote %v behind the end of its argument %v", what, list, were)
			}
		} else if len(list) != len(were[i]) {
			t.Fatalf("%s changed %v in its argument to %v", what, were[i], list)
		} else {
			wantKept(t, list, were[i], what)
		}
	}
}

// scribbleLists overwrites a list of lists, with all of its capacity.
func scribbleLists(lists [][]int) {
	room := lists[:cap(lists)]
	for i, list := range room {
		scribble(list)
		room[i] = nil
	}
}

// scribble overwrites a result, with all of its capacity.
func scribble(list []int) {
	room := list[:cap(list)]
	for i := range room {
		room[i] = -99
	}
}
