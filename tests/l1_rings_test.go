package tests

import (
	"math"
	"slices"
	"testing"

	"loop.example/ringorders/impl"
)

// The functions below tell again, in the plainest way, what chapter 1 says; the tests hold the program against them.

// turned returns a list beginning with a point of it, going round.
func turned(list []int, x int) []int {
	i := slices.Index(list, x)
	return append(slices.Clone(list[i:]), list[:i]...)
}

// backwards returns the ring gone round the other way.
func backwards(a []int) []int {
	back := slices.Clone(a)
	slices.Reverse(back)
	return turned(back, 0)
}

// walk returns the points met from the one behind x on, up to the first y, which is left out.
func walk(a []int, x int, y int) []int {
	points := []int{}
	for i := slices.Index(a, x) + 1; a[i%len(a)] != y; i++ {
		points = append(points, a[i%len(a)])
	}
	return points
}

// onlyPoints reports whether a list has 3 to 7 points, each one once.
func onlyPoints(list []int) bool {
	sorted := slices.Clone(list)
	slices.Sort(sorted)
	for i, x := range sorted {
		if x != i {
			return false
		}
	}
	return len(list) >= 3 && len(list) <= 7
}

// shortLists returns all lists of at most 4 numbers from -1 to 5, and those of 5 numbers from -1 to 5 that begin with 0 or 4.
func shortLists() [][]int {
	lists := [][]int{nil}
	for i := 0; i < len(lists); i++ {
		list := lists[i]
		if len(list) == 5 || len(list) == 4 && list[0] != 0 && list[0] != 4 {
			continue
		}
		for x := -1; x <= 5; x++ {
			lists = append(lists, append(slices.Clone(list), x))
		}
	}
	return lists
}

func TestPointsMax(t *testing.T) {
	if impl.PointsMax != 7 {
		t.Errorf("PointsMax is %d", impl.PointsMax)
	}
}

func TestRingIn(t *testing.T) {
	everyRing(func(a []int) {
		if !impl.RingIn(a) {
			t.Fatalf("RingIn does not hold for %v", a)
		}
	})
	for _, a := range noRings() {
		if impl.RingIn(a) {
			t.Errorf("RingIn holds for %v", a)
		}
	}
	for _, n := range sizes {
		for _, list := range allTellings(n) {
			if impl.RingIn(list) != (list[0] == 0) {
				t.Fatalf("RingIn is wrong for %v", list)
			}
		}
	}
	for _, list := range shortLists() {
		if impl.RingIn(list) != (onlyPoints(list) && list[0] == 0) {
			t.Fatalf("RingIn is wrong for %v", list)
		}
	}
}

func TestRingOf(t *testing.T) {
	for _, n := range sizes {
		for _, list := range allTellings(n) {
			got, ok := impl.RingOf(list)
			wantList(t, got, ok, turned(list, 0), "RingOf", list)
		}
	}
	for _, list := range noTellings() {
		got, ok := impl.RingOf(list)
		wantNoList(t, got, ok, "RingOf", list)
	}
	for _, list := range shortLists() {
		got, ok := impl.RingOf(list)
		if onlyPoints(list) {
			wantList(t, got, ok, turned(list, 0), "RingOf", list)
		} else {
			wantNoList(t, got, ok, "RingOf", list)
		}
	}
	got, ok := impl.RingOf([]int{2, 0, 3, 1})
	wantList(t, got, ok, []int{0, 3, 1, 2}, "RingOf", []int{2, 0, 3, 1})
}

func TestRingBack(t *testing.T) {
	everyRing(func(a []int) {
		got, ok := impl.RingBack(a)
		wantList(t, got, ok, backwards(a), "RingBack", a)
	})
	for _, a := range noRings() {
		got, ok := impl.RingBack(a)
		wantNoList(t, got, ok, "RingBack", a)
	}
	got, ok := impl.RingBack([]int{0, 1, 2})
	wantList(t, got, ok, []int{0, 2, 1}, "RingBack", []int{0, 1, 2})
	got, ok = impl.RingBack([]int{0, 3, 1, 6, 2, 5, 4})
	wantList(t, got, ok, []int{0, 4, 5, 2, 6, 1, 3}, "RingBack", []int{0, 3, 1, 6, 2, 5, 4})
}

func TestRingCut(t *testing.T) {
	everyRing(func(a []int) {
		for x := range a {
			got, ok := impl.RingCut(a, x)
			wantList(t, got, ok, turned(a, x), "RingCut", a, x)
		}
		for _, x := range noPoints(len(a)) {
			got, ok := impl.RingCut(a, x)
			wantNoList(t, got, ok, "RingCut", a, x)
		}
	})
	for _, a := range noRings() {
		for x := -1; x <= 8; x++ {
			got, ok := impl.RingCut(a, x)
			wantNoList(t, got, ok, "RingCut", a, x)
		}
	}
	got, ok := impl.RingCut([]int{0, 2, 1, 3}, 1)
	wantList(t, got, ok, []int{1, 3, 0, 2}, "RingCut", []int{0, 2, 1, 3}, 1)
}

func TestRingNext(t *testing.T) {
	everyRing(func(a []int) {
		for i, x := range a {
			got, ok := impl.RingNext(a, x)
			wantNumber(t, got, ok, a[(i+1)%len(a)], "RingNext", a, x)
		}
		for _, x := range noPoints(len(a)) {
			got, ok := impl.RingNext(a, x)
			wantNoNumber(t, got, ok, "RingNext", a, x)
		}
	})
	for _, a := range noRings() {
		for x := -1; x <= 8; x++ {
			got, ok := impl.RingNext(a, x)
			wantNoNumber(t, got, ok, "RingNext", a, x)
		}
	}
}

func TestRingFrom(t *testing.T) {
	everyRing(func(a []int) {
		for x := range a {
			for y := range a {
				got, ok := impl.RingFrom(a, x, y)
				wantList(t, got, ok, walk(a, x, y), "RingFrom", a, x, y)
			}
			for _, y := range noPoints(len(a)) {
				got, ok := impl.RingFrom(a, x, y)
				wantNoList(t, got, ok, "RingFrom", a, x, y)
				got, ok = impl.RingFrom(a, y, x)
				wantNoList(t, got, ok, "RingFrom", a, y, x)
			}
		}
		for _, y := range noPoints(len(a)) {
			got, ok := impl.RingFrom(a, y, y)
			wantNoList(t, got, ok, "RingFrom", a, y, y)
		}
	})
	for _, a := range noRings() {
		for x := -1; x <= 8; x++ {
			for y := -1; y <= 8; y++ {
				got, ok := impl.RingFrom(a, x, y)
				wantNoList(t, got, ok, "RingFrom", a, x, y)
			}
		}
	}
	got, ok := impl.RingFrom([]int{0, 2, 1}, 1, 1)
	wantList(t, got, ok, []int{0, 2}, "RingFrom", []int{0, 2, 1}, 1, 1)
	got, ok = impl.RingFrom([]int{0, 2, 1}, 1, 0)
	wantList(t, got, ok, nil, "RingFrom", []int{0, 2, 1}, 1, 0)
	got, ok = impl.RingFrom([]int{0, 3, 1, 6, 2, 5, 4}, 5, 6)
	wantList(t, got, ok, []int{4, 0, 3, 1}, "RingFrom", []int{0, 3, 1, 6, 2, 5, 4}, 5, 6)
}

func TestRingSteps(t *testing.T) {
	everyRing(func(a []int) {
		for x := range a {
			for y := range a {
				want := 0
				if x != y {
					want = len(walk(a, x, y)) + 1
				}
				got, ok := impl.RingSteps(a, x, y)
				wantNumber(t, got, ok, want, "RingSteps", a, x, y)
			}
			for _, y := range noPoints(len(a)) {
				got, ok := impl.RingSteps(a, x, y)
				wantNoNumber(t, got, ok, "RingSteps", a, x, y)
				got, ok = impl.RingSteps(a, y, x)
				wantNoNumber(t, got, ok, "RingSteps", a, y, x)
			}
		}
		for _, y := range noPoints(len(a)) {
			got, ok := impl.RingSteps(a, y, y)
			wantNoNumber(t, got, ok, "RingSteps", a, y, y)
		}
	})
	for _, a := range noRings() {
		for x := -1; x <= 8; x++ {
			for y := -1; y <= 8; y++ {
				got, ok := impl.RingSteps(a, x, y)
				wantNoNumber(t, got, ok, "RingSteps", a, x, y)
			}
		}
	}
}

// renamed returns the ring in which each point of a ring is called by the number that p has at its place.
func renamed(a []int, p []int) []int {
	names := []int{}
	for _, x := range a {
		names = append(names, p[x])
	}
	return turned(names, 0)
}

func TestRingNamed(t *testing.T) {
	for _, n := range []int{3, 4, 5} {
		for _, a := range allRings(n) {
			for _, p := range allTellings(n) {
				got, ok := impl.RingNamed(a, p)
				wantList(t, got, ok, renamed(a, p), "RingNamed", a, p)
			}
		}
	}
	for _, n := range []int{6, 7} {
		lists := allTellings(n)
		for i, a := range allRings(n) {
			for j := i % 29; j < len(lists); j += 29 {
				got, ok := impl.RingNamed(a, lists[j])
				wantList(t, got, ok, renamed(a, lists[j]), "RingNamed", a, lists[j])
			}
		}
	}
	got, ok := impl.RingNamed([]int{0, 2, 1, 3}, []int{1, 3, 2, 0})
	wantList(t, got, ok, []int{0, 1, 2, 3}, "RingNamed", []int{0, 2, 1, 3}, []int{1, 3, 2, 0})
}

func TestRingNamedFails(t *testing.T) {
	wantNone := func(a []int, p []int) {
		t.Helper()
		got, ok := impl.RingNamed(a, p)
		wantNoList(t, got, ok, "RingNamed", a, p)
	}
	for _, n := range sizes {
		a := allRings(n)[0]
		for _, p := range noTellings() {
			wantNone(a, p)
		}
		for _, m := range sizes {
			if m != n {
				wantNone(a, allRings(m)[0])
			}
		}
		for _, no := range noRings() {
			wantNone(no, a)
		}
	}
	for _, no := range noRings() {
		wantNone(no, no)
	}
}

func TestRingNumber(t *testing.T) {
	for _, n := range sizes {
		for i, a := range allRings(n) {
			got, ok := impl.RingNumber(a)
			wantNumber(t, got, ok, i, "RingNumber", a)
		}
	}
	for _, a := range noRings() {
		got, ok := impl.RingNumber(a)
		wantNoNumber(t, got, ok, "RingNumber", a)
	}
	got, ok := impl.RingNumber([]int{0, 6, 5, 4, 3, 2, 1})
	wantNumber(t, got, ok, 719, "RingNumber", []int{0, 6, 5, 4, 3, 2, 1})
}

func TestRingBy(t *testing.T) {
	for _, n := range sizes {
		rings := allRings(n)
		for i, a := range rings {
			got, ok := impl.RingBy(n, i)
			wantList(t, got, ok, a, "RingBy", n, i)
		}
		for _, i := range []int{-1, -2, -len(rings), len(rings), len(rings) + 1, 2 * len(rings), 5040, math.MaxInt, math.MinInt, 1 << 32, -1 << 32} {
			got, ok := impl.RingBy(n, i)
			wantNoList(t, got, ok, "RingBy", n, i)
		}
	}
	for _, n := range noSizes {
		for _, i := range []int{-1, 0, 1, 2, math.MaxInt, math.MinInt} {
			got, ok := impl.RingBy(n, i)
			wantNoList(t, got, ok, "RingBy", n, i)
		}
	}
}

func TestRingCount(t *testing.T) {
	for i, want := range []int{2, 6, 24, 120, 720} {
		n := sizes[i]
		got, ok := impl.RingCount(n)
		wantNumber(t, got, ok, want, "RingCount", n)
		wantNumber(t, len(allRings(n)), true, want, "the number of rings", n)
	}
	for _, n := range noSizes {
		got, ok := impl.RingCount(n)
		wantNoNumber(t, got, ok, "RingCount", n)
	}
}

func TestRingDrop(t *testing.T) {
	everyRing(func(a []int) {
		got, ok := impl.RingDrop(a)
		if len(a) == 3 {
			wantNoList(t, got, ok, "RingDrop", a)
			return
		}
		want := slices.DeleteFunc(slices.Clone(a), func(x int) bool { return x == len(a)-1 })
		wantList(t, got, ok, want, "RingDrop", a)
	})
	for _, a := range noRings() {
		got, ok := impl.RingDrop(a)
		wantNoList(t, got, ok, "RingDrop", a)
	}
}

func TestRingPut(t *testing.T) {
	everyRing(func(a []int) {
		for i, x := range a {
			got, ok := impl.RingPut(a, x)
			if len(a) == impl.PointsMax {
				wantNoList(t, got, ok, "RingPut", a, x)
			} else {
				wantList(t, got, ok, slices.Insert(slices.Clone(a), i+1, len(a)), "RingPut", a, x)
			}
		}
		for _, x := range noPoints(len(a)) {
			got, ok := impl.RingPut(a, x)
			wantNoList(t, got, ok, "RingPut", a, x)
		}
	})
	for _, a := range noRings() {
		for x := -1; x <= 8; x++ {
			got, ok := impl.RingPut(a, x)
			wantNoList(t, got, ok, "RingPut", a, x)
		}
	}
}
