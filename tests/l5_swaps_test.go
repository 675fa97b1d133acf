package tests

import (
	"runtime"
	"slices"
	"testing"
	"time"

	"loop.example/ringorders/impl"
)

// The functions below tell again, in the plainest way, what chapter 5 says; the tests hold the program against them.

// swappedAt returns the ring in which a point and the one behind it are exchanged.
func swappedAt(a []int, x int) []int {
	list := turned(a, x)
	list[0], list[1] = list[1], list[0]
	return turned(list, 0)
}

// nearOf returns, in the order of lists, the rings that come by a swap at some point.
func nearOf(a []int) [][]int {
	return slices.DeleteFunc(allRings(len(a)), func(b []int) bool {
		return !slices.ContainsFunc(a, func(x int) bool { return slices.Equal(swappedAt(a, x), b) })
	})
}

// setsOfThree returns all sets of three of n points, each one ascending.
func setsOfThree(n int) [][]int {
	return threesOf(n, func(t []int) bool { return t[0] < t[1] && t[1] < t[2] })
}

// differOf returns the number of sets of three points that one goes round in one order on one ring, and in the other one on the other ring.
func differOf(a []int, b []int) int {
	count := 0
	for _, t := range setsOfThree(len(a)) {
		if has(a, t) && has(b, crossed(t)) || has(a, crossed(t)) && has(b, t) {
			count++
		}
	}
	return count
}

// placeOf returns the place of a ring among all rings of as many points, in the order of lists.
func placeOf(a []int) int {
	return slices.IndexFunc(knownRings[len(a)], func(b []int) bool { return slices.Equal(a, b) })
}

// knownFar has, at each number of points that is asked for distances, and at the places of two rings, their distance.
var knownFar = listFar()

// listFar returns the distances of all two rings of at most 6 points, by going from each one to each other one by way of each third one.
func listFar() [][][]int {
	known := make([][][]int, 7)
	for _, n := range askedSizes {
		rings := allRings(n)
		far := make([][]int, len(rings))
		for i, a := range rings {
			far[i] = slices.Repeat([]int{1000}, len(rings))
			for _, x := range a {
				far[i][placeOf(swappedAt(a, x))] = 1
			}
			far[i][i] = 0
		}
		for by := range far {
			for i := range far {
				for j := range far {
					far[i][j] = min(far[i][j], far[i][by]+far[by][j])
				}
			}
		}
		known[n] = far
	}
	return known
}

// farOf returns the distance of two rings of at most 6 points.
func farOf(a []int, b []int) int {
	return knownFar[len(a)][placeOf(a)][placeOf(b)]
}

// waysFrom returns, at the place of each ring, the first one of the shortest lists of points whose swaps lead to it from one ring.
// It goes through all lists, whether they come back or not: the shorter ones ahead, and those of one length in their order.
func waysFrom(a []int) [][]int {
	type trip struct{ ring, way []int }
	ways := make([][]int, len(allRings(len(a))))
	trips := []trip{{a, []int{}}}
	for left := len(ways); ; {
		for _, to := range trips {
			if i := placeOf(to.ring); ways[i] == nil {
				ways[i] = to.way
				left--
			}
		}
		if left == 0 {
			return ways
		}
		longer := []trip{}
		for _, to := range trips {
			for x := range len(a) {
				longer = append(longer, trip{swappedAt(to.ring, x), append(slices.Clone(to.way), x)})
			}
		}
		trips = longer
	}
}

// middlesOf returns the rings, in the order of lists, for which the sum of the distances from three rings is least, and this sum.
func middlesOf(a []int, b []int, c []int) ([][]int, int) {
	least, middles := 1000, [][]int(nil)
	for _, m := range allRings(len(a)) {
		sum := farOf(a, m) + farOf(b, m) + farOf(c, m)
		if sum < least {
			least, middles = sum, nil
		}
		if sum == least {
			middles = append(middles, m)
		}
	}
	return middles, least
}

// swapCounts returns, as they are known, how many rings of n points have each distance from one ring.
func swapCounts(n int) []int {
	return [][]int{3: {1, 1}, 4: {1, 4, 1}, 5: {1, 5, 10, 7, 1}, 6: {1, 6, 21, 44, 41, 6, 1}}[n]
}

// everyTwoAsked runs a check for each two rings of at most 5 points, and for many of 6: each one twice, with its way back, and with others.
func everyTwoAsked(check func(a, b []int)) {
	for _, n := range askedSizes {
		rings := allRings(n)
		step := 1
		if n == 6 {
			step = 11
		}
		for i, a := range rings {
			check(a, a)
			check(a, backwards(a))
			for j := i % step; j < len(rings); j += step {
				check(a, rings[j])
			}
		}
	}
}

// everyNoTwoAsked runs a check for two rings of 7 points, and for what are not two rings of as many points.
func everyNoTwoAsked(check func(a, b []int)) {
	rings := allRings(7)
	for i := 0; i < len(rings); i += 17 {
		check(rings[i], rings[i])
		check(rings[i], backwards(rings[i]))
		check(rings[i], rings[len(rings)-1-i])
		check(rings[i], firstRing(6))
		check(firstRing(6), rings[i])
	}
	everyNoTwoRings(check)
}

// everyThreeAsked runs a check for many three rings of at most 6 points.
func everyThreeAsked(check func(a, b, c []int)) {
	everyThreeRings(func(a, b, c []int) {
		if len(a) <= 6 {
			check(a, b, c)
		}
	})
}

// everyNoThreeAsked runs a check for three rings of 7 points, and for what are not three rings of as many points.
func everyNoThreeAsked(check func(a, b, c []int)) {
	everyNoTwoAsked(func(a, b []int) {
		check(a, a, b)
		check(a, b, a)
		check(b, a, a)
		check(a, b, b)
	})
}

// wantMiddle fails the test if SwapMiddle is not as it must be.
func wantMiddle(t *testing.T, a, b, c []int, middle []int, sum int) {
	t.Helper()
	got, gotSum, ok := impl.SwapMiddle(a, b, c)
	if !ok || !slices.Equal(got, middle) || gotSum != sum {
		t.Fatalf("SwapMiddle of %v, %v, %v returned %v, %v, %v; want %v, %v, true", a, b, c, got, gotSum, ok, middle, sum)
	}
}

// wantNoMiddle fails the test if SwapMiddle did not return zero values and false.
func wantNoMiddle(t *testing.T, a, b, c []int) {
	t.Helper()
	got, sum, ok := impl.SwapMiddle(a, b, c)
	if ok || len(got) != 0 || sum != 0 {
		t.Fatalf("SwapMiddle of %v, %v, %v returned %v, %v, %v; want an empty list, 0, false", a, b, c, got, sum, ok)
	}
}

func TestSwapAt(t *testing.T) {
	everyRing(func(a []int) {
		for _, x := range a {
			got, ok := impl.SwapAt(a, x)
			wantList(t, got, ok, swappedAt(a, x), "SwapAt", a, x)
		}
		for _, x := range noPoints(len(a)) {
			got, ok := impl.SwapAt(a, x)
			wantNoList(t, got, ok, "SwapAt", a, x)
		}
	})
	for _, no := range noRings() {
		for _, x := range append(noPoints(len(no)), 0, 1, 2, 3, 6) {
			got, ok := impl.SwapAt(no, x)
			wantNoList(t, got, ok, "SwapAt", no, x)
		}
	}
}

func TestSwapAtByHand(t *testing.T) {
	for _, c := range []struct {
		a    []int
		x    int
		want []int
	}{
		{[]int{0, 1, 2}, 0, []int{0, 2, 1}},
		{[]int{0, 1, 2}, 1, []int{0, 2, 1}},
		{[]int{0, 1, 2}, 2, []int{0, 2, 1}},
		{[]int{0, 2, 1}, 1, []int{0, 1, 2}},
		{[]int{0, 1, 2, 3}, 0, []int{0, 2, 3, 1}},
		{[]int{0, 1, 2, 3}, 1, []int{0, 2, 1, 3}},
		{[]int{0, 1, 2, 3}, 2, []int{0, 1, 3, 2}},
		{[]int{0, 1, 2, 3}, 3, []int{0, 3, 1, 2}},
		{[]int{0, 3, 1, 4, 2}, 2, []int{0, 2, 3, 1, 4}},
		{[]int{0, 1, 2, 3, 4, 5, 6}, 0, []int{0, 2, 3, 4, 5, 6, 1}},
		{[]int{0, 1, 2, 3, 4, 5, 6}, 3, []int{0, 1, 2, 4, 3, 5, 6}},
		{[]int{0, 1, 2, 3, 4, 5, 6}, 6, []int{0, 6, 1, 2, 3, 4, 5}},
	} {
		got, ok := impl.SwapAt(c.a, c.x)
		wantList(t, got, ok, c.want, "SwapAt", c.a, c.x)
	}
}

func TestSwapNear(t *testing.T) {
	everyRing(func(a []int) {
		got, ok := impl.SwapNear(a)
		wantLists(t, got, ok, nearOf(a), "SwapNear", a)
	})
	for _, no := range noRings() {
		got, ok := impl.SwapNear(no)
		wantNoLists(t, got, ok, "SwapNear", no)
	}
	got, ok := impl.SwapNear([]int{0, 1, 2})
	wantLists(t, got, ok, [][]int{{0, 2, 1}}, "SwapNear", 0, 1, 2)
	got, ok = impl.SwapNear([]int{0, 2, 1})
	wantLists(t, got, ok, [][]int{{0, 1, 2}}, "SwapNear", 0, 2, 1)
	got, ok = impl.SwapNear([]int{0, 1, 2, 3})
	wantLists(t, got, ok, [][]int{{0, 1, 3, 2}, {0, 2, 1, 3}, {0, 2, 3, 1}, {0, 3, 1, 2}}, "SwapNear", 0, 1, 2, 3)
}

func TestSwapDiffer(t *testing.T) {
	everyTwoRings(func(a, b []int) {
		got, ok := impl.SwapDiffer(a, b)
		wantNumber(t, got, ok, differOf(a, b), "SwapDiffer", a, b)
	})
	everyNoTwoRings(func(a, b []int) {
		got, ok := impl.SwapDiffer(a, b)
		wantNoNumber(t, got, ok, "SwapDiffer", a, b)
	})
	for _, c := range []struct {
		a, b []int
		want int
	}{
		{[]int{0, 1, 2}, []int{0, 1, 2}, 0},
		{[]int{0, 1, 2}, []int{0, 2, 1}, 1},
		{[]int{0, 1, 2, 3}, []int{0, 2, 1, 3}, 2},
		{[]int{0, 1, 2, 3}, []int{0, 3, 2, 1}, 4},
		{[]int{0, 1, 2, 3, 4, 5, 6}, []int{0, 6, 5, 4, 3, 2, 1}, 35},
		{[]int{0, 1, 2, 3, 4, 5, 6}, []int{0, 6, 1, 2, 3, 4, 5}, 5},
	} {
		got, ok := impl.SwapDiffer(c.a, c.b)
		wantNumber(t, got, ok, c.want, "SwapDiffer", c.a, c.b)
	}
}

func TestSwapFar(t *testing.T) {
	for _, n := range askedSizes {
		for _, a := range allRings(n) {
			for _, b := range allRings(n) {
				got, ok := impl.SwapFar(a, b)
				wantNumber(t, got, ok, farOf(a, b), "SwapFar", a, b)
			}
		}
	}
	everyNoTwoAsked(func(a, b []int) {
		got, ok := impl.SwapFar(a, b)
		wantNoNumber(t, got, ok, "SwapFar", a, b)
	})
}

// The ring gone round the other way is the furthest one: two halves of the points are turned, each one by swaps of its own.
func TestSwapFarthest(t *testing.T) {
	greatest := []int{3: 1, 4: 2, 5: 4, 6: 6}
	askedRings(func(a []int) {
		want := greatest[len(a)]
		far, ok := impl.SwapFar(a, backwards(a))
		wantNumber(t, far, ok, want, "SwapFar", a, backwards(a))
		back, ok := impl.SwapBack(a)
		wantNumber(t, back, ok, want, "SwapBack", a)
		way, ok := impl.SwapWay(a, backwards(a))
		wantNumber(t, len(way), ok, want, "the length of SwapWay", a, backwards(a))
	})
	for _, no := range append(noRings(), allRings(7)...) {
		back, ok := impl.SwapBack(no)
		wantNoNumber(t, back, ok, "SwapBack", no)
	}
}

func TestSwapWay(t *testing.T) {
	for _, n := range askedSizes {
		rings := allRings(n)
		for i := 0; i < len(rings); i += 1 + len(rings)/30 {
			for j, want := range waysFrom(rings[i]) {
				got, ok := impl.SwapWay(rings[i], rings[j])
				wantList(t, got, ok, want, "SwapWay", rings[i], rings[j])
			}
		}
	}
	everyNoTwoAsked(func(a, b []int) {
		got, ok := impl.SwapWay(a, b)
		wantNoList(t, got, ok, "SwapWay", a, b)
	})
}

func TestSwapWayByHand(t *testing.T) {
	for _, c := range []struct {
		a, b, want []int
	}{
		{[]int{0, 1, 2}, []int{0, 1, 2}, nil},
		{[]int{0, 1, 2}, []int{0, 2, 1}, []int{0}}, // by 1 and by 2 as well
		{[]int{0, 2, 1}, []int{0, 1, 2}, []int{0}},
		{[]int{0, 1, 2, 3}, []int{0, 1, 2, 3}, nil},
		{[]int{0, 1, 2, 3}, []int{0, 3, 1, 2}, []int{3}},
		{[]int{0, 1, 2, 3}, []int{0, 3, 2, 1}, []int{0, 2}}, // by 1 and 3 as well, and by these exchanged
		{[]int{0, 1, 2, 3, 4}, []int{0, 2, 1, 4, 3}, []int{1, 3}},
		{[]int{0, 1, 2, 3, 4}, []int{0, 2, 3, 1, 4}, []int{0, 4}}, // by 1 and 1 as well: past 2 and 3, or past 0 and 4
		{[]int{0, 1, 2, 3, 4, 5}, []int{0, 1, 2, 3, 4, 5}, nil},
	} {
		got, ok := impl.SwapWay(c.a, c.b)
		wantList(t, got, ok, c.want, "SwapWay", c.a, c.b)
	}
}

func TestSwapCounts(t *testing.T) {
	for _, n := range askedSizes {
		want := swapCounts(n)
		asked := make([]int, len(want))
		for _, a := range allRings(n) {
			asked[farOf(firstRing(n), a)]++
		}
		wantList(t, want, true, asked, "the known counts", n)
		got, ok := impl.SwapCounts(n)
		wantList(t, got, ok, want, "SwapCounts", n)
	}
	for _, n := range notAskedSizes() {
		got, ok := impl.SwapCounts(n)
		wantNoList(t, got, ok, "SwapCounts", n)
	}
}

func TestSwapMiddle(t *testing.T) {
	several := 0
	everyThreeAsked(func(a, b, c []int) {
		middles, sum := middlesOf(a, b, c)
		wantMiddle(t, a, b, c, middles[0], sum)
		if len(middles) > 1 {
			several++
		}
	})
	if several < 1000 {
		t.Errorf("only %d three rings have several middles", several)
	}
	everyNoThreeAsked(func(a, b, c []int) {
		wantNoMiddle(t, a, b, c)
	})
}

func TestSwapMiddleByHand(t *testing.T) {
	three, back := []int{0, 1, 2}, []int{0, 2, 1}
	wantMiddle(t, three, three, three, three, 0)
	wantMiddle(t, back, three, three, three, 1)
	wantMiddle(t, back, three, back, back, 1)
	// The first one of these is one swap from both others.
	near := [][]int{{0, 1, 3, 2}, {0, 2, 1, 3}, {0, 3, 1, 2}}
	wantMiddle(t, near[0], near[1], near[2], near[0], 2)
	wantMiddle(t, near[2], near[1], near[0], near[0], 2)
	// Each one of these is, so that each one is a middle.
	all := [][]int{{0, 1, 2, 3}, {0, 1, 3, 2}, {0, 2, 1, 3}}
	wantMiddle(t, all[0], all[1], all[2], all[0], 2)
	wantMiddle(t, all[2], all[1], all[0], all[0], 2)
	// Both 0 1 2 3 4 and 0 3 1 2 4 are one swap from the first one and the third one of these, and two from the second one.
	wantMiddle(t, []int{0, 1, 2, 4, 3}, []int{0, 3, 4, 1, 2}, []int{0, 1, 3, 2, 4}, []int{0, 1, 2, 3, 4}, 4)
}

// The same list is given twice, not just an equal one.
func TestSwapSameRingTwice(t *testing.T) {
	everyRing(func(a []int) {
		differ, ok := impl.SwapDiffer(a, a)
		wantNumber(t, differ, ok, 0, "SwapDiffer", a, a)
	})
	askedRings(func(a []int) {
		far, ok := impl.SwapFar(a, a)
		wantNumber(t, far, ok, 0, "SwapFar", a, a)
		way, ok := impl.SwapWay(a, a)
		wantList(t, way, ok, nil, "SwapWay", a, a)
		wantMiddle(t, a, a, a, a, 0)
		back := backwards(a)
		wantMiddle(t, a, a, back, a, farOf(a, back))
		wantMiddle(t, a, back, a, a, farOf(a, back))
		wantMiddle(t, back, a, a, a, farOf(a, back))
	})
}

// On three points each swap leads to the only other ring.
func TestSwapsOfThreePoints(t *testing.T) {
	for _, a := range allRings(3) {
		other := backwards(a)
		for x := range 3 {
			got, ok := impl.SwapAt(a, x)
			wantList(t, got, ok, other, "SwapAt", a, x)
		}
		near, ok := impl.SwapNear(a)
		wantLists(t, near, ok, [][]int{other}, "SwapNear", a)
		for _, b := range allRings(3) {
			want := 1
			if slices.Equal(a, b) {
				want = 0
			}
			differ, ok := impl.SwapDiffer(a, b)
			wantNumber(t, differ, ok, want, "SwapDiffer", a, b)
			far, ok := impl.SwapFar(a, b)
			wantNumber(t, far, ok, want, "SwapFar", a, b)
			way, ok := impl.SwapWay(a, b)
			wantList(t, way, ok, make([]int, want), "SwapWay", a, b)
			wantMiddle(t, a, b, a, a, want)
		}
		back, ok := impl.SwapBack(a)
		wantNumber(t, back, ok, 1, "SwapBack", a)
	}
	counts, ok := impl.SwapCounts(3)
	wantList(t, counts, ok, []int{1, 1}, "SwapCounts", 3)
}

// All goroutines of a call have been joined when it returns, so that at most their last steps are left.
func TestSwapsLeaveNoGoroutines(t *testing.T) {
	before := runtime.NumGoroutine()
	askedRings(func(a []int) {
		impl.SwapFar(a, backwards(a))
		impl.SwapWay(a, backwards(a))
		impl.SwapBack(a)
		impl.SwapCounts(len(a))
		impl.SwapMiddle(a, a, backwards(a))
	})
	for range 5000 {
		if runtime.NumGoroutine() <= before {
			return
		}
		time.Sleep(time.Millisecond)
	}
	t.Errorf("there were %d goroutines, and then %d", before, runtime.NumGoroutine())
}
