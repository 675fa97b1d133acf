package tests

import (
	"slices"
	"testing"

	"loop.example/ringorders/impl"
)

// The functions below tell again, in the plainest way, what chapter 4 says; the tests hold the program against them.

// firstRing returns the ring 0 1 2 and so on.
func firstRing(n int) []int {
	return allRings(n)[0]
}

// windingOf returns how often one comes to the point 0 when going along a ring from each point of another one to the next one.
// As one ends where one began, this is how often one goes round.
func windingOf(a []int, b []int) int {
	rounds := 0
	for i, x := range a {
		y := a[(i+1)%len(a)]
		if y == 0 || slices.Contains(walk(b, x, y), 0) {
			rounds++
		}
	}
	return rounds
}

// pathOf returns how many points one comes to along a ring from each point of another one to the next one.
func pathOf(a []int, b []int) []int {
	path := []int{}
	for i, x := range a {
		path = append(path, len(walk(b, x, a[(i+1)%len(a)]))+1)
	}
	return path
}

// fallsOf returns the number of places of a ring behind which, going round, a lesser number stands.
func fallsOf(a []int) int {
	falls := 0
	for i, x := range append(slices.Clone(a[1:]), a[0]) {
		if x < a[i] {
			falls++
		}
	}
	return falls
}

// windingCounts returns, as they are known, how many rings of n points have each winding by one ring.
func windingCounts(n int) []int {
	return [][]int{3: {0, 1, 1}, 4: {0, 1, 4, 1}, 5: {0, 1, 11, 11, 1}, 6: {0, 1, 26, 66, 26, 1}, 7: {0, 1, 57, 302, 302, 57, 1}}[n]
}

// everyTwoRings runs a check for each two rings of at most 6 points, and for many of 7: each one twice, with its way back, with the ring 0 1 2 and so on, and with others.
func everyTwoRings(check func(a, b []int)) {
	for _, n := range sizes {
		rings := allRings(n)
		step := 1
		if n == impl.PointsMax {
			step = 41
		}
		for i, a := range rings {
			check(a, a)
			check(a, backwards(a))
			check(a, rings[0])
			check(rings[0], a)
			for j := i % step; j < len(rings); j += step {
				check(a, rings[j])
			}
		}
	}
}

// everyNotBothRings runs a check for two lists of which one or both are no ring.
func everyNotBothRings(check func(a, b []int)) {
	for _, no := range noRings() {
		check(no, no)
		for _, n := range sizes {
			for _, a := range allRings(n)[:2] {
				check(a, no)
				check(no, a)
			}
		}
	}
}

// everyNoTwoRings runs a check for two lists of which one or both are no ring, or that are rings of unlike many points.
func everyNoTwoRings(check func(a, b []int)) {
	everyNotBothRings(check)
	for _, n := range sizes {
		for _, m := range sizes {
			if m != n {
				check(firstRing(n), firstRing(m))
				check(allRings(n)[1], backwards(firstRing(m)))
			}
		}
	}
}

// everyThreeRings runs a check for three rings of as many points: all of at most 4 points, and many others.
func everyThreeRings(check func(a, b, c []int)) {
	for _, n := range sizes {
		rings := allRings(n)
		step := 1 + len(rings)/9
		for i, a := range rings {
			check(a, a, a)
			check(a, a, backwards(a))
			check(a, backwards(a), a)
			check(a, rings[0], backwards(rings[0]))
			for j := i % step; j < len(rings); j += step {
				check(a, rings[j], rings[j])
				for k := (i + j) % step; k < len(rings); k += step {
					check(a, rings[j], rings[k])
				}
			}
		}
	}
}

// everyNoThreeRings runs a check for three lists of which one at least is no ring, or that are rings of unlike many points.
func everyNoThreeRings(check func(a, b, c []int)) {
	everyNoTwoRings(func(a, b []int) {
		check(a, b, b)
		check(a, a, b)
		check(a, b, a)
		check(b, a, a)
	})
}

func TestWindOf(t *testing.T) {
	everyTwoRings(func(a, b []int) {
		got, ok := impl.WindOf(a, b)
		wantNumber(t, got, ok, windingOf(a, b), "WindOf", a, b)
	})
	everyNoTwoRings(func(a, b []int) {
		got, ok := impl.WindOf(a, b)
		wantNoNumber(t, got, ok, "WindOf", a, b)
	})
}

func TestWindOfByHand(t *testing.T) {
	for _, c := range []struct {
		a, b []int
		want int
		path []int
	}{
		{[]int{0, 1, 2}, []int{0, 1, 2}, 1, []int{1, 1, 1}},
		{[]int{0, 2, 1}, []int{0, 1, 2}, 2, []int{2, 2, 2}},
		{[]int{0, 1, 2}, []int{0, 2, 1}, 2, []int{2, 2, 2}},
		{[]int{0, 2, 1, 3}, []int{0, 1, 2, 3}, 2, []int{2, 3, 2, 1}},
		{[]int{0, 1, 3, 2}, []int{0, 2, 1, 3}, 2, []int{2, 1, 2, 3}},
		{[]int{0, 2, 4, 1, 3}, []int{0, 1, 2, 3, 4}, 2, []int{2, 2, 2, 2, 2}},
		{[]int{0, 3, 1, 4, 2}, []int{0, 1, 2, 3, 4}, 3, []int{3, 3, 3, 3, 3}},
		{[]int{0, 1, 2, 3, 4}, []int{0, 2, 4, 1, 3}, 3, []int{3, 3, 3, 3, 3}},
		{[]int{0, 6, 5, 4, 3, 2, 1}, []int{0, 1, 2, 3, 4, 5, 6}, 6, []int{6, 6, 6, 6, 6, 6, 6}},
		{[]int{0, 4, 1, 5, 2, 6, 3}, []int{0, 1, 2, 3, 4, 5, 6}, 4, []int{4, 4, 4, 4, 4, 4, 4}},
		{[]int{0, 3, 1, 2, 4}, []int{0, 4, 1, 3, 2}, 3, []int{3, 4, 2, 2, 4}},
	} {
		got, ok := impl.WindOf(c.a, c.b)
		wantNumber(t, got, ok, c.want, "WindOf", c.a, c.b)
		path, ok := impl.WindPath(c.a, c.b)
		wantList(t, path, ok, c.path, "WindPath", c.a, c.b)
	}
}

// The same list is given twice, not just an equal one.
func TestWindSameRingTwice(t *testing.T) {
	everyRing(func(a []int) {
		turns, ok := impl.WindOf(a, a)
		wantNumber(t, turns, ok, 1, "WindOf", a, a)
		path, ok := impl.WindPath(a, a)
		wantList(t, path, ok, slices.Repeat([]int{1}, len(a)), "WindPath", a, a)
		for _, b := range [][]int{a, backwards(a), firstRing(len(a))} {
			turns, ok := impl.WindBetween(a, a, b)
			wantNumber(t, turns, ok, 1, "WindBetween", a, a, b)
			turns, ok = impl.WindBetween(a, b, a)
			wantNumber(t, turns, ok, 1, "WindBetween", a, b, a)
			turns, ok = impl.WindBetween(a, b, b)
			wantNumber(t, turns, ok, windingOf(a, b), "WindBetween", a, b, b)
		}
	})
}

// A ring gone round the other way takes all but one step from each point to the next one.
func TestWindOfWayBack(t *testing.T) {
	everyRing(func(a []int) {
		n, back := len(a), backwards(a)
		turns, ok := impl.WindOf(a, back)
		wantNumber(t, turns, ok, n-1, "WindOf", a, back)
		path, ok := impl.WindPath(a, back)
		wantList(t, path, ok, slices.Repeat([]int{n - 1}, n), "WindPath", a, back)
		turns, ok = impl.WindBetween(a, back, back)
		wantNumber(t, turns, ok, n-1, "WindBetween", a, back, back)
	})
}

func TestWindFalls(t *testing.T) {
	everyRing(func(a []int) {
		got, ok := impl.WindFalls(a)
		wantNumber(t, got, ok, fallsOf(a), "WindFalls", a)
	})
	for _, n := range sizes {
		got, ok := impl.WindFalls(firstRing(n))
		wantNumber(t, got, ok, 1, "WindFalls", firstRing(n))
		got, ok = impl.WindFalls(backwards(firstRing(n)))
		wantNumber(t, got, ok, n-1, "WindFalls", backwards(firstRing(n)))
	}
	got, ok := impl.WindFalls([]int{0, 2, 1, 4, 3, 6, 5})
	wantNumber(t, got, ok, 4, "WindFalls", []int{0, 2, 1, 4, 3, 6, 5})
	for _, no := range noRings() {
		got, ok := impl.WindFalls(no)
		wantNoNumber(t, got, ok, "WindFalls", no)
	}
}

func TestWindCountsAndSums(t *testing.T) {
	for _, n := range sizes {
		asked := make([]int, n)
		for _, a := range allRings(n) {
			asked[windingOf(a, firstRing(n))]++
		}
		wantList(t, windingCounts(n), true, asked, "the known counts", n)
		counts, ok := impl.WindCounts(n)
		wantList(t, counts, ok, asked, "WindCounts", n)
		sums, ok := impl.WindSums(n)
		wantList(t, sums, ok, asked, "WindSums", n)
	}
	for _, n := range noSizes {
		counts, ok := impl.WindCounts(n)
		wantNoList(t, counts, ok, "WindCounts", n)
		sums, ok := impl.WindSums(n)
		wantNoList(t, sums, ok, "WindSums", n)
	}
}

func TestWindPath(t *testing.T) {
	everyTwoRings(func(a, b []int) {
		got, ok := impl.WindPath(a, b)
		wantList(t, got, ok, pathOf(a, b), "WindPath", a, b)
	})
	everyNoTwoRings(func(a, b []int) {
		got, ok := impl.WindPath(a, b)
		wantNoList(t, got, ok, "WindPath", a, b)
	})
}

func TestWindBetween(t *testing.T) {
	everyThreeRings(func(a, b, c []int) {
		got, ok := impl.WindBetween(a, b, c)
		wantNumber(t, got, ok, min(windingOf(a, b), windingOf(a, c)), "WindBetween", a, b, c)
	})
	everyNoThreeRings(func(a, b, c []int) {
		got, ok := impl.WindBetween(a, b, c)
		wantNoNumber(t, got, ok, "WindBetween", a, b, c)
	})
	a, b, c := []int{0, 2, 4, 1, 3}, []int{0, 1, 2, 3, 4}, []int{0, 4, 3, 2, 1}
	got, ok := impl.WindBetween(a, b, c)
	wantNumber(t, got, ok, 2, "WindBetween", a, b, c)
	got, ok = impl.WindBetween(a, c, b)
	wantNumber(t, got, ok, 2, "WindBetween", a, c, b)
	got, ok = impl.WindBetween(a, c, c)
	wantNumber(t, got, ok, 3, "WindBetween", a, c, c)
	got, ok = impl.WindBetween(b, a, c)
	wantNumber(t, got, ok, 3, "WindBetween", b, a, c)
}

func TestWindMost(t *testing.T) {
	for _, n := range sizes {
		rings := allRings(n)
		for i := 0; i < len(rings); i += 1 + len(rings)/60 {
			for k := range n {
				got, ok := impl.WindMost(rings[i], k)
				wantNumber(t, got, ok, windingCounts(n)[k], "WindMost", rings[i], k)
			}
			// A k from 0 to n - 1 is just what a point is.
			for _, k := range noPoints(n) {
				got, ok := impl.WindMost(rings[i], k)
				wantNoNumber(t, got, ok, "WindMost", rings[i], k)
			}
		}
		// No ring has the winding 0, and only the way back the greatest one.
		none, ok := impl.WindMost(rings[n-2], 0)
		wantNumber(t, none, ok, 0, "WindMost", rings[n-2], 0)
		one, ok := impl.WindMost(rings[n-2], n-1)
		wantNumber(t, one, ok, 1, "WindMost", rings[n-2], n-1)
	}
	for _, no := range noRings() {
		for _, k := range append(noPoints(len(no)), 0, 1, 2, 3, 6, 7) {
			got, ok := impl.WindMost(no, k)
			wantNoNumber(t, got, ok, "WindMost", no, k)
		}
	}
}
