package tests

import (
	"math"
	"slices"
	"testing"

	"loop.example/ringorders/impl"
)

// The functions below tell again, in the plainest way, what chapter 8 says; the tests hold the program against them.

// patternOf returns the pattern that a ring has at a set that is not empty: its points, each one called by its place among them all in their order.
func patternOf(a []int, set int) []int {
	points := pointsOf(set)
	called := []int{}
	for _, x := range a {
		if place := slices.Index(points, x); place >= 0 {
			called = append(called, place)
		}
	}
	return turned(called, 0)
}

// knownPatterns has, at each number of points, at the place of each ring and at each set of three points at least, the pattern that the ring has there.
var knownPatterns = listPatterns()

// listPatterns returns the patterns of all rings at all sets, and none at sets of fewer than three points.
func listPatterns() [][][][]int {
	patterns := make([][][][]int, 8)
	for _, n := range sizes {
		for _, a := range allRings(n) {
			at := make([][]int, 1<<n)
			for set := range at {
				if len(pointsOf(set)) >= 3 {
					at[set] = patternOf(a, set)
				}
			}
			patterns[n] = append(patterns[n], at)
		}
	}
	return patterns
}

// setsHaving returns, in ascending order, the sets at which a ring has a pattern.
func setsHaving(a []int, p []int) []int {
	sets := []int{}
	for set, pattern := range knownPatterns[len(a)][placeOf(a)] {
		if slices.Equal(pattern, p) {
			sets = append(sets, set)
		}
	}
	return sets
}

// keyOf returns a list of at most 7 points as an array, which a map can have as a key.
func keyOf(p []int) [8]int {
	key := [8]int{7: len(p)}
	copy(key[:], p)
	return key
}

// ringsHaving returns, for each pattern, how many rings of n points have it at some set.
func ringsHaving(n int) map[[8]int]int {
	many := map[[8]int]int{}
	for _, at := range knownPatterns[n] {
		found := map[[8]int]bool{}
		for _, pattern := range at {
			if pattern != nil {
				found[keyOf(pattern)] = true
			}
		}
		for key := range found {
			many[key]++
		}
	}
	return many
}

// setsOfSize returns, in ascending order, all sets of so many of n points.
func setsOfSize(n int, size int) []int {
	sets := []int{}
	for set := range 1 << n {
		if len(pointsOf(set)) == size {
			sets = append(sets, set)
		}
	}
	return sets
}

// everyPattern runs a check for rings with patterns of no more points.
// It takes all rings of at most 6 points with all such patterns, and those of 7 with all patterns of at most 4, with some of more, with the ring itself and with its way back.
func everyPattern(check func(a, p []int)) {
	for _, n := range sizes {
		for i, a := range allRings(n) {
			for m := 3; m <= n; m++ {
				patterns := allRings(m)
				step := 1
				if n == impl.PointsMax && m > 4 {
					step = len(patterns)/6 + 1
				}
				for j := i % step; j < len(patterns); j += step {
					check(a, patterns[j])
				}
			}
			check(a, a)
			check(a, backwards(a))
		}
	}
}

// everyNoPattern runs a check for two lists of which one or both are no ring, or of which the second one is a ring of more points.
func everyNoPattern(check func(a, p []int)) {
	everyNotBothRings(check)
	for _, n := range sizes {
		for _, a := range allRings(n) {
			for m := n + 1; m <= impl.PointsMax; m++ {
				check(a, firstRing(m))
				check(a, allRings(m)[m-2])
				check(a, backwards(firstRing(m)))
			}
		}
	}
}

// everyFour runs a check for all patterns of four points.
func everyFour(check func(p []int)) {
	for _, p := range allRings(4) {
		check(p)
	}
}

// everyNoFour runs a check for numbers of points and patterns of which one or both are not as PatternSum asks for.
func everyNoFour(check func(n int, p []int)) {
	for _, n := range slices.Concat(sizes, noSizes) {
		for _, p := range noRings() {
			check(n, p)
		}
		for _, m := range []int{3, 5, 6, 7} {
			for _, p := range allRings(m) {
				check(n, p)
			}
		}
	}
	for _, n := range noSizes {
		everyFour(func(p []int) { check(n, p) })
	}
}

func TestPatternAt(t *testing.T) {
	everyPattern(func(a, p []int) {
		having := setsHaving(a, p)
		for set := range 1 << len(a) {
			wantBool(t, impl.PatternAt(a, p, set), slices.Contains(having, set), "PatternAt", a, p, set)
		}
	})
	everySetOf(func(a []int, set int) {
		if p := knownPatterns[len(a)][placeOf(a)][set]; p != nil {
			wantBool(t, impl.PatternAt(a, p, set), true, "PatternAt", a, p, set)
			wantBool(t, impl.PatternAt(a, backwards(p), set), false, "PatternAt", a, backwards(p), set)
		}
	})
	everyNoPattern(func(a, p []int) {
		for _, set := range []int{0, 1, 3, 7, 11, 15, 31, 63, 127, 255, -1, math.MinInt, math.MaxInt} {
			wantBool(t, impl.PatternAt(a, p, set), false, "PatternAt", a, p, set)
		}
	})
}

// wantNoSet fails the test if a ring has a pattern at a number that is no set of its points, or at one of too few of them.
func wantNoSet(t *testing.T, a []int, p []int, no int) {
	t.Helper()
	wantBool(t, impl.PatternAt(a, p, no), false, "PatternAt", a, p, no)
	got, ok := impl.PatternOf(a, no)
	wantNoList(t, got, ok, "PatternOf", a, no)
}

// A number with a bit for no point is no set, even if the ring has the pattern at the points that its other bits tell.
func TestPatternsAtNoSet(t *testing.T) {
	everySetOf(func(a []int, set int) {
		p := knownPatterns[len(a)][placeOf(a)][set]
		if p == nil {
			p = firstRing(3)
			wantNoSet(t, a, p, set)
		}
		for _, bit := range []int{1 << len(a), 1 << 32, math.MinInt} {
			wantNoSet(t, a, p, set|bit)
		}
	})
	everyRing(func(a []int) {
		// Numbers with no point at all may still have as many bits as the pattern has points.
		for _, no := range append(noSets(len(a)), 7<<len(a), (1<<len(a)-1)<<len(a), 7<<60) {
			wantNoSet(t, a, a, no)
			wantNoSet(t, a, firstRing(3), no)
		}
	})
}

func TestPatternManyFirstAndBack(t *testing.T) {
	none := 0
	everyPattern(func(a, p []int) {
		having := setsHaving(a, p)
		many, ok := impl.PatternMany(a, p)
		wantNumber(t, many, ok, len(having), "PatternMany", a, p)
		back, ok := impl.PatternBack(a, p)
		wantNumber(t, back, ok, len(setsHaving(a, backwards(p))), "PatternBack", a, p)
		first, ok := impl.PatternFirst(a, p)
		if len(having) == 0 {
			none++
			wantNoNumber(t, first, ok, "PatternFirst", a, p)
		} else {
			wantNumber(t, first, ok, having[0], "PatternFirst", a, p)
		}
	})
	if none < 1000 {
		t.Errorf("only %d patterns are had at no set", none)
	}
	everyNoPattern(func(a, p []int) {
		many, ok := impl.PatternMany(a, p)
		wantNoNumber(t, many, ok, "PatternMany", a, p)
		back, ok := impl.PatternBack(a, p)
		wantNoNumber(t, back, ok, "PatternBack", a, p)
		first, ok := impl.PatternFirst(a, p)
		wantNoNumber(t, first, ok, "PatternFirst", a, p)
	})
}

func TestPatternManyAndFirstByHand(t *testing.T) {
	for _, c := range []struct {
		a, p        []int
		many, first int
	}{
		{[]int{0, 1, 2}, []int{0, 1, 2}, 1, 7},
		{[]int{0, 1, 2}, []int{0, 2, 1}, 0, 0},
		{[]int{0, 1, 2, 3}, []int{0, 1, 2}, 4, 7},
		{[]int{0, 1, 2, 3}, []int{0, 2, 1}, 0, 0},
		{[]int{0, 1, 2, 3}, []int{0, 1, 2, 3}, 1, 15},
		{[]int{0, 1, 2, 3}, []int{0, 1, 3, 2}, 0, 0},
		{[]int{0, 1, 3, 2}, []int{0, 1, 2}, 2, 7},
		{[]int{0, 1, 3, 2}, []int{0, 2, 1}, 2, 13},
		{[]int{0, 1, 2, 3, 4}, []int{0, 1, 2, 3}, 5, 15},
		// Half of the threes of this ring go up.
		{[]int{0, 2, 4, 1, 3}, []int{0, 1, 2}, 5, 11},
		{[]int{0, 2, 4, 1, 3}, []int{0, 2, 1}, 5, 7},
		{[]int{0, 2, 4, 1, 3}, []int{0, 1, 2, 3}, 0, 0},
		{[]int{0, 2, 4, 1, 3}, []int{0, 2, 1, 3}, 2, 15},
		{[]int{0, 2, 4, 1, 3}, []int{0, 2, 3, 1}, 1, 23},
		{[]int{0, 2, 4, 1, 3}, []int{0, 3, 1, 2}, 1, 27},
		{[]int{0, 2, 4, 1, 3}, []int{0, 1, 3, 2}, 1, 29},
		{[]int{0, 2, 4, 1, 3}, []int{0, 2, 4, 1, 3}, 1, 31},
		{[]int{0, 1, 2, 3, 4, 5, 6}, []int{0, 1, 2, 3, 4, 5}, 7, 63},
		{[]int{0, 1, 2, 3, 4, 5, 6}, []int{0, 1, 2}, 35, 7},
		// Without the least or the greatest point it goes up, and without another one it goes as it did.
		{[]int{0, 6, 1, 2, 3, 4, 5}, []int{0, 5, 1, 2, 3, 4}, 5, 95},
		{[]int{0, 6, 1, 2, 3, 4, 5}, []int{0, 1, 2, 3, 4, 5}, 2, 63},
	} {
		many, ok := impl.PatternMany(c.a, c.p)
		wantNumber(t, many, ok, c.many, "PatternMany", c.a, c.p)
		back, ok := impl.PatternBack(c.a, backwards(c.p))
		wantNumber(t, back, ok, c.many, "PatternBack", c.a, backwards(c.p))
		first, ok := impl.PatternFirst(c.a, c.p)
		if c.many == 0 {
			wantNoNumber(t, first, ok, "PatternFirst", c.a, c.p)
		} else {
			wantNumber(t, first, ok, c.first, "PatternFirst", c.a, c.p)
			wantBool(t, impl.PatternAt(c.a, c.p, c.first), true, "PatternAt", c.a, c.p, c.first)
		}
	}
}

func TestPatternOf(t *testing.T) {
	everySetOf(func(a []int, set int) {
		got, ok := impl.PatternOf(a, set)
		if want := knownPatterns[len(a)][placeOf(a)][set]; want != nil {
			wantList(t, got, ok, want, "PatternOf", a, set)
		} else {
			wantNoList(t, got, ok, "PatternOf", a, set)
		}
	})
	everyRing(func(a []int) {
		got, ok := impl.PatternOf(a, 1<<len(a)-1)
		wantList(t, got, ok, a, "PatternOf of all points", a)
	})
	everyNoSetOf(func(a []int, set int) {
		got, ok := impl.PatternOf(a, set)
		wantNoList(t, got, ok, "PatternOf", a, set)
	})
}

func TestPatternOfByHand(t *testing.T) {
	for _, c := range []struct {
		a, points []int
		want      []int
	}{
		{[]int{0, 1, 2}, []int{0, 1, 2}, []int{0, 1, 2}},
		{[]int{0, 2, 1}, []int{0, 1, 2}, []int{0, 2, 1}},
		{[]int{0, 2, 1, 3}, []int{1, 2, 3}, []int{0, 2, 1}},
		{[]int{0, 2, 1, 3}, []int{0, 2, 3}, []int{0, 1, 2}},
		{[]int{0, 2, 4, 1, 3}, []int{1, 2, 3, 4}, []int{0, 2, 1, 3}},
		{[]int{0, 2, 4, 1, 3}, []int{1, 2, 4}, []int{0, 1, 2}},
		{[]int{0, 3, 1, 6, 2, 5, 4}, []int{2, 3, 5, 6}, []int{0, 2, 1, 3}},
		{[]int{0, 3, 1, 6, 2, 5, 4}, []int{1, 2, 3, 4, 6}, []int{0, 4, 1, 3, 2}},
		{[]int{0, 3, 1, 6, 2, 5, 4}, []int{4, 5, 6}, []int{0, 2, 1}},
	} {
		got, ok := impl.PatternOf(c.a, setWith(c.points))
		wantList(t, got, ok, c.want, "PatternOf", c.a, c.points)
	}
}

func TestPatternFree(t *testing.T) {
	for _, n := range sizes {
		having := ringsHaving(n)
		for _, m := range sizes {
			for _, p := range allRings(m) {
				free, ok := impl.PatternFree(n, p)
				wantNumber(t, free, ok, len(allRings(n))-having[keyOf(p)], "PatternFree", n, p)
			}
		}
		for _, no := range noRings() {
			free, ok := impl.PatternFree(n, no)
			wantNoNumber(t, free, ok, "PatternFree", n, no)
		}
	}
	for _, n := range noSizes {
		for _, p := range slices.Concat(noRings(), allRings(3), allRings(4), allRings(7)[:3]) {
			free, ok := impl.PatternFree(n, p)
			wantNoNumber(t, free, ok, "PatternFree", n, p)
		}
	}
}

func TestPatternFreeByHand(t *testing.T) {
	for _, c := range []struct {
		n    int
		p    []int
		free int
	}{
		// Only the ring gone round the other way has no three points that come as the pattern does.
		{3, []int{0, 1, 2}, 1},
		{4, []int{0, 2, 1}, 1},
		{7, []int{0, 1, 2}, 1},
		{7, []int{0, 2, 1}, 1},
		// A pattern of more points is had by none, and one of as many only by itself.
		{3, []int{0, 2, 1, 3}, 2},
		{3, []int{0, 1, 2, 3, 4, 5, 6}, 2},
		{4, []int{0, 3, 1, 4, 2}, 6},
		{6, []int{0, 6, 5, 4, 3, 2, 1}, 120},
		{4, []int{0, 2, 1, 3}, 5},
		{5, []int{0, 3, 1, 4, 2}, 23},
		{7, []int{0, 3, 1, 6, 2, 5, 4}, 719},
	} {
		free, ok := impl.PatternFree(c.n, c.p)
		wantNumber(t, free, ok, c.free, "PatternFree", c.n, c.p)
	}
}

func TestPatternSum(t *testing.T) {
	for n, sums := range map[int][]int{
		3: {2, 2, 2, 2, 2, 2},
		4: {5, 5, 5, 5, 5, 5},
		5: {13, 12, 13, 12, 13, 13},
		6: {33, 27, 34, 27, 34, 33},
		7: {80, 58, 89, 58, 89, 80},
	} {
		for i, p := range allRings(4) {
			sum, ok := impl.PatternSum(n, p)
			wantNumber(t, sum, ok, sums[i], "PatternSum", n, p)
			free, ok := impl.PatternFree(n, p)
			wantNumber(t, free, ok, sums[i], "PatternFree", n, p)
		}
	}
	everyNoFour(func(n int, p []int) {
		sum, ok := impl.PatternSum(n, p)
		wantNoNumber(t, sum, ok, "PatternSum", n, p)
	})
}

func TestPatternAll(t *testing.T) {
	partedRings(func(a []int) {
		want := []int{}
		everyFour(func(p []int) { want = append(want, len(setsHaving(a, p))) })
		got, ok := impl.PatternAll(a)
		wantList(t, got, ok, want, "PatternAll", a)
	})
	for _, no := range append(allRings(3), noRings()...) {
		got, ok := impl.PatternAll(no)
		wantNoList(t, got, ok, "PatternAll", no)
	}
}

func TestPatternAllByHand(t *testing.T) {
	for _, c := range []struct{ a, want []int }{
		{[]int{0, 1, 2, 3}, []int{1, 0, 0, 0, 0, 0}},
		{[]int{0, 1, 3, 2}, []int{0, 1, 0, 0, 0, 0}},
		{[]int{0, 2, 1, 3}, []int{0, 0, 1, 0, 0, 0}},
		{[]int{0, 2, 3, 1}, []int{0, 0, 0, 1, 0, 0}},
		{[]int{0, 3, 1, 2}, []int{0, 0, 0, 0, 1, 0}},
		{[]int{0, 3, 2, 1}, []int{0, 0, 0, 0, 0, 1}},
		{[]int{0, 2, 4, 1, 3}, []int{0, 1, 2, 1, 1, 0}},
		{[]int{0, 3, 1, 4, 2}, []int{0, 1, 1, 1, 2, 0}},
		{[]int{0, 1, 2, 3, 4, 5, 6}, []int{35, 0, 0, 0, 0, 0}},
		{[]int{0, 6, 5, 4, 3, 2, 1}, []int{0, 0, 0, 0, 0, 35}},
	} {
		got, ok := impl.PatternAll(c.a)
		wantList(t, got, ok, c.want, "PatternAll", c.a)
	}
}
