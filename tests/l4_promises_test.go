package tests

import (
	"slices"
	"testing"

	"loop.example/ringorders/impl"
)

// sumOf returns the numbers of a list added up.
func sumOf(list []int) int {
	sum := 0
	for _, x := range list {
		sum += x
	}
	return sum
}

// mustWind returns WindOf of two rings.
func mustWind(t *testing.T, a []int, b []int) int {
	t.Helper()
	turns, ok := impl.WindOf(a, b)
	return mustNumber(t, turns, ok)
}

// mustBack returns RingBack of a ring.
func mustBack(t *testing.T, a []int) []int {
	t.Helper()
	back, ok := impl.RingBack(a)
	return mustList(t, back, ok)
}

// mustBy returns RingBy of n points and a number.
func mustBy(t *testing.T, n int, number int) []int {
	t.Helper()
	a, ok := impl.RingBy(n, number)
	return mustList(t, a, ok)
}

// wantNoWind fails the test if WindOf does not fail for what are not two rings of as many points.
func wantNoWind(t *testing.T) {
	t.Helper()
	everyNoTwoRings(func(a, b []int) {
		turns, ok := impl.WindOf(a, b)
		wantNoNumber(t, turns, ok, "WindOf", a, b)
	})
}

func TestP39(t *testing.T) {
	everyTwoRings(func(a, b []int) {
		turns := mustWind(t, a, b)
		wantNumber(t, turns+mustWind(t, a, mustBack(t, b)), true, len(a), "WindOf with that by RingBack", a, b)
		wantBool(t, turns == 1, slices.Equal(a, b), "WindOf is 1", a, b)
	})
	wantNoWind(t)
}

func TestP40(t *testing.T) {
	everyRing(func(a []int) {
		falls, ok := impl.WindFalls(a)
		wantNumber(t, falls, ok, mustWind(t, a, mustBy(t, len(a), 0)), "WindFalls", a)
	})
	for _, no := range noRings() {
		falls, ok := impl.WindFalls(no)
		wantNoNumber(t, falls, ok, "WindFalls", no)
	}
}

func TestP41(t *testing.T) {
	for _, n := range sizes {
		counts, ok := impl.WindCounts(n)
		sums, ok2 := impl.WindSums(n)
		wantList(t, counts, ok, mustList(t, sums, ok2), "WindCounts", n)
		rings, ok := impl.RingCount(n)
		wantNumber(t, sumOf(counts), ok, rings, "WindCounts added up", n)
	}
	for _, n := range noSizes {
		counts, ok := impl.WindCounts(n)
		wantNoList(t, counts, ok, "WindCounts", n)
	}
}

func TestP42(t *testing.T) {
	for _, n := range sizes {
		list, ok := impl.WindSums(n)
		sums := mustList(t, list, ok)
		if len(sums) != n || sums[0] != 0 || sums[1] != 1 {
			t.Fatalf("WindSums of %d is %v", n, sums)
		}
		for k := 1; k < n; k++ {
			wantNumber(t, sums[k], true, sums[n-k], "WindSums at k and at n - k", n, k)
		}
	}
	for _, n := range noSizes {
		sums, ok := impl.WindSums(n)
		wantNoList(t, sums, ok, "WindSums", n)
	}
}

func TestP43(t *testing.T) {
	everyTwoRings(func(a, b []int) {
		list, ok := impl.WindPath(a, b)
		path := mustList(t, list, ok)
		wantNumber(t, sumOf(path), len(path) == len(a), len(a)*mustWind(t, a, b), "WindPath added up", a, b)
		for i, steps := range path {
			next, ok := impl.RingNext(a, a[i])
			want, ok2 := impl.RingSteps(b, a[i], mustNumber(t, next, ok))
			wantNumber(t, steps, ok2, want, "a step of WindPath", a, b, i)
		}
	})
	everyNoTwoRings(func(a, b []int) {
		path, ok := impl.WindPath(a, b)
		wantNoList(t, path, ok, "WindPath", a, b)
	})
}

func TestP44(t *testing.T) {
	everyThreeRings(func(a, b, c []int) {
		least, ok := impl.WindBetween(a, b, c)
		by, other := mustWind(t, a, b), mustWind(t, a, c)
		if !ok || least != by && least != other || least > by || least > other {
			t.Fatalf("WindBetween of %v, %v, %v is %d, %v; WindOf is %d and %d", a, b, c, least, ok, by, other)
		}
	})
	everyNoThreeRings(func(a, b, c []int) {
		least, ok := impl.WindBetween(a, b, c)
		wantNoNumber(t, least, ok, "WindBetween", a, b, c)
	})
}

func TestP45(t *testing.T) {
	for _, n := range sizes {
		list, ok := impl.WindCounts(n)
		counts := mustList(t, list, ok)
		rings := allRings(n)
		for i := 0; i < len(rings); i += 1 + len(rings)/100 {
			for k := range n {
				most, ok := impl.WindMost(rings[i], k)
				wantNumber(t, most, ok, counts[k], "WindMost", rings[i], k)
			}
			for _, k := range noPoints(n) {
				most, ok := impl.WindMost(rings[i], k)
				wantNoNumber(t, most, ok, "WindMost", rings[i], k)
			}
		}
	}
	for _, no := range noRings() {
		most, ok := impl.WindMost(no, 1)
		wantNoNumber(t, most, ok, "WindMost", no, 1)
	}
}

func TestP46(t *testing.T) {
	for _, n := range sizes {
		first := mustBy(t, n, 0)
		names := allTellings(n)
		step := 1 + len(names)/200
		for i, a := range allRings(n) {
			for j := i % step; j < len(names); j += step {
				called, ok := impl.RingNamed(a, names[j])
				by, ok2 := impl.RingNamed(first, names[j])
				turns := mustWind(t, mustList(t, called, ok), mustList(t, by, ok2))
				wantNumber(t, turns, true, mustWind(t, a, first), "WindOf of RingNamed", a, names[j])
			}
			called, ok := impl.RingNamed(a, names[0][1:])
			wantNoList(t, called, ok, "RingNamed", a, names[0][1:])
		}
	}
}

func TestP47(t *testing.T) {
	everyRing(func(a []int) {
		falls, ok := impl.WindFalls(a)
		mustNumber(t, falls, ok)
		for i, x := range a {
			more, ok := impl.RingPut(a, x)
			wantBool(t, ok, len(a) < impl.PointsMax, "RingPut", a, x)
			if !ok {
				continue
			}
			want := falls + 1
			if a[(i+1)%len(a)] < x {
				want = falls
			}
			got, ok := impl.WindFalls(more)
			wantNumber(t, got, ok, want, "WindFalls of RingPut", a, x)
		}
		for _, x := range noPoints(len(a)) {
			more, ok := impl.RingPut(a, x)
			wantNoList(t, more, ok, "RingPut", a, x)
		}
	})
}

func TestP48(t *testing.T) {
	everyTwoRings(func(a, b []int) {
		wantNumber(t, mustWind(t, a, b)+mustWind(t, mustBack(t, a), b), true, len(a), "WindOf with that of RingBack", a, b)
	})
	wantNoWind(t)
}
