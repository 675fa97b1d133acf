package tests

import (
	"testing"

	"loop.example/ringorders/impl"
)

// mustMany returns PatternMany of a ring and a pattern.
func mustMany(t *testing.T, a []int, p []int) int {
	t.Helper()
	many, ok := impl.PatternMany(a, p)
	return mustNumber(t, many, ok)
}

// mustFree returns PatternFree of a pattern.
func mustFree(t *testing.T, n int, p []int) int {
	t.Helper()
	free, ok := impl.PatternFree(n, p)
	return mustNumber(t, free, ok)
}

// mustSum returns PatternSum of a pattern of four points.
func mustSum(t *testing.T, n int, p []int) int {
	t.Helper()
	sum, ok := impl.PatternSum(n, p)
	return mustNumber(t, sum, ok)
}

// mustFours returns PatternAll of a ring.
func mustFours(t *testing.T, a []int) []int {
	t.Helper()
	counts, ok := impl.PatternAll(a)
	return mustList(t, counts, ok)
}

func TestP79(t *testing.T) {
	everyPattern(func(a, p []int) {
		held := 0
		for set := range 1 << len(a) {
			if !impl.PatternAt(a, p, set) {
				continue
			}
			held++
			got, ok := impl.PatternOf(a, set)
			wantList(t, got, ok, p, "PatternOf at the set of PatternAt", a, p, set)
		}
		many := mustMany(t, a, p)
		wantBool(t, many >= 1, held > 0, "PatternMany is at least 1", a, p)
		wantNumber(t, held, true, many, "the number of sets of PatternAt", a, p)
	})
	everyRing(func(a []int) {
		wantBool(t, impl.PatternAt(a, a, 1<<len(a)-1), true, "PatternAt of the ring at all points", a)
		wantBool(t, impl.PatternAt(a, mustBack(t, a), 1<<len(a)-1), false, "PatternAt of RingBack at all points", a)
		for _, no := range append(noSets(len(a)), 0) {
			wantBool(t, impl.PatternAt(a, a, no) || impl.PatternAt(a, firstRing(3), no), false, "PatternAt", a, no)
		}
	})
	everyNoPattern(func(a, p []int) {
		wantBool(t, impl.PatternAt(a, p, 7) || impl.PatternAt(a, p, 1<<len(p)-1), false, "PatternAt", a, p)
	})
}

func TestP80(t *testing.T) {
	everyPattern(func(a, p []int) {
		many := mustMany(t, a, p)
		first, isFirst := impl.PatternFirst(a, p)
		wantBool(t, many == 0, !isFirst, "PatternMany is 0", a, p)
		if !isFirst {
			wantNoNumber(t, first, isFirst, "PatternFirst", a, p)
		}
		if many < 0 || many > len(setsOfSize(len(a), len(p))) {
			t.Fatalf("PatternMany of %v, %v is %d", a, p, many)
		}
	})
	for _, n := range sizes {
		for m := 3; m <= n; m++ {
			wantNumber(t, mustMany(t, firstRing(n), firstRing(m)), true, len(setsOfSize(n, m)), "PatternMany of 0 1 2 and so on", n, m)
		}
	}
	everyNoPattern(func(a, p []int) {
		many, ok := impl.PatternMany(a, p)
		wantNoNumber(t, many, ok, "PatternMany", a, p)
	})
}

func TestP81(t *testing.T) {
	everyPattern(func(a, p []int) {
		first, ok := impl.PatternFirst(a, p)
		if !ok {
			return
		}
		wantBool(t, impl.PatternAt(a, p, first), true, "PatternAt of PatternFirst", a, p)
		for set := range first {
			wantBool(t, impl.PatternAt(a, p, set), false, "PatternAt ahead of PatternFirst", a, p, set)
		}
	})
	everyRing(func(a []int) {
		first, ok := impl.PatternFirst(a, a)
		wantNumber(t, first, ok, 1<<len(a)-1, "PatternFirst of the ring", a)
	})
	everyNoPattern(func(a, p []int) {
		first, ok := impl.PatternFirst(a, p)
		wantNoNumber(t, first, ok, "PatternFirst", a, p)
	})
}

func TestP82(t *testing.T) {
	everySetOf(func(a []int, set int) {
		size := len(pointsOf(set))
		p, ok := impl.PatternOf(a, set)
		wantBool(t, ok, size >= 3, "PatternOf succeeds", a, set)
		if !ok {
			wantNoList(t, p, ok, "PatternOf", a, set)
			return
		}
		wantBool(t, impl.RingIn(p) && len(p) == size, true, "RingIn of PatternOf", a, set)
		wantBool(t, impl.PatternAt(a, p, set), true, "PatternAt of PatternOf", a, set)
	})
	everyNoSetOf(func(a []int, set int) {
		p, ok := impl.PatternOf(a, set)
		wantNoList(t, p, ok, "PatternOf", a, set)
	})
}

func TestP83(t *testing.T) {
	for _, n := range sizes {
		everyFour(func(p []int) {
			wantNumber(t, mustFree(t, n, p), true, mustSum(t, n, p), "PatternFree", n, p)
		})
		for m := 3; m <= 6; m++ {
			for _, p := range allRings(m) {
				wantNumber(t, mustFree(t, n, p), true, mustFree(t, n, mustBack(t, p)), "PatternFree of RingBack", n, p)
			}
		}
		// All rings of fewer points are free.
		count, ok := impl.RingCount(n)
		for m := n + 1; m <= impl.PointsMax; m++ {
			wantNumber(t, mustFree(t, n, firstRing(m)), ok, count, "PatternFree of more points", n, m)
		}
		for _, no := range noRings() {
			free, ok := impl.PatternFree(n, no)
			wantNoNumber(t, free, ok, "PatternFree", n, no)
		}
	}
	for _, n := range noSizes {
		everyFour(func(p []int) {
			free, ok := impl.PatternFree(n, p)
			wantNoNumber(t, free, ok, "PatternFree", n, p)
		})
	}
}

func TestP84(t *testing.T) {
	everyFour(func(p []int) {
		wantNumber(t, mustSum(t, 3, p), true, 2, "PatternSum for 3 points", p)
		wantNumber(t, mustSum(t, 4, p), true, 5, "PatternSum for 4 points", p)
		for _, n := range sizes[1:] {
			if mustSum(t, n, p) <= mustSum(t, n-1, p) {
				t.Fatalf("PatternSum of %v does not grow to %d points", p, n)
			}
		}
	})
	everyNoFour(func(n int, p []int) {
		sum, ok := impl.PatternSum(n, p)
		wantNoNumber(t, sum, ok, "PatternSum", n, p)
	})
}

func TestP85(t *testing.T) {
	partedRings(func(a []int) {
		counts := mustFours(t, a)
		wantNumber(t, len(counts), true, 6, "the length of PatternAll", a)
		wantNumber(t, sumOf(counts), true, chooseFour(len(a)), "the sum of PatternAll", a)
		back := mustFours(t, mustBack(t, a))
		everyFour(func(p []int) {
			wantNumber(t, back[placeOf(p)], true, counts[placeOf(mustBack(t, p))], "PatternAll of RingBack", a, p)
			wantNumber(t, counts[placeOf(p)], true, mustMany(t, a, p), "PatternAll", a, p)
		})
	})
	for _, no := range append(allRings(3), noRings()...) {
		counts, ok := impl.PatternAll(no)
		wantNoList(t, counts, ok, "PatternAll", no)
	}
}

func TestP86(t *testing.T) {
	everyPattern(func(a, p []int) {
		back, ok := impl.PatternBack(a, p)
		wantNumber(t, back, ok, mustMany(t, mustBack(t, a), p), "PatternBack", a, p)
		wantNumber(t, back, ok, mustMany(t, a, mustBack(t, p)), "PatternBack", a, p)
	})
	everyNoPattern(func(a, p []int) {
		back, ok := impl.PatternBack(a, p)
		wantNoNumber(t, back, ok, "PatternBack", a, p)
	})
}

func TestP87(t *testing.T) {
	grown := 0
	everyPattern(func(a, p []int) {
		put, ok := impl.RingPut(a, 0)
		if !ok {
			return
		}
		many, more := mustMany(t, a, p), mustMany(t, put, p)
		if more < many {
			t.Fatalf("PatternMany of %v, %v is %d, and that of RingPut %d", a, p, many, more)
		}
		if more > many {
			grown++
		}
	})
	if grown < 1000 {
		t.Errorf("only %d patterns are had at more sets of RingPut", grown)
	}
	everyNoPattern(func(a, p []int) {
		many, ok := impl.PatternMany(a, p)
		wantNoNumber(t, many, ok, "PatternMany", a, p)
	})
}
