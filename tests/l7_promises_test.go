package tests

import (
	"slices"
	"testing"

	"loop.example/ringorders/impl"
)

// mustRuns returns ArcRuns of a ring and a set.
func mustRuns(t *testing.T, a []int, set int) int {
	t.Helper()
	runs, ok := impl.ArcRuns(a, set)
	return mustNumber(t, runs, ok)
}

// mustArcs returns ArcAll of a ring.
func mustArcs(t *testing.T, a []int) []int {
	t.Helper()
	arcs, ok := impl.ArcAll(a)
	return mustList(t, arcs, ok)
}

// mustCommon returns ArcCommon of two rings.
func mustCommon(t *testing.T, a []int, b []int) []int {
	t.Helper()
	common, ok := impl.ArcCommon(a, b)
	return mustList(t, common, ok)
}

// mustArcRings returns ArcRings of a family.
func mustArcRings(t *testing.T, n int, sets []int) int {
	t.Helper()
	rings, ok := impl.ArcRings(n, sets)
	return mustNumber(t, rings, ok)
}

// wantAscending fails the test if a list does not ascend.
func wantAscending(t *testing.T, list []int, what string, args ...any) {
	t.Helper()
	for i := 1; i < len(list); i++ {
		if list[i-1] >= list[i] {
			t.Fatalf("%s of %v has %d ahead of %d", what, args, list[i-1], list[i])
		}
	}
}

func TestP69(t *testing.T) {
	everySetOf(func(a []int, set int) {
		if !impl.ArcIs(a, set) {
			return
		}
		wantBool(t, impl.ArcIs(a, allBut(len(a), set)), true, "ArcIs of all other points", a, set)
		wantBool(t, impl.ArcIs(mustBack(t, a), set), true, "ArcIs of RingBack", a, set)
		wantNumber(t, mustRuns(t, a, set), true, 1, "ArcRuns", a, set)
	})
	everyRing(func(a []int) {
		for _, set := range []int{0, 1<<len(a) - 1} {
			wantBool(t, impl.ArcIs(a, set), false, "ArcIs", a, set)
		}
		for _, x := range a {
			wantBool(t, impl.ArcIs(a, 1<<x), true, "ArcIs of one point", a, x)
			wantBool(t, impl.ArcIs(a, allBut(len(a), 1<<x)), true, "ArcIs of all points but one", a, x)
			y, ok := impl.RingNext(a, x)
			wantBool(t, ok && impl.ArcIs(a, 1<<x|1<<y), true, "ArcIs of a point and the next one", a, x)
		}
	})
	everyNoSetOf(func(a []int, set int) {
		wantBool(t, impl.ArcIs(a, set), false, "ArcIs", a, set)
	})
}

func TestP70(t *testing.T) {
	everyRing(func(a []int) {
		arcs := mustArcs(t, a)
		wantAscending(t, arcs, "ArcAll", a)
		wantNumber(t, len(arcs), true, len(a)*(len(a)-1), "the length of ArcAll", a)
		for set := range 1 << len(a) {
			wantBool(t, slices.Contains(arcs, set), impl.ArcIs(a, set), "ArcAll has", a, set)
		}
	})
	for _, no := range noRings() {
		arcs, ok := impl.ArcAll(no)
		wantNoList(t, arcs, ok, "ArcAll", no)
	}
}

func TestP71(t *testing.T) {
	everyFamily(func(n int, sets []int) {
		wantBool(t, impl.ArcFamily(n, sets), true, "ArcFamily", n, sets)
		if len(sets) == 0 {
			return
		}
		wantBool(t, impl.ArcFamily(n, sets[1:]), true, "ArcFamily without the first one", n, sets)
		others := slices.Clone(sets)
		for i, set := range sets {
			others[i] = allBut(n, set)
		}
		wantBool(t, impl.ArcFamily(n, others), true, "ArcFamily of all points less each one", n, sets)
	})
	everyNoFamily(func(n int, sets []int) {
		wantBool(t, impl.ArcFamily(n, sets), false, "ArcFamily", n, sets)
	})
}

func TestP72(t *testing.T) {
	everyFamily(func(n int, sets []int) {
		rings := mustArcRings(t, n, sets)
		first, isFirst := impl.ArcFirst(n, sets)
		wantBool(t, rings == 0, !isFirst, "ArcRings is 0", n, sets)
		if !isFirst {
			wantNoList(t, first, isFirst, "ArcFirst", n, sets)
		}
		wantNumber(t, rings%2, true, 0, "ArcRings is even", n, sets)
		others := slices.Clone(sets)
		for i, set := range sets {
			others[i] = allBut(n, set)
			// With but some of them exchanged too.
			wantNumber(t, mustArcRings(t, n, others), true, rings, "ArcRings of all points less some", n, sets, others)
		}
	})
	for _, n := range askedSizes {
		count, ok := impl.RingCount(n)
		wantNumber(t, mustArcRings(t, n, nil), ok, count, "ArcRings of no set", n)
	}
	everyNoFamily(func(n int, sets []int) {
		rings, ok := impl.ArcRings(n, sets)
		wantNoNumber(t, rings, ok, "ArcRings", n, sets)
	})
}

func TestP73(t *testing.T) {
	everyFamily(func(n int, sets []int) {
		first, ok := impl.ArcFirst(n, sets)
		if !ok {
			return
		}
		wantBool(t, impl.RingIn(first) && len(first) == n, true, "RingIn of ArcFirst", n, sets)
		for _, set := range sets {
			wantBool(t, impl.ArcIs(first, set), true, "ArcIs of ArcFirst", n, sets, set)
		}
	})
	// What is beside each other tells a ring but for the way round, so ArcFirst of it is the first one of both.
	askedRings(func(a []int) {
		beside := []int{}
		for i, x := range a {
			beside = append(beside, 1<<x|1<<a[(i+1)%len(a)])
		}
		want := a
		if slices.Compare(backwards(a), a) < 0 {
			want = backwards(a)
		}
		first, ok := impl.ArcFirst(len(a), beside)
		wantList(t, first, ok, want, "ArcFirst of all two beside each other", a)
	})
	everyNoFamily(func(n int, sets []int) {
		first, ok := impl.ArcFirst(n, sets)
		wantNoList(t, first, ok, "ArcFirst", n, sets)
	})
}

func TestP74(t *testing.T) {
	everySetOf(func(a []int, set int) {
		runs := mustRuns(t, a, set)
		wantNumber(t, mustRuns(t, a, allBut(len(a), set)), true, runs, "ArcRuns of all other points", a, set)
		wantBool(t, runs == 1, impl.ArcIs(a, set), "ArcRuns is 1", a, set)
		wantBool(t, 2*runs <= len(a), true, "ArcRuns is at most half", a, set)
	})
	everyRing(func(a []int) {
		wantNumber(t, mustRuns(t, a, 0), true, 0, "ArcRuns of the empty set", a)
		wantNumber(t, mustRuns(t, a, 1<<len(a)-1), true, 0, "ArcRuns of all points", a)
		apart := 0
		for i := 1; i < len(a); i += 2 {
			apart |= 1 << a[i]
		}
		wantNumber(t, mustRuns(t, a, apart), true, len(a)/2, "ArcRuns of each second point", a)
	})
	everyNoSetOf(func(a []int, set int) {
		runs, ok := impl.ArcRuns(a, set)
		wantNoNumber(t, runs, ok, "ArcRuns", a, set)
	})
}

func TestP75(t *testing.T) {
	everySetOf(func(a []int, set int) {
		first, last, ok := impl.ArcEnds(a, set)
		wantBool(t, ok, impl.ArcIs(a, set), "ArcEnds succeeds", a, set)
		if !ok {
			wantNoEnds(t, a, set)
			return
		}
		points := []int{first}
		if first != last {
			between, isBetween := impl.RingFrom(a, first, last)
			points = append(mustList(t, between, isBetween), first, last)
		}
		slices.Sort(points)
		wantList(t, points, true, pointsOf(set), "the points of ArcEnds", a, set)
	})
	everyNoSetOf(func(a []int, set int) {
		wantNoEnds(t, a, set)
	})
}

func TestP76(t *testing.T) {
	everyTwoRings(func(a, b []int) {
		common := mustCommon(t, a, b)
		wantAscending(t, common, "ArcCommon", a, b)
		for _, set := range common {
			wantBool(t, impl.ArcIs(a, set) && impl.ArcIs(b, set), true, "ArcIs of ArcCommon", a, b, set)
		}
		wantList(t, mustCommon(t, b, a), true, common, "ArcCommon exchanged", a, b)
		same := len(a) == 3 || slices.Equal(a, b) || slices.Equal(mustBack(t, a), b)
		wantBool(t, slices.Equal(common, mustArcs(t, a)), same, "ArcCommon is ArcAll", a, b)
		wantBool(t, slices.Equal(common, mustArcs(t, b)), same, "ArcCommon is ArcAll of the second ring", a, b)
	})
	everyNoTwoRings(func(a, b []int) {
		common, ok := impl.ArcCommon(a, b)
		wantNoList(t, common, ok, "ArcCommon", a, b)
	})
}

func TestP77(t *testing.T) {
	everyFamily(func(n int, sets []int) {
		got, ok := impl.ArcMost(n, sets)
		most := mustNumber(t, got, ok)
		wantBool(t, most == len(sets), mustArcRings(t, n, sets) != 0, "ArcMost is the number of sets", n, sets)
		if most < min(1, len(sets)) || most > len(sets) {
			t.Fatalf("ArcMost of %d, %v is %d", n, sets, most)
		}
	})
	everyNoFamily(func(n int, sets []int) {
		most, ok := impl.ArcMost(n, sets)
		wantNoNumber(t, most, ok, "ArcMost", n, sets)
	})
}

func TestP78(t *testing.T) {
	everyRing(func(a []int) {
		for x := range len(a) {
			for y := range len(a) {
				if x != y {
					wantBool(t, impl.ArcIs(a, 1<<x|1<<y), impl.PairBeside(a, x, y), "ArcIs of two points", a, x, y)
				}
			}
		}
		for _, no := range noPoints(len(a)) {
			wantBool(t, impl.PairBeside(a, 0, no), false, "PairBeside", a, 0, no)
		}
		wantBool(t, impl.ArcIs(a, 1|1<<len(a)), false, "ArcIs of 0 and no point", a)
	})
	for _, no := range noRings() {
		wantBool(t, impl.ArcIs(no, 3) || impl.PairBeside(no, 0, 1), false, "ArcIs of two points", no)
	}
}
