package tests

import (
	"slices"
	"testing"

	"loop.example/ringorders/impl"
)

// factorials has the factorials of 0 to 5.
var factorials = []int{1, 1, 2, 6, 24, 120}

// mustPart returns WeavePart of a ring and a set.
func mustPart(t *testing.T, a []int, set int) []int {
	t.Helper()
	p, ok := impl.WeavePart(a, set)
	return mustList(t, p, ok)
}

// mustCount returns WeaveCount of two parts.
func mustCount(t *testing.T, n int, p []int, q []int) int {
	t.Helper()
	count, ok := impl.WeaveCount(n, p, q)
	return mustNumber(t, count, ok)
}

// everyPart runs a check for all parts of all numbers of points that have some.
func everyPart(check func(n int, p []int)) {
	for _, n := range askedSizes {
		for _, p := range allParts(n) {
			check(n, p)
		}
	}
}

// everySet runs a check for all rings of at most 6 points and all their sets but the empty one.
func everySet(check func(a []int, set int)) {
	askedRings(func(a []int) {
		for set := 1; set < 1<<len(a); set++ {
			check(a, set)
		}
	})
}

// wantNoParts fails the test if WeavePart succeeds for a set that it does not have, or for what is no ring of at most 6 points.
func wantNoParts(t *testing.T) {
	t.Helper()
	askedRings(func(a []int) {
		for _, set := range append(noSets(len(a)), 0) {
			p, ok := impl.WeavePart(a, set)
			wantNoList(t, p, ok, "WeavePart", a, set)
		}
	})
	for _, no := range append(noRings(), allRings(7)...) {
		for _, set := range []int{0, 1, 2, 3, 6, 7} {
			p, ok := impl.WeavePart(no, set)
			wantNoList(t, p, ok, "WeavePart", no, set)
		}
	}
}

func TestP60(t *testing.T) {
	everyPart(func(n int, p []int) {
		wantBool(t, impl.WeaveIn(n, p), true, "WeaveIn", n, p)
		rings, ok := impl.WeaveRings(n, [][]int{p})
		wantNumber(t, rings, ok, factorials[n-1]/factorials[len(p)-1], "WeaveRings", n, p)
	})
	for _, n := range askedSizes {
		for _, no := range noParts(n) {
			wantBool(t, impl.WeaveIn(n, no), false, "WeaveIn", n, no)
			rings, ok := impl.WeaveRings(n, [][]int{no})
			wantNoNumber(t, rings, ok, "WeaveRings", n, no)
		}
	}
	for _, n := range notAskedSizes() {
		wantBool(t, impl.WeaveIn(n, []int{0}), false, "WeaveIn", n, 0)
	}
}

func TestP61(t *testing.T) {
	everySet(func(a []int, set int) {
		p := mustPart(t, a, set)
		wantBool(t, impl.WeaveHas(a, p), true, "WeaveHas of WeavePart", a, set)
		wantBool(t, impl.WeaveIn(len(a), p), true, "WeaveIn of WeavePart", a, set)
		wantList(t, slices.Sorted(slices.Values(p)), true, pointsOf(set), "WeavePart in ascending order", a, set)
	})
	askedRings(func(a []int) {
		wantList(t, mustPart(t, a, 1<<len(a)-1), true, a, "WeavePart of all points", a)
	})
	wantNoParts(t)
}

func TestP62(t *testing.T) {
	askedRings(func(a []int) {
		held := 0
		for _, p := range allParts(len(a)) {
			if !impl.WeaveHas(a, p) {
				continue
			}
			held++
			if len(p) >= 2 {
				wantBool(t, impl.WeaveHas(a, p[:len(p)-1]), true, "WeaveHas without the last point", a, p)
				wantBool(t, impl.WeaveHas(mustBack(t, a), p), len(p) == 2, "WeaveHas of RingBack", a, p)
			}
		}
		// It has just one part for each set but the empty one.
		wantNumber(t, held, true, 1<<len(a)-1, "the number of parts", a)
		for _, no := range noParts(len(a)) {
			wantBool(t, impl.WeaveHas(a, no), false, "WeaveHas", a, no)
		}
	})
	for _, no := range append(noRings(), allRings(7)...) {
		wantBool(t, impl.WeaveHas(no, []int{0, 1}), false, "WeaveHas", no, 0, 1)
	}
}

func TestP63(t *testing.T) {
	everyPartList(func(n int, parts [][]int) {
		rings, ok := impl.WeaveRings(n, parts)
		count, isSize := impl.RingCount(n)
		first, isFirst := impl.WeaveFirst(n, parts)
		wantBool(t, ok && isSize, true, "WeaveRings", n, parts)
		wantBool(t, rings == 0, !isFirst, "WeaveRings is 0", n, parts)
		if rings < 0 || rings > count {
			t.Fatalf("WeaveRings of %d, %v is %d", n, parts, rings)
		}
		if !isFirst {
			wantNoList(t, first, isFirst, "WeaveFirst", n, parts)
		}
	})
	everyNoPartList(func(n int, parts [][]int) {
		rings, ok := impl.WeaveRings(n, parts)
		wantNoNumber(t, rings, ok, "WeaveRings", n, parts)
	})
}

func TestP64(t *testing.T) {
	everyPartList(func(n int, parts [][]int) {
		first, ok := impl.WeaveFirst(n, parts)
		if !ok {
			return
		}
		wantBool(t, impl.RingIn(first) && len(first) == n, true, "RingIn of WeaveFirst", n, parts)
		for _, p := range parts {
			wantBool(t, impl.WeaveHas(first, p), true, "WeaveHas of WeaveFirst", n, parts, p)
		}
	})
	askedRings(func(a []int) {
		first, ok := impl.WeaveFirst(len(a), [][]int{a})
		wantList(t, first, ok, a, "WeaveFirst", a)
	})
	everyNoPartList(func(n int, parts [][]int) {
		first, ok := impl.WeaveFirst(n, parts)
		wantNoList(t, first, ok, "WeaveFirst", n, parts)
	})
}

func TestP65(t *testing.T) {
	everyWoven(func(n int, p, q []int) {
		count := mustCount(t, n, p, q)
		sum, ok := impl.WeaveSum(n, p, q)
		wantNumber(t, sum, ok, count, "WeaveSum", n, p, q)
		wantNumber(t, mustCount(t, n, q, p), true, count, "WeaveCount exchanged", n, p, q)
	})
	everyNotWoven(func(n int, p, q []int) {
		count, ok := impl.WeaveCount(n, p, q)
		wantNoNumber(t, count, ok, "WeaveCount", n, p, q)
	})
}

func TestP66(t *testing.T) {
	everyWoven(func(n int, p, q []int) {
		sum, ok := impl.WeaveSum(n, p, q)
		if mustNumber(t, sum, ok) < max(len(p), len(q)) {
			t.Fatalf("WeaveSum of %d, %v, %v is %d", n, p, q, sum)
		}
		if len(p) == 1 || len(q) == 1 {
			wantNumber(t, sum, ok, n-1, "WeaveSum of one point", n, p, q)
		}
	})
	everyNotWoven(func(n int, p, q []int) {
		sum, ok := impl.WeaveSum(n, p, q)
		wantNoNumber(t, sum, ok, "WeaveSum", n, p, q)
	})
}

func TestP67(t *testing.T) {
	everyWoven(func(n int, p, q []int) {
		all, ok := impl.WeaveAll(n, p, q)
		wantNumber(t, len(mustLists(t, all, ok)), true, mustCount(t, n, p, q), "the length of WeaveAll", n, p, q)
		for i, a := range all {
			wantBool(t, impl.RingIn(a) && impl.WeaveHas(a, p) && impl.WeaveHas(a, q), true, "WeaveHas of WeaveAll", a, p, q)
			if i > 0 && slices.Compare(all[i-1], a) >= 0 {
				t.Fatalf("WeaveAll of %d, %v, %v has %v ahead of %v", n, p, q, all[i-1], a)
			}
		}
	})
	everyNotWoven(func(n int, p, q []int) {
		all, ok := impl.WeaveAll(n, p, q)
		wantNoLists(t, all, ok, "WeaveAll", n, p, q)
	})
}

func TestP68(t *testing.T) {
	everySet(func(a []int, set int) {
		want := slices.Clone(mustPart(t, a, set))
		slices.Reverse(want[1:])
		wantList(t, mustPart(t, mustBack(t, a), set), true, want, "WeavePart of RingBack", a, set)
	})
	wantNoParts(t)
}
