package tests

import (
	"math"
	"math/rand"
	"slices"
	"testing"

	"loop.example/ringorders/impl"
)

// The functions below tell again, in the plainest way, what chapter 6 says; the tests hold the program against them.

// isPart reports whether a list is a part of n points.
func isPart(n int, list []int) bool {
	sorted := slices.Compact(slices.Sorted(slices.Values(list)))
	return slices.Contains(askedSizes, n) && len(list) > 0 && len(sorted) == len(list) && list[0] == sorted[0] && sorted[0] >= 0 && sorted[len(sorted)-1] < n
}

// knownParts has, at each number of points that is asked for parts, all parts of so many.
var knownParts = listParts()

// listParts returns, at each number of points, all parts of so many, in the order of lists: the beginnings of all lists of all points that begin with their least point.
func listParts() [][][]int {
	parts := make([][][]int, 7)
	for _, n := range askedSizes {
		for _, list := range allTellings(n) {
			for size := 1; size <= n; size++ {
				if list[0] == slices.Min(list[:size]) {
					parts[n] = append(parts[n], slices.Clone(list[:size]))
				}
			}
		}
		slices.SortFunc(parts[n], slices.Compare)
		parts[n] = slices.CompactFunc(parts[n], slices.Equal)
	}
	return parts
}

// allParts returns, in the order of lists, all parts of n points.
func allParts(n int) [][]int {
	return slices.Clone(knownParts[n])
}

// pointsOf returns the points of a set, in their order.
func pointsOf(set int) []int {
	points := []int{}
	for x := 0; set > 0; x++ {
		if set%2 == 1 {
			points = append(points, x)
		}
		set /= 2
	}
	return points
}

// keptOf returns the points of a list that is not empty as a ring has them, going round from the least one.
func keptOf(a []int, points []int) []int {
	return slices.DeleteFunc(turned(a, slices.Min(points)), func(x int) bool { return !slices.Contains(points, x) })
}

// keeps reports whether a ring with all other points left out tells a part.
func keeps(a []int, p []int) bool {
	return slices.Equal(keptOf(a, p), p)
}

// ringsKeeping returns, in the order of lists, the rings of n points that have all parts of a list.
func ringsKeeping(n int, parts [][]int) [][]int {
	return slices.DeleteFunc(allRings(n), func(a []int) bool {
		return slices.ContainsFunc(parts, func(p []int) bool { return !keeps(a, p) })
	})
}

// weaves reports whether each one of n points is in just one of two parts.
func weaves(n int, p []int, q []int) bool {
	return onlyPoints(slices.Concat(p, q)) && len(p)+len(q) == n
}

// partListsOf returns lists of at most ten parts of n points: all of one part, some or all of two, and lists of all lengths of the parts of a ring, but for some, or not.
func partListsOf(n int) [][][]int {
	all := allParts(n)
	lists := [][][]int{nil, {}, all[:min(10, len(all))], all[max(0, len(all)-10):]}
	step := 1
	if n == 6 {
		step = 23
	}
	for i, p := range all {
		lists = append(lists, [][]int{p}, [][]int{p, p}, slices.Repeat([][]int{p}, 10))
		for j := i % step; j < len(all); j += step {
			lists = append(lists, [][]int{p, all[j]})
		}
	}
	random := rand.New(rand.NewSource(int64(n)))
	rings := allRings(n)
	for i := range 600 {
		a := rings[random.Intn(len(rings))]
		wrong := []int{0, 0, 0, 1, 2}[random.Intn(5)]
		parts := [][]int{}
		for place := range 1 + i%10 {
			p := all[random.Intn(len(all))]
			if place >= wrong {
				p = keptOf(a, p)
			}
			parts = append(parts, p)
		}
		random.Shuffle(len(parts), func(i, j int) { parts[i], parts[j] = parts[j], parts[i] })
		lists = append(lists, parts)
	}
	return lists
}

// everyPartList runs a check for lists of at most ten parts.
func everyPartList(check func(n int, parts [][]int)) {
	for _, n := range askedSizes {
		for _, parts := range partListsOf(n) {
			check(n, parts)
		}
	}
}

// noParts returns lists that are no parts of n points, for an n that has some.
func noParts(n int) [][]int {
	points := []int{0, 1, 2, 3, 4, 5, 6}
	lists := [][]int{
		nil, {}, make([]int, 1000), {0, 0}, {n - 1, n - 1}, {0, 0, 1}, {0, 1, 0}, {0, 1, 1}, {0, 2, 1, 2}, {1, 2, 1},
		{1, 0}, {2, 1}, {n - 1, 0}, {1, 2, 0}, {2, 0, 1}, {1, 0, 2}, {2, 1, 0},
		points[:n+1], append(slices.Clone(points[:n]), 0), append(slices.Clone(points[:n]), n-1), append(slices.Clone(points[:n]), -1), append(slices.Clone(points[1:n]), 0),
		slices.Repeat(points[:n], 2), points[1 : n+1],
	}
	for _, x := range noPoints(n) {
		lists = append(lists, []int{x}, []int{0, x}, []int{x, 0}, []int{0, x, 1}, []int{0, 1, x}, []int{x, x}, []int{0, x, x}, append(slices.Clone(points[:n-1]), x))
	}
	return lists
}

// noSets returns numbers that are no sets of n points.
func noSets(n int) []int {
	return []int{1 << n, 1<<n + 1, 1<<n + 2, 1<<(n+1) - 1, 1 << (n + 1), 1000, 1 << 32, 1<<32 + 1, math.MaxInt, -1, -2, -7, -(1 << n), 1 - 1<<n, math.MinInt, math.MinInt + 1}
}

// longParts returns a list of as many parts of n points, the same ones again and again.
func longParts(n int, size int) [][]int {
	all := allParts(n)
	return slices.Repeat(all, size/len(all)+1)[:size]
}

// noPartLists returns lists that are no lists of at most ten parts of n points, for an n that has some.
func noPartLists(n int) [][][]int {
	lists := [][][]int{longParts(n, 11), longParts(n, 12), longParts(n, 1000), make([][]int, 11), make([][]int, 10), slices.Repeat([][]int{{0}}, 11), slices.Repeat([][]int{{0, 1, 2}}, 11)}
	for _, no := range noParts(n) {
		lists = append(lists, withNone(no, longParts(n, 10))...)
	}
	return lists
}

// everyNoPartList runs a check for numbers and lists that are no lists of at most ten parts.
func everyNoPartList(check func(n int, parts [][]int)) {
	for _, n := range askedSizes {
		for _, parts := range noPartLists(n) {
			check(n, parts)
		}
	}
	for _, n := range notAskedSizes() {
		for _, parts := range [][][]int{nil, {}, {nil}, {{0}}, {{0, 1}}, {{0, 2, 1}}, {{0, 1}, {2}}, {{0, 1, 2, 3, 4, 5, 6}}, {{1, 0}}, {{-1}}, {{6}}, longParts(3, 10), longParts(3, 11)} {
			check(n, parts)
		}
	}
}

// everyWoven runs a check for all two parts that have each point in just one of them.
func everyWoven(check func(n int, p, q []int)) {
	for _, n := range askedSizes {
		for _, p := range allParts(n) {
			for _, q := range allParts(n) {
				if weaves(n, p, q) {
					check(n, p, q)
				}
			}
		}
	}
}

// everyNotWoven runs a check for two parts that have some point in both or in none, for lists that are no parts, and for numbers of points that have none.
func everyNotWoven(check func(n int, p, q []int)) {
	for _, n := range askedSizes {
		for _, p := range allParts(n) {
			check(n, p, nil)
			check(n, nil, p)
			for _, q := range allParts(n) {
				if !weaves(n, p, q) {
					check(n, p, q)
				}
			}
		}
		for _, no := range noParts(n) {
			for _, p := range [][]int{no, {0}, {n - 1}, {0, 1}, firstRing(n), firstRing(n)[1:], firstRing(n)[:n-1]} {
				check(n, no, p)
				check(n, p, no)
			}
		}
	}
	everyWoven(func(m int, p, q []int) {
		for _, n := range append(notAskedSizes(), askedSizes...) {
			if n != m {
				check(n, p, q)
			}
		}
	})
	check(7, []int{0, 1, 2, 3, 4, 5}, []int{6})
	check(7, []int{0, 1, 2}, []int{3, 4, 5, 6})
	check(2, []int{0}, []int{1})
	check(1, []int{0}, nil)
	check(0, nil, nil)
}

func TestWeaveIn(t *testing.T) {
	for i, n := range askedSizes {
		known := []int{8, 24, 89, 415}[i]
		if len(allParts(n)) != known {
			t.Fatalf("%d parts of %d points are known, not %d", len(allParts(n)), n, known)
		}
		for _, p := range slices.Concat(allParts(3), allParts(6), allTellings(n), allTellings(7), shortLists()) {
			wantBool(t, impl.WeaveIn(n, p), isPart(n, p), "WeaveIn", n, p)
		}
		for _, p := range allParts(n) {
			wantBool(t, impl.WeaveIn(n, p), true, "WeaveIn", n, p)
		}
		for _, no := range noParts(n) {
			wantBool(t, impl.WeaveIn(n, no), false, "WeaveIn", n, no)
		}
	}
	for _, n := range notAskedSizes() {
		for _, p := range slices.Concat(allParts(3), allParts(6)[:100], noParts(3), [][]int{firstRing(7), {6}}) {
			wantBool(t, impl.WeaveIn(n, p), false, "WeaveIn", n, p)
		}
	}
}

func TestWeavePart(t *testing.T) {
	askedRings(func(a []int) {
		for set := 1; set < 1<<len(a); set++ {
			got, ok := impl.WeavePart(a, set)
			wantList(t, got, ok, keptOf(a, pointsOf(set)), "WeavePart", a, set)
		}
		for _, set := range append(noSets(len(a)), 0) {
			got, ok := impl.WeavePart(a, set)
			wantNoList(t, got, ok, "WeavePart", a, set)
		}
	})
	for _, no := range append(noRings(), allRings(7)...) {
		for _, set := range append(noSets(len(no)%8), 0, 1, 2, 3, 7, 63, 64, 127) {
			got, ok := impl.WeavePart(no, set)
			wantNoList(t, got, ok, "WeavePart", no, set)
		}
	}
}

func TestWeavePartByHand(t *testing.T) {
	for _, c := range []struct {
		a    []int
		set  int
		want []int
	}{
		{[]int{0, 1, 2}, 1, []int{0}},
		{[]int{0, 2, 1}, 4, []int{2}},
		{[]int{0, 2, 1}, 6, []int{1, 2}},
		{[]int{0, 2, 1}, 7, []int{0, 2, 1}},
		{[]int{0, 2, 1, 3}, 14, []int{1, 3, 2}},
		{[]int{0, 2, 1, 3}, 13, []int{0, 2, 3}},
		{[]int{0, 3, 1, 4, 2}, 28, []int{2, 3, 4}},
		{[]int{0, 5, 4, 3, 2, 1}, 32, []int{5}},
		{[]int{0, 5, 4, 3, 2, 1}, 42, []int{1, 5, 3}},
		{[]int{0, 5, 4, 3, 2, 1}, 62, []int{1, 5, 4, 3, 2}},
		{[]int{0, 5, 4, 3, 2, 1}, 63, []int{0, 5, 4, 3, 2, 1}},
	} {
		got, ok := impl.WeavePart(c.a, c.set)
		wantList(t, got, ok, c.want, "WeavePart", c.a, c.set)
		wantBool(t, impl.WeaveHas(c.a, c.want), true, "WeaveHas", c.a, c.want)
	}
}

func TestWeaveHas(t *testing.T) {
	askedRings(func(a []int) {
		for _, p := range allParts(len(a)) {
			wantBool(t, impl.WeaveHas(a, p), keeps(a, p), "WeaveHas", a, p)
		}
		for _, no := range noParts(len(a)) {
			wantBool(t, impl.WeaveHas(a, no), false, "WeaveHas", a, no)
		}
	})
	for _, no := range append(noRings(), allRings(7)...) {
		for _, p := range append(allParts(3), firstRing(7), no, nil, []int{1, 0}, []int{6}, []int{0, 6}) {
			wantBool(t, impl.WeaveHas(no, p), false, "WeaveHas", no, p)
		}
	}
}

// A ring has a part if, going round from the first point of it, the others come in order: a three for each two of them.
func TestWeaveHasByThrees(t *testing.T) {
	askedRings(func(a []int) {
		for _, p := range allParts(len(a)) {
			inOrder := true
			for i := 1; i < len(p); i++ {
				for j := i + 1; j < len(p); j++ {
					inOrder = inOrder && has(a, []int{p[0], p[i], p[j]})
				}
			}
			wantBool(t, impl.WeaveHas(a, p), inOrder, "WeaveHas", a, p)
		}
	})
}

func TestWeaveRingsAndFirst(t *testing.T) {
	none := 0
	everyPartList(func(n int, parts [][]int) {
		rings := ringsKeeping(n, parts)
		count, ok := impl.WeaveRings(n, parts)
		wantNumber(t, count, ok, len(rings), "WeaveRings", n, parts)
		first, ok := impl.WeaveFirst(n, parts)
		if len(rings) == 0 {
			none++
			wantNoList(t, first, ok, "WeaveFirst", n, parts)
		} else {
			wantList(t, first, ok, rings[0], "WeaveFirst", n, parts)
		}
	})
	if none < 1000 {
		t.Errorf("only %d lists of parts have no ring", none)
	}
	everyNoPartList(func(n int, parts [][]int) {
		count, ok := impl.WeaveRings(n, parts)
		wantNoNumber(t, count, ok, "WeaveRings", n, parts)
		first, ok := impl.WeaveFirst(n, parts)
		wantNoList(t, first, ok, "WeaveFirst", n, parts)
	})
}

func TestWeaveRingsByHand(t *testing.T) {
	for _, c := range []struct {
		n     int
		parts [][]int
		count int
		first []int
	}{
		{3, nil, 2, []int{0, 1, 2}},
		{6, nil, 120, []int{0, 1, 2, 3, 4, 5}},
		{6, [][]int{{5}}, 120, []int{0, 1, 2, 3, 4, 5}},
		{6, [][]int{{2, 4}}, 120, []int{0, 1, 2, 3, 4, 5}},
		{3, [][]int{{0, 2, 1}}, 1, []int{0, 2, 1}},
		{4, [][]int{{1, 3, 2}}, 3, []int{0, 1, 3, 2}},
		{4, [][]int{{1, 3, 2}, {1, 3, 2}}, 3, []int{0, 1, 3, 2}},
		{4, [][]int{{1, 3, 2}, {0, 2, 3}}, 1, []int{0, 2, 1, 3}},
		{5, [][]int{{0, 4, 1}, {0, 3, 2}}, 6, []int{0, 3, 2, 4, 1}},
		{6, [][]int{{0, 5, 4, 3, 2, 1}}, 1, []int{0, 5, 4, 3, 2, 1}},
		{6, [][]int{{0, 5, 4, 3, 2, 1}, {1, 5, 4}, {0, 3}, {4}}, 1, []int{0, 5, 4, 3, 2, 1}},
		// All ten sets of three of five points: those of the ring 0 3 1 4 2.
		{5, [][]int{{0, 1, 2}, {0, 3, 1}, {0, 1, 4}, {0, 3, 2}, {0, 4, 2}, {0, 3, 4}, {1, 2, 3}, {1, 4, 2}, {1, 4, 3}, {2, 3, 4}}, 1, []int{0, 3, 1, 4, 2}},
		// No ring has both, or each two but not all three.
		{3, [][]int{{0, 1, 2}, {0, 2, 1}}, 0, nil},
		{4, [][]int{{0, 1, 2}, {0, 2, 3}, {0, 3, 1}}, 0, nil},
		{6, [][]int{{0, 1, 2, 3, 4, 5}, {1, 3, 2}}, 0, nil},
	} {
		count, ok := impl.WeaveRings(c.n, c.parts)
		wantNumber(t, count, ok, c.count, "WeaveRings", c.n, c.parts)
		first, ok := impl.WeaveFirst(c.n, c.parts)
		if c.count == 0 {
			wantNoList(t, first, ok, "WeaveFirst", c.n, c.parts)
		} else {
			wantList(t, first, ok, c.first, "WeaveFirst", c.n, c.parts)
		}
	}
}

func TestWeaveCountSumAndAll(t *testing.T) {
	seen := 0
	everyWoven(func(n int, p, q []int) {
		seen++
		rings := ringsKeeping(n, [][]int{p, q})
		count, ok := impl.WeaveCount(n, p, q)
		wantNumber(t, count, ok, len(rings), "WeaveCount", n, p, q)
		sum, ok := impl.WeaveSum(n, p, q)
		wantNumber(t, sum, ok, len(rings), "WeaveSum", n, p, q)
		all, ok := impl.WeaveAll(n, p, q)
		wantLists(t, all, ok, rings, "WeaveAll", n, p, q)
	})
	// Each set that is neither empty nor full, with the parts that go round it times those of the others: 6 + 22 + 100 + 548.
	if seen != 676 {
		t.Errorf("%d two parts are woven", seen)
	}
	everyNotWoven(func(n int, p, q []int) {
		wantNotWoven(t, n, p, q)
	})
}

// wantNotWoven fails the test if a function that asks for two woven parts did not return zero values and false.
func wantNotWoven(t *testing.T, n int, p []int, q []int) {
	t.Helper()
	count, ok := impl.WeaveCount(n, p, q)
	wantNoNumber(t, count, ok, "WeaveCount", n, p, q)
	sum, ok := impl.WeaveSum(n, p, q)
	wantNoNumber(t, sum, ok, "WeaveSum", n, p, q)
	all, ok := impl.WeaveAll(n, p, q)
	wantNoLists(t, all, ok, "WeaveAll", n, p, q)
}

func TestWeaveAllByHand(t *testing.T) {
	for _, c := range []struct {
		n    int
		p, q []int
		want [][]int
	}{
		{3, []int{0, 1}, []int{2}, [][]int{{0, 1, 2}, {0, 2, 1}}},
		{3, []int{0}, []int{1, 2}, [][]int{{0, 1, 2}, {0, 2, 1}}},
		{4, []int{0, 2, 1}, []int{3}, [][]int{{0, 2, 1, 3}, {0, 2, 3, 1}, {0, 3, 2, 1}}},
		{4, []int{0}, []int{1, 3, 2}, [][]int{{0, 1, 3, 2}, {0, 2, 1, 3}, {0, 3, 2, 1}}},
		{4, []int{1, 2}, []int{0, 3}, [][]int{{0, 1, 2, 3}, {0, 1, 3, 2}, {0, 2, 1, 3}, {0, 2, 3, 1}, {0, 3, 1, 2}, {0, 3, 2, 1}}},
		// A single point goes behind each point of the others.
		{6, []int{5}, []int{0, 4, 3, 2, 1}, [][]int{{0, 4, 3, 2, 1, 5}, {0, 4, 3, 2, 5, 1}, {0, 4, 3, 5, 2, 1}, {0, 4, 5, 3, 2, 1}, {0, 5, 4, 3, 2, 1}}},
	} {
		got, ok := impl.WeaveAll(c.n, c.p, c.q)
		wantLists(t, got, ok, c.want, "WeaveAll", c.n, c.p, c.q)
		got, ok = impl.WeaveAll(c.n, c.q, c.p)
		wantLists(t, got, ok, c.want, "WeaveAll", c.n, c.q, c.p)
	}
	for _, c := range []struct {
		n    int
		p, q []int
		want int
	}{
		{5, []int{0, 3}, []int{1, 4, 2}, 12},
		{6, []int{3}, []int{0, 1, 2, 4, 5}, 5},
		{6, []int{2, 3}, []int{0, 1, 5, 4}, 20},
		{6, []int{0, 4, 2}, []int{1, 3, 5}, 30},
	} {
		count, ok := impl.WeaveCount(c.n, c.p, c.q)
		wantNumber(t, count, ok, c.want, "WeaveCount", c.n, c.p, c.q)
		sum, ok := impl.WeaveSum(c.n, c.p, c.q)
		wantNumber(t, sum, ok, c.want, "WeaveSum", c.n, c.p, c.q)
	}
}

// Two parts that lie one behind the other in the same memory are read as if they did not.
func TestWeavePartsOfOneList(t *testing.T) {
	points := []int{0, 3, 1, 4, 2, 5}
	for size := 1; size < len(points); size++ {
		p, q := points[:size], points[size:]
		other := slices.Clone(q)
		woven := isPart(6, p) && isPart(6, q)
		for _, behind := range [][]int{q, other} {
			count, ok := impl.WeaveCount(6, p, behind)
			wantBool(t, ok, woven, "WeaveCount", 6, p, behind)
			if woven {
				wantNumber(t, count, ok, len(ringsKeeping(6, [][]int{p, q})), "WeaveCount", 6, p, behind)
			}
		}
		wantList(t, points, true, []int{0, 3, 1, 4, 2, 5}, "the list of both parts", size)
	}
	parts := [][]int{points[:6], points[:3], points[:1], points[:6]}
	first, ok := impl.WeaveFirst(6, parts)
	wantList(t, first, ok, points, "WeaveFirst", 6, parts)
}
