package tests

import (
	"math"
	"math/rand"
	"slices"
	"testing"

	"loop.example/ringorders/impl"
)

// The functions below tell again, in the plainest way, what chapter 7 says; the tests hold the program against them.

// setWith returns the set of some points.
func setWith(points []int) int {
	set := 0
	for x, bit := 0, 1; x < 7; x, bit = x+1, bit*2 {
		if slices.Contains(points, x) {
			set += bit
		}
	}
	return set
}

// allBut returns the set of all n points that are not in a set.
func allBut(n int, set int) int {
	return 1<<n - 1 - set
}

// piecesOf returns the pieces of a ring that begin with each point of it and have from one point on to all but one.
func piecesOf(a []int) [][]int {
	pieces := [][]int{}
	for _, x := range a {
		for size := 1; size < len(a); size++ {
			pieces = append(pieces, turned(a, x)[:size])
		}
	}
	return pieces
}

// knownArcs has, at each number of points and at the place of each ring, its arcs in ascending order.
var knownArcs = listArcs()

// listArcs returns the arcs of all rings: the sets of their pieces.
func listArcs() [][][]int {
	arcs := make([][][]int, 8)
	for _, n := range sizes {
		for _, a := range allRings(n) {
			sets := []int{}
			for _, piece := range piecesOf(a) {
				sets = append(sets, setWith(piece))
			}
			slices.Sort(sets)
			arcs[n] = append(arcs[n], sets)
		}
	}
	return arcs
}

// arcsOf returns the arcs of a ring, in ascending order.
func arcsOf(a []int) []int {
	return slices.Clone(knownArcs[len(a)][placeOf(a)])
}

// commonOf returns, in ascending order, the arcs that two rings have in common.
func commonOf(a []int, b []int) []int {
	others := arcsOf(b)
	return slices.DeleteFunc(arcsOf(a), func(set int) bool { return !slices.Contains(others, set) })
}

// runsOf returns what is left of a ring that is cut apart at the points that are not in a set: nothing if none is, as there is no place to begin at.
func runsOf(a []int, set int) [][]int {
	in := pointsOf(set)
	outside := slices.IndexFunc(a, func(x int) bool { return !slices.Contains(in, x) })
	if outside < 0 {
		return nil
	}
	runs := [][]int{{}}
	for _, x := range turned(a, a[outside]) {
		last := len(runs) - 1
		if slices.Contains(in, x) {
			runs[last] = append(runs[last], x)
		} else if len(runs[last]) > 0 {
			runs = append(runs, []int{})
		}
	}
	return slices.DeleteFunc(runs, func(run []int) bool { return len(run) == 0 })
}

// arcedOf returns the number of places of a list whose sets are arcs of the ring with a place among all rings of n points.
func arcedOf(n int, place int, sets []int) int {
	many := 0
	for _, set := range sets {
		if slices.Contains(knownArcs[n][place], set) {
			many++
		}
	}
	return many
}

// ringsArced returns, in the order of lists, the rings of n points of which all sets of a family are arcs, and the greatest number of places whose sets are arcs of one.
func ringsArced(n int, sets []int) ([][]int, int) {
	rings := [][]int{}
	most := 0
	for place, a := range allRings(n) {
		many := arcedOf(n, place, sets)
		most = max(most, many)
		if many == len(sets) {
			rings = append(rings, a)
		}
	}
	return rings, most
}

// isFamily reports whether a list is a family of n points.
func isFamily(n int, sets []int) bool {
	return slices.Contains(askedSizes, n) && len(sets) <= 10 && !slices.ContainsFunc(sets, func(set int) bool { return set < 1 || set > 1<<n-2 })
}

// familySets returns all sets of n points that a family may have, in ascending order.
func familySets(n int) []int {
	sets := []int{}
	for set := 1; set < 1<<n-1; set++ {
		sets = append(sets, set)
	}
	return sets
}

// longFamily returns a list of as many sets of n points, the same ones again and again.
func longFamily(n int, size int) []int {
	all := familySets(n)
	return slices.Repeat(all, size/len(all)+1)[:size]
}

// familiesOf returns families of n points: all of one set, all or some of two, and families of all sizes of the arcs of a ring, but for some, or not.
func familiesOf(n int) [][]int {
	all := familySets(n)
	families := [][]int{nil, {}, longFamily(n, 10), longFamily(n, 9), all[len(all)-min(10, len(all)):]}
	step := 1
	if n == 6 {
		step = 5
	}
	for i, set := range all {
		families = append(families, []int{set}, []int{set, set}, []int{set, allBut(n, set)}, slices.Repeat([]int{set}, 10))
		for j := i % step; j < len(all); j += step {
			families = append(families, []int{set, all[j]})
		}
	}
	random := rand.New(rand.NewSource(int64(n)))
	for i := range 600 {
		arcs := knownArcs[n][random.Intn(len(knownArcs[n]))]
		wrong := []int{0, 0, 1, 2, 4, 10}[random.Intn(6)]
		sets := []int{}
		for place := range 1 + i%10 {
			if place < wrong {
				sets = append(sets, all[random.Intn(len(all))])
			} else {
				sets = append(sets, arcs[random.Intn(len(arcs))])
			}
		}
		random.Shuffle(len(sets), func(i, j int) { sets[i], sets[j] = sets[j], sets[i] })
		families = append(families, sets)
	}
	return families
}

// everyFamily runs a check for families of all numbers of points that have some.
func everyFamily(check func(n int, sets []int)) {
	for _, n := range askedSizes {
		for _, sets := range familiesOf(n) {
			check(n, sets)
		}
	}
}

// noFamilies returns lists that are no families of n points, for an n that has some.
func noFamilies(n int) [][]int {
	lists := [][]int{longFamily(n, 11), longFamily(n, 12), longFamily(n, 1000), make([]int, 11), make([]int, 10), slices.Repeat([]int{1}, 11), slices.Repeat([]int{3}, 11), slices.Repeat([]int{1<<n - 1}, 10)}
	others := longFamily(n, 9)
	for _, no := range append(noSets(n), 0, 1<<n-1) {
		lists = append(lists, []int{no}, []int{no, no}, []int{1, no}, []int{no, 1}, append([]int{no}, others...), append(slices.Clone(others), no), []int{others[0], others[1], no, others[2]})
	}
	return lists
}

// everyNoFamily runs a check for numbers and lists that are no families.
func everyNoFamily(check func(n int, sets []int)) {
	for _, n := range askedSizes {
		for _, sets := range noFamilies(n) {
			check(n, sets)
		}
	}
	for _, n := range notAskedSizes() {
		for _, sets := range [][]int{nil, {}, {0}, {1}, {2}, {1, 2}, {3}, {5, 3}, {6}, {62}, {63}, {126}, {127}, {-1}, longFamily(3, 10), longFamily(6, 10), longFamily(3, 11)} {
			check(n, sets)
		}
	}
}

// everySetOf runs a check for all rings and all their sets, the empty one and that of all points among them.
func everySetOf(check func(a []int, set int)) {
	everyRing(func(a []int) {
		for set := range 1 << len(a) {
			check(a, set)
		}
	})
}

// everyNoSetOf runs a check for rings with numbers that are no sets of their points, and for what are no rings.
func everyNoSetOf(check func(a []int, set int)) {
	everyRing(func(a []int) {
		for _, set := range noSets(len(a)) {
			check(a, set)
		}
	})
	for _, no := range noRings() {
		for _, set := range []int{0, 1, 2, 3, 4, 6, 7, 8, 15, 24, 62, 63, 64, 126, 127, 128, -1, -2, math.MinInt, math.MaxInt} {
			check(no, set)
		}
	}
}

// wantEnds fails the test if ArcEnds is not as it must be.
func wantEnds(t *testing.T, a []int, set int, first int, last int) {
	t.Helper()
	x, y, ok := impl.ArcEnds(a, set)
	if !ok || x != first || y != last {
		t.Fatalf("ArcEnds of %v, %d returned %d, %d, %v; want %d, %d, true", a, set, x, y, ok, first, last)
	}
}

// wantNoEnds fails the test if ArcEnds did not return zero values and false.
func wantNoEnds(t *testing.T, a []int, set int) {
	t.Helper()
	x, y, ok := impl.ArcEnds(a, set)
	if ok || x != 0 || y != 0 {
		t.Fatalf("ArcEnds of %v, %d returned %d, %d, %v; want 0, 0, false", a, set, x, y, ok)
	}
}

// wantNoFamily fails the test if a function that asks for a family did not return zero values and false.
func wantNoFamily(t *testing.T, n int, sets []int) {
	t.Helper()
	wantBool(t, impl.ArcFamily(n, sets), false, "ArcFamily", n, sets)
	rings, ok := impl.ArcRings(n, sets)
	wantNoNumber(t, rings, ok, "ArcRings", n, sets)
	first, ok := impl.ArcFirst(n, sets)
	wantNoList(t, first, ok, "ArcFirst", n, sets)
	most, ok := impl.ArcMost(n, sets)
	wantNoNumber(t, most, ok, "ArcMost", n, sets)
}

func TestArcIs(t *testing.T) {
	everySetOf(func(a []int, set int) {
		wantBool(t, impl.ArcIs(a, set), slices.Contains(knownArcs[len(a)][placeOf(a)], set), "ArcIs", a, set)
	})
	everyNoSetOf(func(a []int, set int) {
		wantBool(t, impl.ArcIs(a, set), false, "ArcIs", a, set)
	})
}

func TestArcAll(t *testing.T) {
	everyRing(func(a []int) {
		got, ok := impl.ArcAll(a)
		wantList(t, got, ok, arcsOf(a), "ArcAll", a)
	})
	for _, no := range noRings() {
		got, ok := impl.ArcAll(no)
		wantNoList(t, got, ok, "ArcAll", no)
	}
}

func TestArcAllByHand(t *testing.T) {
	for _, c := range []struct {
		a    []int
		want []int
	}{
		{[]int{0, 1, 2}, []int{1, 2, 3, 4, 5, 6}},
		{[]int{0, 2, 1}, []int{1, 2, 3, 4, 5, 6}},
		{[]int{0, 1, 2, 3}, []int{1, 2, 3, 4, 6, 7, 8, 9, 11, 12, 13, 14}},
		{[]int{0, 2, 1, 3}, []int{1, 2, 4, 5, 6, 7, 8, 9, 10, 11, 13, 14}},
		{[]int{0, 3, 1, 2}, []int{1, 2, 4, 5, 6, 7, 8, 9, 10, 11, 13, 14}},
		{[]int{0, 2, 4, 1, 3}, []int{1, 2, 4, 5, 8, 9, 10, 11, 13, 16, 18, 20, 21, 22, 23, 26, 27, 29, 30, 15}},
	} {
		slices.Sort(c.want)
		got, ok := impl.ArcAll(c.a)
		wantList(t, got, ok, c.want, "ArcAll", c.a)
	}
}

func TestArcRuns(t *testing.T) {
	most := map[int]int{}
	everySetOf(func(a []int, set int) {
		want := len(runsOf(a, set))
		got, ok := impl.ArcRuns(a, set)
		wantNumber(t, got, ok, want, "ArcRuns", a, set)
		most[len(a)] = max(most[len(a)], want)
	})
	for _, n := range sizes {
		if most[n] != n/2 {
			t.Errorf("the sets of %d points come apart into at most %d arcs", n, most[n])
		}
	}
	everyNoSetOf(func(a []int, set int) {
		got, ok := impl.ArcRuns(a, set)
		wantNoNumber(t, got, ok, "ArcRuns", a, set)
	})
}

func TestArcEnds(t *testing.T) {
	everySetOf(func(a []int, set int) {
		runs := runsOf(a, set)
		if len(runs) == 1 {
			wantEnds(t, a, set, runs[0][0], runs[0][len(runs[0])-1])
		} else {
			wantNoEnds(t, a, set)
		}
	})
	everyRing(func(a []int) {
		for _, piece := range piecesOf(a) {
			wantEnds(t, a, setWith(piece), piece[0], piece[len(piece)-1])
		}
	})
	everyNoSetOf(func(a []int, set int) {
		wantNoEnds(t, a, set)
	})
}

func TestArcRunsAndEndsByHand(t *testing.T) {
	for _, c := range []struct {
		a           []int
		points      []int
		runs        int
		first, last int
	}{
		{[]int{0, 1, 2}, nil, 0, 0, 0},
		{[]int{0, 1, 2}, []int{0, 1, 2}, 0, 0, 0},
		{[]int{0, 1, 2}, []int{2}, 1, 2, 2},
		{[]int{0, 1, 2}, []int{0, 2}, 1, 2, 0},
		{[]int{0, 2, 1}, []int{0, 2}, 1, 0, 2},
		{[]int{0, 1, 2, 3}, []int{0, 2}, 2, 0, 0},
		{[]int{0, 1, 2, 3}, []int{0, 3}, 1, 3, 0},
		{[]int{0, 3, 2, 1}, []int{0, 3}, 1, 0, 3},
		{[]int{0, 2, 4, 1, 3}, []int{0, 2, 3}, 1, 3, 2},
		{[]int{0, 2, 4, 1, 3}, []int{0, 1, 2, 3}, 1, 1, 2},
		{[]int{0, 2, 4, 1, 3}, []int{0, 1}, 2, 0, 0},
		{[]int{0, 1, 2, 3, 4, 5}, []int{1, 3, 5}, 3, 0, 0},
		{[]int{0, 1, 2, 3, 4, 5}, []int{0, 2, 3, 5}, 2, 0, 0},
		{[]int{0, 1, 2, 3, 4, 5, 6}, []int{0, 2, 4}, 3, 0, 0},
		{[]int{0, 1, 2, 3, 4, 5, 6}, []int{0, 2, 4, 6}, 3, 0, 0},
		{[]int{0, 1, 2, 3, 4, 5, 6}, []int{0, 1, 2, 4, 5, 6}, 1, 4, 2},
		{[]int{0, 6, 1, 5, 2, 4, 3}, []int{0, 3, 4, 6}, 1, 4, 6},
	} {
		set := setWith(c.points)
		runs, ok := impl.ArcRuns(c.a, set)
		wantNumber(t, runs, ok, c.runs, "ArcRuns", c.a, c.points)
		wantBool(t, impl.ArcIs(c.a, set), c.runs == 1, "ArcIs", c.a, c.points)
		if c.runs == 1 {
			wantEnds(t, c.a, set, c.first, c.last)
		} else {
			wantNoEnds(t, c.a, set)
		}
	}
}

func TestArcFamily(t *testing.T) {
	for _, n := range append(notAskedSizes(), askedSizes...) {
		for set := -9; set < 200; set++ {
			for _, sets := range [][]int{{set}, {1, set}, {set, 1}, slices.Repeat([]int{set}, 10), slices.Repeat([]int{set}, 11)} {
				wantBool(t, impl.ArcFamily(n, sets), isFamily(n, sets), "ArcFamily", n, sets)
			}
		}
		for size := range 14 {
			wantBool(t, impl.ArcFamily(n, longFamily(3, size)), isFamily(n, longFamily(3, size)), "ArcFamily", n, "of size", size)
		}
	}
	everyFamily(func(n int, sets []int) {
		wantBool(t, impl.ArcFamily(n, sets), true, "ArcFamily", n, sets)
	})
	everyNoFamily(func(n int, sets []int) {
		wantNoFamily(t, n, sets)
	})
}

func TestArcRingsFirstAndMost(t *testing.T) {
	none := 0
	everyFamily(func(n int, sets []int) {
		rings, most := ringsArced(n, sets)
		count, ok := impl.ArcRings(n, sets)
		wantNumber(t, count, ok, len(rings), "ArcRings", n, sets)
		got, ok := impl.ArcMost(n, sets)
		wantNumber(t, got, ok, most, "ArcMost", n, sets)
		first, ok := impl.ArcFirst(n, sets)
		if len(rings) == 0 {
			none++
			wantNoList(t, first, ok, "ArcFirst", n, sets)
		} else {
			wantList(t, first, ok, rings[0], "ArcFirst", n, sets)
		}
	})
	if none < 300 {
		t.Errorf("only %d families have no ring", none)
	}
}

func TestArcRingsByHand(t *testing.T) {
	for _, c := range []struct {
		n           int
		sets        []int
		count, most int
		first       []int
	}{
		{3, nil, 2, 0, []int{0, 1, 2}},
		{4, nil, 6, 0, []int{0, 1, 2, 3}},
		{6, nil, 120, 0, []int{0, 1, 2, 3, 4, 5}},
		{3, []int{1, 2, 3, 4, 5, 6}, 2, 6, []int{0, 1, 2}},
		{3, []int{5, 5, 5, 5, 5, 5, 5, 5, 5, 5}, 2, 10, []int{0, 1, 2}},
		// One point, and all but one, lie together on all rings.
		{6, []int{32, 31, 16, 47}, 120, 4, []int{0, 1, 2, 3, 4, 5}},
		{4, []int{5}, 4, 1, []int{0, 1, 3, 2}},
		{4, []int{5, 10}, 4, 2, []int{0, 1, 3, 2}},
		{4, []int{3, 6}, 2, 2, []int{0, 1, 2, 3}},
		{4, []int{5, 6}, 2, 2, []int{0, 2, 1, 3}},
		// A ring of four points has two of the three ways to take two and two together.
		{4, []int{3, 5, 9}, 0, 2, nil},
		{4, []int{3, 5, 9, 9, 9}, 0, 4, nil},
		{4, []int{3, 3, 5, 5, 6, 6, 12, 10, 9, 9}, 0, 7, nil},
		// A point has but two beside it.
		{5, []int{3, 5, 9, 17}, 0, 2, nil},
		{5, []int{3, 6, 12, 24, 17}, 2, 5, []int{0, 1, 2, 3, 4}},
		{5, []int{5, 20, 18, 10, 9}, 2, 5, []int{0, 2, 4, 1, 3}},
		{6, []int{3, 12, 48}, 16, 3, []int{0, 1, 2, 3, 4, 5}},
		{6, []int{3, 12, 48, 15}, 16, 4, []int{0, 1, 2, 3, 4, 5}},
		{6, []int{9, 36, 18}, 16, 3, []int{0, 1, 4, 2, 5, 3}},
		{6, []int{21}, 36, 1, []int{0, 1, 3, 5, 2, 4}},
		{6, []int{21, 42, 7}, 8, 3, []int{0, 1, 3, 5, 4, 2}},
		{6, []int{21, 42, 3, 6}, 0, 3, nil},
	} {
		count, ok := impl.ArcRings(c.n, c.sets)
		wantNumber(t, count, ok, c.count, "ArcRings", c.n, c.sets)
		most, ok := impl.ArcMost(c.n, c.sets)
		wantNumber(t, most, ok, c.most, "ArcMost", c.n, c.sets)
		first, ok := impl.ArcFirst(c.n, c.sets)
		if c.count == 0 {
			wantNoList(t, first, ok, "ArcFirst", c.n, c.sets)
		} else {
			wantList(t, first, ok, c.first, "ArcFirst", c.n, c.sets)
		}
	}
}

func TestArcCommon(t *testing.T) {
	everyTwoRings(func(a, b []int) {
		got, ok := impl.ArcCommon(a, b)
		wantList(t, got, ok, commonOf(a, b), "ArcCommon", a, b)
	})
	everyNoTwoRings(func(a, b []int) {
		got, ok := impl.ArcCommon(a, b)
		wantNoList(t, got, ok, "ArcCommon", a, b)
	})
}

func TestArcCommonByHand(t *testing.T) {
	for _, c := range []struct {
		a, b []int
		want []int
	}{
		{[]int{0, 1, 2}, []int{0, 2, 1}, []int{1, 2, 3, 4, 5, 6}},
		{[]int{0, 1, 2, 3}, []int{0, 2, 1, 3}, []int{1, 2, 4, 6, 7, 8, 9, 11, 13, 14}},
		{[]int{0, 1, 2, 3}, []int{0, 3, 2, 1}, []int{1, 2, 3, 4, 6, 7, 8, 9, 11, 12, 13, 14}},
		// Only one point, and all but one.
		{[]int{0, 1, 2, 3, 4}, []int{0, 2, 4, 1, 3}, []int{1, 2, 4, 8, 15, 16, 23, 27, 29, 30}},
		// Beside these the two that stay beside each other three times, 0 1 2, and what they leave.
		{[]int{0, 1, 2, 3, 4, 5}, []int{0, 2, 1, 4, 3, 5}, []int{1, 2, 4, 6, 7, 8, 16, 24, 31, 32, 33, 39, 47, 55, 56, 57, 59, 61, 62, 30}},
	} {
		slices.Sort(c.want)
		for _, two := range [][2][]int{{c.a, c.b}, {c.b, c.a}, {backwards(c.a), c.b}, {c.a, backwards(c.b)}} {
			got, ok := impl.ArcCommon(two[0], two[1])
			wantList(t, got, ok, c.want, "ArcCommon", two[0], two[1])
		}
	}
}

// The arcs in common are the sets that ArcIs holds for with both rings.
func TestArcCommonByArcIs(t *testing.T) {
	everyTwoAsked(func(a, b []int) {
		want := []int{}
		for set := range 1 << len(a) {
			if impl.ArcIs(a, set) && impl.ArcIs(b, set) {
				want = append(want, set)
			}
		}
		got, ok := impl.ArcCommon(a, b)
		wantList(t, got, ok, want, "ArcCommon", a, b)
	})
}
