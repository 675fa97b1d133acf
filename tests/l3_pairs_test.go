package tests

import (
	"math/rand"
	"slices"
	"testing"

	"loop.example/ringorders/impl"
)

// The functions below tell again, in the plainest way, what chapter 3 says; the tests hold the program against them.

// partedSizes are the numbers of points that a scheme may have.
var partedSizes = []int{4, 5, 6}

// notPartedSizes are numbers of points of which there is no scheme.
func notPartedSizes() []int {
	return append([]int{3, 7}, noSizes...)
}

// differ reports whether no number is twice in a list.
func differ(list []int) bool {
	sorted := slices.Clone(list)
	slices.Sort(sorted)
	return len(slices.Compact(sorted)) == len(list)
}

// parted reports whether one meets just one of the last two points of a parting on the way from the first one to the second one.
func parted(a []int, p []int) bool {
	way := walk(a, p[0], p[1])
	return slices.Contains(way, p[2]) != slices.Contains(way, p[3])
}

// allPartings returns, in the order of lists, all partings of n points.
func allPartings(n int) [][]int {
	partings := [][]int{}
	for i := range n * n * n * n {
		p := []int{i / n / n / n, i / n / n % n, i / n % n, i % n}
		if differ(p) {
			partings = append(partings, p)
		}
	}
	return partings
}

// allPairs returns, in the order of lists, all pairs of n points.
func allPairs(n int) [][]int {
	pairs := [][]int{}
	for i := range n * n {
		if i/n != i%n {
			pairs = append(pairs, []int{i / n, i % n})
		}
	}
	return pairs
}

// partingsOf returns, in the order of lists, the partings of a ring that PairAll has.
func partingsOf(a []int) [][]int {
	return slices.DeleteFunc(allPartings(len(a)), func(p []int) bool {
		return p[0] > p[1] || p[2] > p[3] || p[0] > p[2] || !parted(a, p)
	})
}

// ringsParted returns, in the order of lists, the rings of n points on which all partings of a list part.
func ringsParted(n int, list [][]int) [][]int {
	return slices.DeleteFunc(allRings(n), func(a []int) bool {
		return slices.ContainsFunc(list, func(p []int) bool { return !parted(a, p) })
	})
}

// chordsOf returns the number of two places of a list whose pairs part each other.
func chordsOf(a []int, list [][]int) int {
	count := 0
	for i, p := range list {
		for j, q := range list {
			four := slices.Concat(p, q)
			if i < j && differ(four) && parted(a, four) {
				count++
			}
		}
	}
	return count
}

// fewestOf returns the least number of chords that a list has on a ring of n points, and the first such ring.
func fewestOf(n int, list [][]int) (int, []int) {
	fewest, first := -1, []int(nil)
	for _, a := range allRings(n) {
		if count := chordsOf(a, list); fewest < 0 || count < fewest {
			fewest, first = count, a
		}
	}
	return fewest, first
}

// exchanged returns a parting with the second and the third point exchanged.
func exchanged(p []int) []int {
	return []int{p[0], p[2], p[1], p[3]}
}

// longScheme returns a list of as many partings, the same ones of n points again and again.
func longScheme(n int, size int) [][]int {
	all := allPartings(max(n, 4))
	return slices.Repeat(all, size/len(all)+1)[:size]
}

// longPairs returns a list of as many pairs, the same ones of n points again and again.
func longPairs(n int, size int) [][]int {
	all := allPairs(n)
	return slices.Repeat(all, size/len(all)+1)[:size]
}

// schemesOf returns schemes of n points: all of one parting, some of two and three, and long ones that a ring has, but for some partings, or not.
func schemesOf(n int) [][][]int {
	all := allPartings(n)
	schemes := [][][]int{nil, {}, all[:20]}
	for i, p := range all {
		schemes = append(schemes, [][]int{p}, [][]int{p, p}, [][]int{p, exchanged(p), p}, [][]int{p, all[(7*i+5)%len(all)]})
	}
	random := rand.New(rand.NewSource(int64(n)))
	rings := allRings(n)
	for i := range 300 {
		a := rings[random.Intn(len(rings))]
		wrong := []int{0, 0, 0, 1, 20}[random.Intn(5)]
		scheme := [][]int{}
		for range 1 + i%20 {
			p := all[random.Intn(len(all))]
			for !parted(a, p) && len(scheme) >= wrong {
				p = all[random.Intn(len(all))]
			}
			scheme = append(scheme, p)
		}
		schemes = append(schemes, scheme)
	}
	return schemes
}

// everyScheme runs a check for schemes of all sizes.
func everyScheme(check func(n int, list [][]int)) {
	for _, n := range partedSizes {
		for _, list := range schemesOf(n) {
			check(n, list)
		}
	}
}

// pairListsOf returns lists of at most 8 pairs of n points: all of one pair, some of two, the same pair twice, and long ones.
func pairListsOf(n int) [][][]int {
	all := allPairs(n)
	lists := [][][]int{nil, {}, longPairs(n, 7), longPairs(n, 8)}
	for i, p := range all {
		back := []int{p[1], p[0]}
		lists = append(lists, [][]int{p}, [][]int{p, p}, [][]int{back, p})
		for j := i % 3; j < len(all); j += 3 {
			lists = append(lists, [][]int{p, all[j]}, [][]int{all[j], p, all[j]})
		}
	}
	random := rand.New(rand.NewSource(int64(n)))
	for i := range 120 {
		list := [][]int{}
		for range 1 + i%8 {
			list = append(list, all[random.Intn(len(all))])
		}
		lists = append(lists, list)
	}
	// Many pairs of different points are needed for chords on each ring.
	for i := range 60 {
		list := [][]int{}
		for _, place := range random.Perm(len(all)) {
			p := all[place]
			if len(list) < 4+i%5 && !slices.ContainsFunc(list, func(q []int) bool { return q[0] == p[1] && q[1] == p[0] }) {
				list = append(list, p)
			}
		}
		lists = append(lists, list)
	}
	return lists
}

// withNone returns lists that have a list of points that is none of those told, alone, ahead of or behind as many others as there may be, and between some.
func withNone(no []int, others [][]int) [][][]int {
	return [][][]int{{no}, append([][]int{no}, others[1:]...), append(slices.Clone(others[1:]), no), append(slices.Clone(others[:2]), no, others[0])}
}

// noListsOf returns lists that are none of as many different points of n: too short or too long ones, with a point twice, or with a number that is no point.
func noListsOf(n int, size int) [][]int {
	points := []int{0, 1, 2, 3, 4, 5, 6}
	lists := [][]int{nil, {}, make([]int, 1000), make([]int, size)}
	for other := range points {
		if other != size {
			lists = append(lists, points[:other])
		}
	}
	// The same ones with more behind them.
	lists = append(lists, append(slices.Clone(points[:size]), 0), append(slices.Clone(points[:size]), -1), slices.Repeat(points[:size], 2))
	for place := range size {
		for _, x := range append(noPoints(n), points[:size]...) {
			list := slices.Clone(points[:size])
			list[place] = x
			if x != points[place] {
				lists = append(lists, list)
			}
		}
	}
	return lists
}

// noSchemes returns lists that are no schemes of n points, for an n that has some.
func noSchemes(n int) [][][]int {
	lists := [][][]int{longScheme(n, 21), longScheme(n, 22), longScheme(n, 1000), make([][]int, 21), make([][]int, 20), slices.Repeat([][]int{{0, 2, 1, 3}}, 21)}
	for _, no := range noListsOf(n, 4) {
		lists = append(lists, withNone(no, longScheme(n, 20))...)
	}
	return lists
}

// noPairLists returns lists that are no lists of at most 8 pairs of n points.
func noPairLists(n int) [][][]int {
	lists := [][][]int{longPairs(n, 9), longPairs(n, 10), longPairs(n, 1000), make([][]int, 9), make([][]int, 8), slices.Repeat([][]int{{0, 1}}, 9)}
	for _, no := range noListsOf(n, 2) {
		lists = append(lists, withNone(no, longPairs(n, 8))...)
	}
	return lists
}

// everyNoScheme runs a check for numbers and lists that are no schemes.
func everyNoScheme(check func(n int, list [][]int)) {
	for _, n := range partedSizes {
		for _, list := range noSchemes(n) {
			check(n, list)
		}
	}
	for _, n := range notPartedSizes() {
		for _, list := range [][][]int{nil, {}, {nil}, {{0, 2, 1, 3}}, {{0, 1, 2, 3}}, {{0, 2, 1, 3}, {1, 3, 2, 0}}, {{0, 1, 1, 2}}, {{-1, 0, 1, 2}}, {{3, 4, 5, 6}}, {{0, 1, 2}}, longScheme(4, 20), longScheme(4, 21)} {
			check(n, list)
		}
	}
}

func TestPairParts(t *testing.T) {
	everyRing(func(a []int) {
		for _, p := range allPartings(len(a)) {
			wantBool(t, impl.PairParts(a, p), parted(a, p), "PairParts", a, p)
		}
	})
	wantBool(t, impl.PairParts([]int{0, 2, 1, 3}, []int{0, 1, 2, 3}), true, "PairParts")
	wantBool(t, impl.PairParts([]int{0, 2, 1, 3}, []int{3, 2, 1, 0}), true, "PairParts")
	wantBool(t, impl.PairParts([]int{0, 2, 1, 3}, []int{0, 2, 1, 3}), false, "PairParts")
	wantBool(t, impl.PairParts([]int{0, 4, 2, 5, 1, 3}, []int{4, 5, 2, 1}), true, "PairParts")
	wantBool(t, impl.PairParts([]int{0, 4, 2, 5, 1, 3}, []int{4, 5, 0, 1}), false, "PairParts")
	for _, n := range sizes {
		for _, a := range [][]int{allRings(n)[0], allRings(n)[1]} {
			for _, no := range noListsOf(n, 4) {
				wantBool(t, impl.PairParts(a, no), false, "PairParts", a, no)
			}
		}
	}
	for _, no := range noRings() {
		for _, p := range append(allPartings(4), noListsOf(len(no), 4)...) {
			wantBool(t, impl.PairParts(no, p), false, "PairParts", no, p)
		}
	}
}

func TestPairPartsOfThreePoints(t *testing.T) {
	for _, a := range allRings(3) {
		for i := range 5 * 5 * 5 * 5 {
			p := []int{i/125 - 1, i/25%5 - 1, i/5%5 - 1, i%5 - 1}
			wantBool(t, impl.PairParts(a, p), false, "PairParts", a, p)
		}
	}
}

func TestPairAll(t *testing.T) {
	everyRing(func(a []int) {
		got, ok := impl.PairAll(a)
		wantLists(t, got, ok, partingsOf(a), "PairAll", a)
	})
	got, ok := impl.PairAll([]int{0, 2, 1})
	wantLists(t, got, ok, nil, "PairAll")
	got, ok = impl.PairAll([]int{0, 1, 3, 2})
	wantLists(t, got, ok, [][]int{{0, 3, 1, 2}}, "PairAll")
	got, ok = impl.PairAll([]int{0, 3, 1, 2, 4})
	wantLists(t, got, ok, [][]int{{0, 1, 2, 3}, {0, 1, 3, 4}, {0, 2, 1, 4}, {0, 2, 3, 4}, {1, 4, 2, 3}}, "PairAll")
	for _, no := range noRings() {
		got, ok := impl.PairAll(no)
		wantNoLists(t, got, ok, "PairAll", no)
	}
}

func TestPairScheme(t *testing.T) {
	everyScheme(func(n int, list [][]int) {
		wantBool(t, impl.PairScheme(n, list), true, "PairScheme", n, list)
	})
	for _, n := range partedSizes {
		for size := range 21 {
			wantBool(t, impl.PairScheme(n, longScheme(n, size)), true, "PairScheme", n, size)
		}
	}
	everyNoScheme(func(n int, list [][]int) {
		wantBool(t, impl.PairScheme(n, list), false, "PairScheme", n, list)
	})
	for _, list := range shortLists() {
		if len(list) == 4 {
			for _, n := range partedSizes {
				fits := !slices.ContainsFunc(list, func(x int) bool { return x < 0 || x >= n })
				wantBool(t, impl.PairScheme(n, [][]int{list}), fits && differ(list), "PairScheme", n, list)
			}
		}
	}
}

func TestPairRingsAndFirst(t *testing.T) {
	none := 0
	everyScheme(func(n int, list [][]int) {
		rings := ringsParted(n, list)
		many, ok := impl.PairRings(n, list)
		wantNumber(t, many, ok, len(rings), "PairRings", n, list)
		first, ok := impl.PairFirst(n, list)
		if len(rings) == 0 {
			none++
			wantNoList(t, first, ok, "PairFirst", n, list)
		} else {
			wantList(t, first, ok, rings[0], "PairFirst", n, list)
		}
	})
	if none < 100 {
		t.Errorf("only %d schemes have no ring", none)
	}
	everyNoScheme(func(n int, list [][]int) {
		many, ok := impl.PairRings(n, list)
		wantNoNumber(t, many, ok, "PairRings", n, list)
		first, ok := impl.PairFirst(n, list)
		wantNoList(t, first, ok, "PairFirst", n, list)
	})
}

func TestPairRingsByHand(t *testing.T) {
	for _, c := range []struct {
		n     int
		list  [][]int
		many  int
		first []int
	}{
		{4, nil, 6, []int{0, 1, 2, 3}},
		{6, [][]int{}, 120, []int{0, 1, 2, 3, 4, 5}},
		{4, [][]int{{0, 1, 2, 3}}, 2, []int{0, 2, 1, 3}},
		{4, [][]int{{2, 1, 3, 0}, {2, 1, 3, 0}}, 2, []int{0, 1, 3, 2}},
		{5, [][]int{{3, 0, 1, 2}}, 8, []int{0, 1, 3, 2, 4}},
		{4, [][]int{{0, 1, 2, 3}, {0, 2, 1, 3}}, 0, nil},
	} {
		many, ok := impl.PairRings(c.n, c.list)
		wantNumber(t, many, ok, c.many, "PairRings", c.n, c.list)
		first, ok := impl.PairFirst(c.n, c.list)
		if c.many == 0 {
			wantNoList(t, first, ok, "PairFirst", c.n, c.list)
		} else {
			wantList(t, first, ok, c.first, "PairFirst", c.n, c.list)
		}
	}
}

func TestPairMany(t *testing.T) {
	want := []int{4: 1, 5: 5, 6: 15, 7: 35}
	everyRing(func(a []int) {
		many, ok := impl.PairMany(a)
		if len(a) == 3 {
			wantNoNumber(t, many, ok, "PairMany", a)
		} else {
			wantNumber(t, many, ok, want[len(a)], "PairMany", a)
		}
	})
	for _, no := range noRings() {
		many, ok := impl.PairMany(no)
		wantNoNumber(t, many, ok, "PairMany", no)
	}
}

func TestPairBeside(t *testing.T) {
	everyRing(func(a []int) {
		n := len(a)
		for i, x := range a {
			for j, y := range a {
				steps := (j - i + n) % n
				wantBool(t, impl.PairBeside(a, x, y), steps == 1 || steps == n-1, "PairBeside", a, x, y)
			}
		}
		for _, no := range noPoints(n) {
			for x := range n {
				wantBool(t, impl.PairBeside(a, no, x) || impl.PairBeside(a, x, no) || impl.PairBeside(a, no, no), false, "PairBeside", a, no, x)
			}
		}
	})
	for _, no := range noRings() {
		for x := range 4 {
			for y := range 4 {
				wantBool(t, impl.PairBeside(no, x, y), false, "PairBeside", no, x, y)
			}
		}
	}
}

func TestPairSame(t *testing.T) {
	for _, n := range sizes {
		rings := allRings(n)
		step := 1
		if n == 7 {
			step = 97
		}
		partings := [][][]int{}
		for _, a := range rings {
			partings = append(partings, partingsOf(a))
		}
		for i := range rings {
			for j := i % step; j < len(rings); j += step {
				want := n > 3 && sameLists(partings[i], partings[j])
				wantBool(t, impl.PairSame(rings[i], rings[j]), want, "PairSame", rings[i], rings[j])
			}
			wantBool(t, impl.PairSame(rings[i], rings[i]), n > 3, "PairSame", rings[i], rings[i])
			wantBool(t, impl.PairSame(rings[i], backwards(rings[i])), n > 3, "PairSame back", rings[i])
		}
	}
}

func TestPairSameOfUnlikeRings(t *testing.T) {
	for _, n := range sizes {
		for _, m := range sizes {
			if m != n {
				wantBool(t, impl.PairSame(allRings(n)[0], allRings(m)[0]), false, "PairSame", n, m)
			}
		}
	}
	for _, no := range noRings() {
		wantBool(t, impl.PairSame(no, no), false, "PairSame", no, no)
		for _, n := range sizes {
			for _, a := range allRings(n)[:2] {
				wantBool(t, impl.PairSame(a, no) || impl.PairSame(no, a), false, "PairSame", a, no)
			}
		}
	}
}

func TestPairChords(t *testing.T) {
	for _, n := range sizes {
		rings := allRings(n)
		for i, list := range pairListsOf(n) {
			for j := i % 7; j < len(rings); j += 1 + len(rings)/10 {
				got, ok := impl.PairChords(rings[j], list)
				wantNumber(t, got, ok, chordsOf(rings[j], list), "PairChords", rings[j], list)
			}
		}
		for _, no := range noPairLists(n) {
			got, ok := impl.PairChords(rings[len(rings)/2], no)
			wantNoNumber(t, got, ok, "PairChords", rings[len(rings)/2], no)
		}
	}
	for _, no := range noRings() {
		for _, list := range [][][]int{nil, {}, {{0, 2}, {1, 3}}, {{0, 1}}, {{0}}} {
			got, ok := impl.PairChords(no, list)
			wantNoNumber(t, got, ok, "PairChords", no, list)
		}
	}
}

func TestPairChordsByHand(t *testing.T) {
	for _, c := range []struct {
		a    []int
		list [][]int
		want int
	}{
		{[]int{0, 1, 2}, nil, 0},
		{[]int{0, 1, 2}, [][]int{{0, 1}, {1, 2}, {2, 0}, {0, 1}}, 0},
		{[]int{0, 1, 2, 3}, [][]int{{0, 2}, {1, 3}}, 1},
		{[]int{0, 2, 1, 3}, [][]int{{0, 2}, {1, 3}}, 0},
		{[]int{0, 1, 2, 3}, [][]int{{2, 0}, {3, 1}, {0, 2}}, 2},
		{[]int{0, 1, 2, 3}, [][]int{{0, 2}, {1, 3}, {2, 0}, {3, 1}}, 4},
		{[]int{0, 1, 2, 3, 4}, [][]int{{0, 2}, {2, 4}, {4, 1}, {1, 3}, {3, 0}}, 5},
		{[]int{0, 1, 2, 3, 4, 5, 6}, [][]int{{0, 3}, {3, 6}, {0, 6}, {6, 6 - 5}}, 1},
		{[]int{0, 1, 2, 3}, [][]int{{0, 2}, {0, 2}, {0, 2}, {0, 2}, {1, 3}, {1, 3}, {1, 3}, {1, 3}}, 16},
	} {
		got, ok := impl.PairChords(c.a, c.list)
		wantNumber(t, got, ok, c.want, "PairChords", c.a, c.list)
	}
}

// wantFewest fails the test if PairFewest of a list is not as it must be.
func wantFewest(t *testing.T, n int, list [][]int, fewest int, ring []int) {
	t.Helper()
	got, a, ok := impl.PairFewest(n, list)
	wantNumber(t, got, ok, fewest, "PairFewest", n, list)
	wantList(t, a, ok, ring, "the ring of PairFewest", n, list)
}

// wantNoFewest fails the test if PairFewest does not fail for a list.
func wantNoFewest(t *testing.T, n int, list [][]int) {
	t.Helper()
	got, a, ok := impl.PairFewest(n, list)
	wantNoNumber(t, got, ok, "PairFewest", n, list)
	wantNoList(t, a, ok, "the ring of PairFewest", n, list)
}

func TestPairFewest(t *testing.T) {
	for _, n := range partedSizes {
		for _, list := range pairListsOf(n) {
			fewest, ring := fewestOf(n, list)
			wantFewest(t, n, list, fewest, ring)
		}
		for _, no := range noPairLists(n) {
			wantNoFewest(t, n, no)
		}
	}
	for _, n := range notPartedSizes() {
		for _, list := range [][][]int{nil, {}, {nil}, {{0, 1}}, {{0, 2}, {1, 2}}, {{0, 2}, {1, 3}}, {{0, 0}}, {{-1, 0}}, {{5, 6}}, longPairs(3, 8), longPairs(3, 9)} {
			wantNoFewest(t, n, list)
		}
	}
}

func TestPairFewestByHand(t *testing.T) {
	wantFewest(t, 4, nil, 0, []int{0, 1, 2, 3})
	wantFewest(t, 6, [][]int{{0, 2}, {1, 3}}, 0, []int{0, 1, 3, 2, 4, 5})
	wantFewest(t, 4, [][]int{{0, 1}, {0, 2}, {0, 3}, {1, 2}, {1, 3}, {2, 3}}, 1, []int{0, 1, 2, 3})
	// The pairs that are parted must not be the ones that are told twice.
	wantFewest(t, 4, [][]int{{0, 1}, {0, 2}, {2, 0}, {0, 3}, {1, 2}, {1, 3}, {2, 3}}, 1, []int{0, 1, 3, 2})
	wantFewest(t, 4, [][]int{{0, 1}, {0, 2}, {0, 2}, {0, 3}, {1, 2}, {1, 3}, {3, 0}, {2, 3}}, 1, []int{0, 2, 1, 3})
}
