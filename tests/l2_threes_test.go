package tests

import (
	"math"
	"math/rand"
	"slices"
	"testing"

	"loop.example/ringorders/impl"
)

// The functions below tell again, in the plainest way, what chapter 2 says; the tests hold the program against them.

// askedSizes are the numbers of points that a telling may have.
var askedSizes = []int{3, 4, 5, 6}

// notAskedSizes are numbers of points of which there is no telling.
func notAskedSizes() []int {
	return append([]int{7}, noSizes...)
}

// has reports whether one meets the second point of a three on the way from the first one to the third one.
func has(a []int, t []int) bool {
	return slices.Contains(walk(a, t[0], t[2]), t[1])
}

// manyOf returns the number of places of a list whose threes a ring has.
func manyOf(a []int, list [][]int) int {
	many := 0
	for _, t := range list {
		if has(a, t) {
			many++
		}
	}
	return many
}

// threesOf returns, in the order of lists, all threes of n points for which something holds.
func threesOf(n int, holds func(t []int) bool) [][]int {
	threes := [][]int{}
	for i := range n * n * n {
		t := []int{i / n / n, i / n % n, i % n}
		if t[0] != t[1] && t[1] != t[2] && t[0] != t[2] && holds(t) {
			threes = append(threes, t)
		}
	}
	return threes
}

// allThrees returns, in the order of lists, all threes of n points.
func allThrees(n int) [][]int {
	return threesOf(n, func([]int) bool { return true })
}

// crossed returns a three with the last two points exchanged.
func crossed(t []int) []int {
	return []int{t[0], t[2], t[1]}
}

// ringsWith returns, in the order of lists, the rings of n points that have all threes of a list.
func ringsWith(n int, list [][]int) [][]int {
	return slices.DeleteFunc(allRings(n), func(a []int) bool { return manyOf(a, list) < len(list) })
}

// closingOf returns the closing of a list of threes of n points, by going over all points again and again until nothing new follows.
func closingOf(n int, list [][]int) [][]int {
	var in [6][6][6]bool
	for _, t := range list {
		in[t[0]][t[1]][t[2]] = true
	}
	all := allThrees(n)
	for grown := true; grown; {
		grown = false
		add := func(a, b, c int) {
			grown = grown || !in[a][b][c]
			in[a][b][c] = true
		}
		for _, t := range all {
			a, b, c := t[0], t[1], t[2]
			if !in[a][b][c] {
				continue
			}
			add(b, c, a)
			add(c, a, b)
			for d := range n {
				if d != b && in[a][c][d] {
					add(a, b, d)
				}
			}
		}
	}
	return threesOf(n, func(t []int) bool { return in[t[0]][t[1]][t[2]] })
}

// clashing reports whether a list of threes has one with the last two points exchanged as well.
func clashing(list [][]int) bool {
	return slices.ContainsFunc(list, func(t []int) bool {
		return slices.ContainsFunc(list, func(u []int) bool { return slices.Equal(u, crossed(t)) })
	})
}

// mostOf returns the greatest number of places of a list whose threes a ring of n points has, and the first such ring.
func mostOf(n int, list [][]int) (int, []int) {
	most, first := -1, []int(nil)
	for _, a := range allRings(n) {
		if many := manyOf(a, list); many > most {
			most, first = many, a
		}
	}
	return most, first
}

// tellingsOf returns tellings of n points: all short ones or some of them, and long ones that a ring has, but for some threes, or not.
func tellingsOf(n int) [][][]int {
	all := allThrees(n)
	tellings := [][][]int{nil, {}, all[:min(40, len(all))]}
	for i, t := range all {
		tellings = append(tellings, [][]int{t}, [][]int{t, t}, [][]int{t, crossed(t), t})
		for j := (i * i) % (n - 2); j < len(all); j += 1 + (n-3)*(n-3) {
			tellings = append(tellings, [][]int{t, all[j]}, [][]int{all[j], t, all[(i+7*j+3)%len(all)]})
		}
	}
	random := rand.New(rand.NewSource(int64(n)))
	rings := allRings(n)
	for i := range 600 {
		a := rings[random.Intn(len(rings))]
		size := 1 + i%40
		wrong := []int{0, 0, 1, 2, 40}[random.Intn(5)]
		telling := [][]int{}
		for range size {
			t := all[random.Intn(len(all))]
			if !has(a, t) && len(telling) >= wrong {
				t = crossed(t)
			}
			telling = append(telling, t)
		}
		tellings = append(tellings, telling)
	}
	return tellings
}

// everyTelling runs a check for tellings of all sizes.
func everyTelling(check func(n int, list [][]int)) {
	for _, n := range askedSizes {
		for _, list := range tellingsOf(n) {
			check(n, list)
		}
	}
}

// noThrees returns lists that are no threes of n points.
func noThrees(n int) [][]int {
	lists := [][]int{
		nil, {}, {0}, {1}, {0, 1}, {2, 1}, {0, 1, 2, 0}, {0, 1, 2, 2}, {0, 1, 2, 3}, {0, 1, 2, 0, 1, 2}, make([]int, 1000),
		{0, 0, 0}, {2, 2, 2}, {0, 0, 1}, {0, 1, 0}, {1, 0, 0}, {2, 2, 1}, {2, 1, 2}, {1, 2, 2},
		{-1, 0, 1}, {0, -1, 1}, {0, 1, -1}, {-1, -2, -3}, {n, 0, 1}, {0, n, 1}, {0, 1, n}, {n, n + 1, n + 2},
	}
	for _, x := range noPoints(n) {
		lists = append(lists, []int{x, 1, 2}, []int{1, x, 2}, []int{1, 2, x}, []int{x, x, 1}, []int{x, x, x})
	}
	return lists
}

// longTelling returns a list of as many threes of n points, the same ones again and again.
func longTelling(n int, size int) [][]int {
	all := allThrees(n)
	return slices.Repeat(all, size/len(all)+1)[:size]
}

// noTellingsOfThrees returns lists that are no tellings of n points, for an n that has some.
func noTellingsOfThrees(n int) [][][]int {
	lists := [][][]int{longTelling(n, 41), longTelling(n, 42), longTelling(n, 1000), make([][]int, 41), make([][]int, 40), slices.Repeat([][]int{{0, 1, 2}}, 41)}
	for _, no := range noThrees(n) {
		ahead := append([][]int{no}, longTelling(n, 39)...)
		behind := append(longTelling(n, 39), no)
		between := append(longTelling(n, 3), no, []int{0, 1, 2})
		lists = append(lists, [][]int{no}, ahead, behind, between)
	}
	return lists
}

// everyNoTelling runs a check for numbers and lists that are no tellings.
func everyNoTelling(check func(n int, list [][]int)) {
	for _, n := range askedSizes {
		for _, list := range noTellingsOfThrees(n) {
			check(n, list)
		}
	}
	for _, n := range notAskedSizes() {
		for _, list := range [][][]int{nil, {}, {nil}, {{0, 1, 2}}, {{2, 0, 1}, {0, 1, 2}}, {{0, 0, 1}}, {{-1, 0, 1}}, {{4, 5, 6}}, longTelling(3, 40), longTelling(3, 41)} {
			check(n, list)
		}
	}
}

func TestThreeIn(t *testing.T) {
	everyRing(func(a []int) {
		for _, x := range allThrees(len(a)) {
			wantBool(t, impl.ThreeIn(a, x), has(a, x), "ThreeIn", a, x)
		}
	})
	wantBool(t, impl.ThreeIn([]int{0, 2, 1, 3}, []int{2, 3, 0}), true, "ThreeIn")
	wantBool(t, impl.ThreeIn([]int{0, 2, 1, 3}, []int{2, 3, 1}), false, "ThreeIn")
	for _, n := range sizes {
		for _, a := range [][]int{allRings(n)[0], allRings(n)[1]} {
			for _, no := range noThrees(n) {
				wantBool(t, impl.ThreeIn(a, no), false, "ThreeIn", a, no)
			}
		}
	}
	for _, no := range noRings() {
		for _, x := range append(allThrees(4), noThrees(len(no))...) {
			wantBool(t, impl.ThreeIn(no, x), false, "ThreeIn", no, x)
		}
	}
}

func TestThreeAll(t *testing.T) {
	everyRing(func(a []int) {
		got, ok := impl.ThreeAll(a)
		wantLists(t, got, ok, threesOf(len(a), func(x []int) bool { return has(a, x) }), "ThreeAll", a)
	})
	got, ok := impl.ThreeAll([]int{0, 2, 1})
	wantLists(t, got, ok, [][]int{{0, 2, 1}, {1, 0, 2}, {2, 1, 0}}, "ThreeAll")
	for _, no := range noRings() {
		got, ok := impl.ThreeAll(no)
		wantNoLists(t, got, ok, "ThreeAll", no)
	}
}

func TestThreeTelling(t *testing.T) {
	everyTelling(func(n int, list [][]int) {
		wantBool(t, impl.ThreeTelling(n, list), true, "ThreeTelling", n, list)
	})
	for _, n := range askedSizes {
		for size := range 41 {
			wantBool(t, impl.ThreeTelling(n, longTelling(n, size)), true, "ThreeTelling", n, size)
		}
	}
	everyNoTelling(func(n int, list [][]int) {
		wantBool(t, impl.ThreeTelling(n, list), false, "ThreeTelling", n, list)
	})
	for _, list := range shortLists() {
		if len(list) == 3 {
			for _, n := range askedSizes {
				fits := !slices.ContainsFunc(list, func(x int) bool { return x < 0 || x >= n })
				three := fits && list[0] != list[1] && list[1] != list[2] && list[0] != list[2]
				wantBool(t, impl.ThreeTelling(n, [][]int{list}), three, "ThreeTelling", n, list)
			}
		}
	}
}

func TestThreeClose(t *testing.T) {
	everyTelling(func(n int, list [][]int) {
		got, ok := impl.ThreeClose(n, list)
		wantLists(t, got, ok, closingOf(n, list), "ThreeClose", n, list)
	})
	everyNoTelling(func(n int, list [][]int) {
		got, ok := impl.ThreeClose(n, list)
		wantNoLists(t, got, ok, "ThreeClose", n, list)
	})
}

func TestThreeCloseByHand(t *testing.T) {
	for _, c := range []struct {
		n    int
		list [][]int
		want [][]int
	}{
		{3, nil, nil},
		{6, [][]int{}, nil},
		{3, [][]int{{0, 1, 2}}, [][]int{{0, 1, 2}, {1, 2, 0}, {2, 0, 1}}},
		{6, [][]int{{5, 0, 3}, {5, 0, 3}}, [][]int{{0, 3, 5}, {3, 5, 0}, {5, 0, 3}}},
		{4, [][]int{{0, 1, 2}, {0, 2, 3}}, [][]int{{0, 1, 2}, {0, 1, 3}, {0, 2, 3}, {1, 2, 0}, {1, 2, 3}, {1, 3, 0}, {2, 0, 1}, {2, 3, 0}, {2, 3, 1}, {3, 0, 1}, {3, 0, 2}, {3, 1, 2}}},
		{4, [][]int{{0, 1, 2}, {0, 2, 1}}, [][]int{{0, 1, 2}, {0, 2, 1}, {1, 0, 2}, {1, 2, 0}, {2, 0, 1}, {2, 1, 0}}},
		{5, [][]int{{0, 1, 2}, {0, 3, 4}}, [][]int{{0, 1, 2}, {0, 3, 4}, {1, 2, 0}, {2, 0, 1}, {3, 4, 0}, {4, 0, 3}}},
	} {
		got, ok := impl.ThreeClose(c.n, c.list)
		wantLists(t, got, ok, c.want, "ThreeClose", c.n, c.list)
	}
}

func TestThreeClash(t *testing.T) {
	clashes := 0
	everyTelling(func(n int, list [][]int) {
		want := clashing(closingOf(n, list))
		if want {
			clashes++
		}
		wantBool(t, impl.ThreeClash(n, list), want, "ThreeClash", n, list)
	})
	if clashes < 100 {
		t.Errorf("only %d tellings clash", clashes)
	}
	everyNoTelling(func(n int, list [][]int) {
		wantBool(t, impl.ThreeClash(n, list), false, "ThreeClash", n, list)
	})
	wantBool(t, impl.ThreeClash(4, [][]int{{0, 1, 2}, {1, 0, 2}}), true, "ThreeClash")
	wantBool(t, impl.ThreeClash(4, [][]int{{0, 1, 2}, {0, 2, 3}, {3, 0, 1}}), false, "ThreeClash")
	wantBool(t, impl.ThreeClash(4, [][]int{{0, 1, 2}, {0, 2, 3}, {0, 3, 1}}), true, "ThreeClash")
	// Those that clash at once are none if one three is none, or if they are too many.
	wantBool(t, impl.ThreeClash(3, [][]int{{0, 1, 2}, {0, 2, 1}, {0, 1, 3}}), false, "ThreeClash")
	wantBool(t, impl.ThreeClash(6, longTelling(6, 41)), false, "ThreeClash")
}

func TestThreeRingsAndFirst(t *testing.T) {
	none := 0
	everyTelling(func(n int, list [][]int) {
		rings := ringsWith(n, list)
		many, ok := impl.ThreeRings(n, list)
		wantNumber(t, many, ok, len(rings), "ThreeRings", n, list)
		first, ok := impl.ThreeFirst(n, list)
		if len(rings) == 0 {
			none++
			wantNoList(t, first, ok, "ThreeFirst", n, list)
		} else {
			wantList(t, first, ok, rings[0], "ThreeFirst", n, list)
		}
	})
	if none < 100 {
		t.Errorf("only %d tellings have no ring", none)
	}
	everyNoTelling(func(n int, list [][]int) {
		many, ok := impl.ThreeRings(n, list)
		wantNoNumber(t, many, ok, "ThreeRings", n, list)
		first, ok := impl.ThreeFirst(n, list)
		wantNoList(t, first, ok, "ThreeFirst", n, list)
	})
	many, ok := impl.ThreeRings(6, nil)
	wantNumber(t, many, ok, 120, "ThreeRings", 6)
	first, ok := impl.ThreeFirst(4, [][]int{{0, 2, 1}})
	wantList(t, first, ok, []int{0, 2, 1, 3}, "ThreeFirst")
}

func TestThreeSure(t *testing.T) {
	everyTelling(func(n int, list [][]int) {
		rings := ringsWith(n, list)
		want := threesOf(n, func(x []int) bool {
			return !slices.ContainsFunc(rings, func(a []int) bool { return !has(a, x) })
		})
		got, ok := impl.ThreeSure(n, list)
		wantLists(t, got, ok, want, "ThreeSure", n, list)
	})
	everyNoTelling(func(n int, list [][]int) {
		got, ok := impl.ThreeSure(n, list)
		wantNoLists(t, got, ok, "ThreeSure", n, list)
	})
	got, ok := impl.ThreeSure(5, nil)
	wantLists(t, got, ok, nil, "ThreeSure", 5)
	got, ok = impl.ThreeSure(5, [][]int{{0, 1, 2}, {0, 2, 1}})
	wantLists(t, got, ok, allThrees(5), "ThreeSure", 5)
}

func TestThreeMostAndRing(t *testing.T) {
	everyTelling(func(n int, list [][]int) {
		most, ring := mostOf(n, list)
		got, ok := impl.ThreeMost(n, list)
		wantNumber(t, got, ok, most, "ThreeMost", n, list)
		a, ok := impl.ThreeMostRing(n, list)
		wantList(t, a, ok, ring, "ThreeMostRing", n, list)
	})
	everyNoTelling(func(n int, list [][]int) {
		got, ok := impl.ThreeMost(n, list)
		wantNoNumber(t, got, ok, "ThreeMost", n, list)
		a, ok := impl.ThreeMostRing(n, list)
		wantNoList(t, a, ok, "ThreeMostRing", n, list)
	})
	// The same three counts at each of its places.
	twice := [][]int{{0, 1, 2}, {0, 2, 1}, {0, 2, 1}}
	got, ok := impl.ThreeMost(4, twice)
	wantNumber(t, got, ok, 2, "ThreeMost", 4, twice)
	a, ok := impl.ThreeMostRing(4, twice)
	wantList(t, a, ok, []int{0, 2, 1, 3}, "ThreeMostRing", 4, twice)
	a, ok = impl.ThreeMostRing(6, nil)
	wantList(t, a, ok, []int{0, 1, 2, 3, 4, 5}, "ThreeMostRing", 6)
}

func TestThreeBack(t *testing.T) {
	everyTelling(func(n int, list [][]int) {
		want := [][]int{}
		for _, x := range list {
			want = append(want, crossed(x))
		}
		got, ok := impl.ThreeBack(n, list)
		wantLists(t, got, ok, want, "ThreeBack", n, list)
	})
	everyNoTelling(func(n int, list [][]int) {
		got, ok := impl.ThreeBack(n, list)
		wantNoLists(t, got, ok, "ThreeBack", n, list)
	})
	got, ok := impl.ThreeBack(4, [][]int{{3, 1, 2}, {0, 1, 2}, {3, 1, 2}})
	wantLists(t, got, ok, [][]int{{3, 2, 1}, {0, 2, 1}, {3, 2, 1}}, "ThreeBack")
}

func TestThreesOfGreatNumbers(t *testing.T) {
	for _, n := range []int{math.MaxInt, math.MinInt, 7, 2} {
		for _, size := range []int{0, 1, 40, 41, 100000} {
			list := slices.Repeat([][]int{{0, 1, 2}}, size)
			wantBool(t, impl.ThreeTelling(n, list), false, "ThreeTelling", n, size)
			wantBool(t, impl.ThreeClash(n, list), false, "ThreeClash", n, size)
		}
	}
}
