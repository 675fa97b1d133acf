package tests

import (
	"slices"
	"testing"

	"loop.example/ringorders/impl"
)

// partedRings runs a check for all rings of four points at least.
func partedRings(check func(a []int)) {
	for _, n := range sizes[1:] {
		for _, a := range allRings(n) {
			check(a)
		}
	}
}

// chooseFour returns the number of ways to choose four of n points.
func chooseFour(n int) int {
	return n * (n - 1) * (n - 2) * (n - 3) / 24
}

// everyPairList runs a check for lists of at most 8 pairs of 4 to 6 points.
func everyPairList(check func(n int, list [][]int)) {
	for _, n := range partedSizes {
		for _, list := range pairListsOf(n) {
			check(n, list)
		}
	}
}

func TestP28(t *testing.T) {
	partedRings(func(a []int) {
		back := backwards(a)
		held := 0
		for _, p := range allPartings(len(a)) {
			if !impl.PairParts(a, p) {
				continue
			}
			held++
			wantBool(t, impl.PairParts(a, []int{p[2], p[3], p[0], p[1]}), true, "PairParts of both pairs exchanged", a, p)
			wantBool(t, impl.PairParts(a, []int{p[1], p[0], p[2], p[3]}), true, "PairParts of the first pair turned", a, p)
			wantBool(t, impl.PairParts(a, []int{p[0], p[1], p[3], p[2]}), true, "PairParts of the second pair turned", a, p)
			wantBool(t, impl.PairParts(back, p), true, "PairParts of RingBack", a, p)
			wantBool(t, impl.PairParts(a, exchanged(p)), false, "PairParts exchanged", a, p)
		}
		if held != 8*chooseFour(len(a)) {
			t.Fatalf("PairParts holds for %d partings of %v", held, a)
		}
	})
}

func TestP29(t *testing.T) {
	for _, n := range sizes[1:] {
		rings := allRings(n)
		for i, a := range rings {
			lists, ok := impl.PairAll(a)
			all := mustLists(t, lists, ok)
			many, ok := impl.PairMany(a)
			wantNumber(t, len(all), true, mustNumber(t, many, ok), "the length of PairAll", a)
			next := rings[(i+1)%len(rings)]
			lists, ok = impl.PairAll(next)
			wantBool(t, sameLists(mustLists(t, lists, ok), all), slices.Equal(next, backwards(a)), "the same PairAll", a, next)
		}
	}
	// It also succeeds for three points, with no parting.
	for _, a := range allRings(3) {
		lists, ok := impl.PairAll(a)
		wantLists(t, lists, ok, nil, "PairAll", a)
	}
}

func TestP30(t *testing.T) {
	everyScheme(func(n int, list [][]int) {
		if len(list) > 0 && (!impl.PairScheme(n, list) || !impl.PairScheme(n, list[1:])) {
			t.Fatalf("PairScheme does not hold for %v, or without its first parting", list)
		}
	})
	everyNoScheme(func(n int, list [][]int) {
		wantBool(t, impl.PairScheme(n, list), false, "PairScheme", n, list)
	})
}

func TestP31(t *testing.T) {
	everyScheme(func(n int, list [][]int) {
		many, ok := impl.PairRings(n, list)
		_, first := impl.PairFirst(n, list)
		if mustNumber(t, many, ok)%2 != 0 || first != (many > 0) {
			t.Fatalf("PairRings of %v is %d, but PairFirst succeeds: %v", list, many, first)
		}
	})
	everyNoScheme(func(n int, list [][]int) {
		_, many := impl.PairRings(n, list)
		_, first := impl.PairFirst(n, list)
		wantBool(t, many || first, false, "PairRings or PairFirst", n, list)
	})
}

func TestP32(t *testing.T) {
	found := 0
	everyScheme(func(n int, list [][]int) {
		a, ok := impl.PairFirst(n, list)
		if !ok {
			return
		}
		found++
		for _, p := range list {
			wantBool(t, len(a) == n && impl.PairParts(a, p), true, "PairParts of PairFirst", a, p)
		}
		number, ok := impl.RingNumber(a)
		back, ok2 := impl.RingBack(a)
		behind, ok3 := impl.RingNumber(mustList(t, back, ok2))
		if mustNumber(t, number, ok) > mustNumber(t, behind, ok3) {
			t.Fatalf("PairFirst of %v is %v, which comes behind %v", list, a, back)
		}
	})
	if found < 1000 {
		t.Errorf("PairFirst succeeds for only %d schemes", found)
	}
}

func TestP33(t *testing.T) {
	partedRings(func(a []int) {
		many, ok := impl.PairMany(a)
		wantNumber(t, many, ok, chooseFour(len(a)), "PairMany", a)
	})
	for _, no := range append(allRings(3), noRings()...) {
		many, ok := impl.PairMany(no)
		wantNoNumber(t, many, ok, "PairMany", no)
	}
}

func TestP34(t *testing.T) {
	everyRing(func(a []int) {
		for _, p := range allPairs(len(a)) {
			x, y := p[0], p[1]
			parts := false
			for _, q := range allPairs(len(a)) {
				parts = parts || impl.PairParts(a, []int{x, y, q[0], q[1]})
			}
			wantBool(t, impl.PairBeside(a, x, y), !parts, "PairBeside", a, x, y)
			wantBool(t, impl.PairBeside(a, y, x), !parts, "PairBeside exchanged", a, x, y)
		}
	})
}

func TestP35(t *testing.T) {
	for _, n := range sizes {
		rings := allRings(n)
		for i, list := range pairListsOf(n) {
			a := rings[i%len(rings)]
			chords, ok := impl.PairChords(a, list)
			back, ok2 := impl.PairChords(backwards(a), list)
			wantNumber(t, mustNumber(t, chords, ok), ok, mustNumber(t, back, ok2), "PairChords of RingBack", a, list)
			fewest, _, told := impl.PairFewest(n, list)
			wantBool(t, told, n >= 4 && n <= 6, "PairFewest is told", n, list)
			if 2*chords > len(list)*(len(list)-1) || told && chords < fewest {
				t.Fatalf("PairChords of %v, %v is %d, PairFewest %d", a, list, chords, fewest)
			}
		}
	}
}

func TestP36(t *testing.T) {
	crossing := 0
	everyPairList(func(n int, list [][]int) {
		fewest, a, ok := impl.PairFewest(n, list)
		chords, ok2 := impl.PairChords(mustList(t, a, ok), list)
		wantNumber(t, fewest, ok, mustNumber(t, chords, ok2), "PairFewest", n, list)
		if len(a) != n || len(list) <= 3 && fewest != 0 {
			t.Fatalf("PairFewest of %d, %v is %d and %v", n, list, fewest, a)
		}
		if fewest > 0 {
			crossing++
		}
	})
	if crossing < 20 {
		t.Errorf("PairFewest is not 0 for only %d lists", crossing)
	}
}

func TestP37(t *testing.T) {
	for _, n := range partedSizes {
		for _, a := range allRings(n) {
			for _, b := range allRings(n) {
				same := slices.Equal(a, b) || slices.Equal(b, backwards(a))
				wantBool(t, impl.PairSame(a, b), same, "PairSame", a, b)
				wantBool(t, impl.PairSame(b, a), same, "PairSame", b, a)
			}
		}
	}
	for _, a := range allRings(3) {
		wantBool(t, impl.PairSame(a, a) || impl.PairSame(a, backwards(a)), false, "PairSame", a)
	}
}

func TestP38(t *testing.T) {
	partedRings(func(a []int) {
		for _, p := range allPartings(len(a)) {
			third := impl.ThreeIn(a, []int{p[0], p[2], p[1]})
			fourth := impl.ThreeIn(a, []int{p[0], p[3], p[1]})
			wantBool(t, impl.PairParts(a, p), third != fourth, "PairParts", a, p)
		}
	})
}
