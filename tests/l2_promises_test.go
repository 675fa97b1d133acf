package tests

import (
	"slices"
	"testing"

	"loop.example/ringorders/impl"
)

// mustLists returns a list of lists that a call returned with true.
func mustLists(t *testing.T, lists [][]int, ok bool) [][]int {
	t.Helper()
	if !ok {
		t.Fatal("a call failed for valid arguments")
	}
	return lists
}

// askedRings runs a check for all rings of at most 6 points.
func askedRings(check func(a []int)) {
	for _, n := range askedSizes {
		for _, a := range allRings(n) {
			check(a)
		}
	}
}

// countIn returns the number of places of a telling for which ThreeIn holds.
func countIn(a []int, list [][]int) int {
	count := 0
	for _, x := range list {
		if impl.ThreeIn(a, x) {
			count++
		}
	}
	return count
}

func TestP15(t *testing.T) {
	everyRing(func(a []int) {
		back := backwards(a)
		held := 0
		for _, x := range allThrees(len(a)) {
			if !impl.ThreeIn(a, x) {
				continue
			}
			held++
			wantBool(t, impl.ThreeIn(a, []int{x[1], x[2], x[0]}), true, "ThreeIn turned", a, x)
			wantBool(t, impl.ThreeIn(a, crossed(x)), false, "ThreeIn exchanged", a, x)
			wantBool(t, impl.ThreeIn(back, x), false, "ThreeIn of RingBack", a, x)
			wantBool(t, impl.ThreeIn(back, crossed(x)), true, "ThreeIn of RingBack exchanged", a, x)
		}
		if 2*held != len(allThrees(len(a))) {
			t.Fatalf("ThreeIn holds for %d threes of %v", held, a)
		}
	})
}

func TestP16(t *testing.T) {
	everyRing(func(a []int) {
		n := len(a)
		lists, ok := impl.ThreeAll(a)
		threes := mustLists(t, lists, ok)
		if 2*len(threes) != n*(n-1)*(n-2) || countIn(a, threes) != len(threes) {
			t.Fatalf("ThreeAll of %v is %v", a, threes)
		}
		for i := range threes[1:] {
			if slices.Compare(threes[i], threes[i+1]) >= 0 {
				t.Fatalf("ThreeAll of %v has %v ahead of %v", a, threes[i], threes[i+1])
			}
		}
	})
}

func TestP17(t *testing.T) {
	everyTelling(func(n int, list [][]int) {
		if len(list) == 0 {
			return
		}
		back, ok := impl.ThreeBack(n, list)
		if !impl.ThreeTelling(n, list) || !impl.ThreeTelling(n, list[1:]) || !impl.ThreeTelling(n, mustLists(t, back, ok)) {
			t.Fatalf("ThreeTelling does not hold for %v, without its first three, or back", list)
		}
	})
	everyNoTelling(func(n int, list [][]int) {
		wantBool(t, impl.ThreeTelling(n, list), false, "ThreeTelling", n, list)
	})
}

func TestP18(t *testing.T) {
	tellings := 0
	everyTelling(func(n int, list [][]int) {
		lists, ok := impl.ThreeClose(n, list)
		closing := mustLists(t, lists, ok)
		sure, ok := impl.ThreeSure(n, list)
		for _, x := range closing {
			if !slices.ContainsFunc(mustLists(t, sure, ok), func(y []int) bool { return slices.Equal(x, y) }) {
				t.Fatalf("ThreeClose of %v has %v, which is not sure", list, x)
			}
		}
		for _, x := range list {
			if !slices.ContainsFunc(closing, func(y []int) bool { return slices.Equal(x, y) }) {
				t.Fatalf("ThreeClose of %v does not have %v", list, x)
			}
		}
		if impl.ThreeTelling(n, closing) {
			tellings++
			before, ok1 := impl.ThreeRings(n, list)
			after, ok2 := impl.ThreeRings(n, closing)
			if mustNumber(t, before, ok1) != mustNumber(t, after, ok2) {
				t.Fatalf("%d rings agree with %v, and %d with its closing", before, list, after)
			}
		}
	})
	if tellings < 1000 {
		t.Errorf("only %d closings are tellings", tellings)
	}
}

func TestP19(t *testing.T) {
	clashes := 0
	everyTelling(func(n int, list [][]int) {
		if !impl.ThreeClash(n, list) {
			return
		}
		clashes++
		rings, ok := impl.ThreeRings(n, list)
		wantNumber(t, rings, ok, 0, "ThreeRings", n, list)
		most, ok := impl.ThreeMost(n, list)
		if mustNumber(t, most, ok) >= len(list) {
			t.Fatalf("%v clashes, but ThreeMost is %d", list, most)
		}
	})
	for _, list := range [][][]int{{{0, 1, 2}, {0, 2, 1}}, {{0, 1, 2}, {1, 0, 2}}, {{0, 1, 2}, {0, 2, 3}, {0, 3, 1}}} {
		wantBool(t, impl.ThreeClash(4, list), true, "ThreeClash", 4, list)
	}
	if clashes < 100 {
		t.Errorf("only %d tellings clash", clashes)
	}
}

func TestP20(t *testing.T) {
	everyTelling(func(n int, list [][]int) {
		rings, ok := impl.ThreeRings(n, list)
		list2, ok2 := impl.ThreeBack(n, list)
		back, ok3 := impl.ThreeRings(n, mustLists(t, list2, ok2))
		if mustNumber(t, rings, ok) != mustNumber(t, back, ok3) {
			t.Fatalf("ThreeRings of %v is %d, and back %d", list, rings, back)
		}
		if _, first := impl.ThreeFirst(n, list); first != (rings > 0) {
			t.Fatalf("ThreeRings of %v is %d, but ThreeFirst succeeds: %v", list, rings, first)
		}
	})
	everyNoTelling(func(n int, list [][]int) {
		_, rings := impl.ThreeRings(n, list)
		_, first := impl.ThreeFirst(n, list)
		wantBool(t, rings || first, false, "ThreeRings or ThreeFirst", n, list)
	})
}

func TestP21(t *testing.T) {
	found := 0
	everyTelling(func(n int, list [][]int) {
		a, ok := impl.ThreeFirst(n, list)
		if !ok {
			return
		}
		found++
		if len(a) != n || !impl.RingIn(a) || countIn(a, list) != len(list) || impl.ThreeClash(n, list) {
			t.Fatalf("ThreeFirst of %v is %v", list, a)
		}
	})
	if found < 1000 {
		t.Errorf("ThreeFirst succeeds for only %d tellings", found)
	}
}

func TestP22(t *testing.T) {
	var seen [3]int
	everyTelling(func(n int, list [][]int) {
		lists, ok := impl.ThreeSure(n, list)
		sure := mustLists(t, lists, ok)
		rings, ok := impl.ThreeRings(n, list)
		seen[min(mustNumber(t, rings, ok), 2)]++
		if sameLists(sure, allThrees(n)) != (rings == 0) {
			t.Fatalf("ThreeSure of %v is %v, but ThreeRings %d", list, sure, rings)
		}
		first, ok := impl.ThreeFirst(n, list)
		if !ok {
			return
		}
		only, ok := impl.ThreeAll(first)
		if sameLists(sure, mustLists(t, only, ok)) != (rings == 1) {
			t.Fatalf("ThreeSure of %v is %v, but ThreeRings %d", list, sure, rings)
		}
	})
	for rings, many := range seen {
		if many < 100 {
			t.Errorf("only %d tellings have %d rings", many, rings)
		}
	}
}

func TestP23(t *testing.T) {
	everyTelling(func(n int, list [][]int) {
		most, ok := impl.ThreeMost(n, list)
		rings, ok2 := impl.ThreeRings(n, list)
		all := mustNumber(t, most, ok) == len(list)
		if 2*most < len(list) || most > len(list) || all != (mustNumber(t, rings, ok2) > 0) {
			t.Fatalf("ThreeMost of %v is %d, ThreeRings %d", list, most, rings)
		}
	})
}

func TestP24(t *testing.T) {
	everyTelling(func(n int, list [][]int) {
		a, ok := impl.ThreeMostRing(n, list)
		most, ok2 := impl.ThreeMost(n, list)
		if len(mustList(t, a, ok)) != n || countIn(a, list) != mustNumber(t, most, ok2) {
			t.Fatalf("ThreeMostRing of %v is %v, ThreeMost %d", list, a, most)
		}
	})
}

func TestP25(t *testing.T) {
	everyTelling(func(n int, list [][]int) {
		back, ok := impl.ThreeBack(n, list)
		again, ok2 := impl.ThreeBack(n, mustLists(t, back, ok))
		if !sameLists(mustLists(t, again, ok2), list) {
			t.Fatalf("ThreeBack of ThreeBack of %v is %v", list, again)
		}
		most, ok := impl.ThreeMost(n, list)
		mostBack, ok2 := impl.ThreeMost(n, back)
		if mustNumber(t, most, ok) != mustNumber(t, mostBack, ok2) {
			t.Fatalf("ThreeMost of %v is %d, and back %d", list, most, mostBack)
		}
	})
}

func TestP26(t *testing.T) {
	everyRing(func(a []int) {
		for _, x := range allThrees(len(a)) {
			between, ok := impl.RingFrom(a, x[0], x[2])
			second, ok2 := impl.RingSteps(a, x[0], x[1])
			third, ok3 := impl.RingSteps(a, x[0], x[2])
			among := slices.Contains(mustList(t, between, ok), x[1])
			ordered := mustNumber(t, second, ok2) < mustNumber(t, third, ok3)
			if in := impl.ThreeIn(a, x); in != among || in != ordered {
				t.Fatalf("ThreeIn of %v, %v is %v, RingFrom %v, RingSteps %d and %d", a, x, in, between, second, third)
			}
		}
	})
}

func TestP27(t *testing.T) {
	missed := 0
	everyTelling(func(n int, list [][]int) {
		a, ok := impl.ThreeMostRing(n, list)
		back, ok2 := impl.RingBack(mustList(t, a, ok))
		for _, x := range list {
			if impl.ThreeIn(mustList(t, back, ok2), x) == impl.ThreeIn(a, x) {
				t.Fatalf("%v and %v both have %v, or both have not", a, back, x)
			}
			if !impl.ThreeIn(a, x) {
				missed++
			}
		}
	})
	if missed < 100 {
		t.Errorf("only %d threes are not had", missed)
	}
}
