package tests

import (
	"slices"
	"testing"

	"loop.example/ringorders/impl"
)

// mustSwap returns SwapAt of a ring and a point.
func mustSwap(t *testing.T, a []int, x int) []int {
	t.Helper()
	swapped, ok := impl.SwapAt(a, x)
	return mustList(t, swapped, ok)
}

// mustDiffer returns SwapDiffer of two rings.
func mustDiffer(t *testing.T, a []int, b []int) int {
	t.Helper()
	differ, ok := impl.SwapDiffer(a, b)
	return mustNumber(t, differ, ok)
}

// mustFar returns SwapFar of two rings.
func mustFar(t *testing.T, a []int, b []int) int {
	t.Helper()
	far, ok := impl.SwapFar(a, b)
	return mustNumber(t, far, ok)
}

// mustNear returns SwapNear of a ring.
func mustNear(t *testing.T, a []int) [][]int {
	t.Helper()
	near, ok := impl.SwapNear(a)
	return mustLists(t, near, ok)
}

// chooseThree returns the number of sets of three of n points.
func chooseThree(n int) int {
	return n * (n - 1) * (n - 2) / 6
}

// everySome runs a check for three rings of at most 6 points, fewer than everyThreeAsked, as the promises ask for many distances of each.
func everySome(check func(a, b, c []int)) {
	i := 0
	everyThreeAsked(func(a, b, c []int) {
		i++
		if len(a) <= 4 || i%5 == 0 {
			check(a, b, c)
		}
	})
}

func TestP49(t *testing.T) {
	everyRing(func(a []int) {
		for _, x := range a {
			next, ok := impl.RingNext(a, x)
			swapped := mustSwap(t, a, x)
			wantList(t, mustSwap(t, swapped, mustNumber(t, next, ok)), impl.RingIn(swapped), a, "SwapAt of SwapAt", a, x)
			wantNumber(t, mustDiffer(t, a, swapped), true, len(a)-2, "SwapDiffer of SwapAt", a, x)
		}
		for _, x := range noPoints(len(a)) {
			swapped, ok := impl.SwapAt(a, x)
			wantNoList(t, swapped, ok, "SwapAt", a, x)
		}
	})
	for _, no := range noRings() {
		swapped, ok := impl.SwapAt(no, 1)
		wantNoList(t, swapped, ok, "SwapAt", no, 1)
	}
}

func TestP50(t *testing.T) {
	everyRing(func(a []int) {
		want := len(a)
		if want == 3 {
			want = 1
		}
		near := mustNear(t, a)
		wantNumber(t, len(near), true, want, "the length of SwapNear", a)
		for i, b := range near {
			wantNumber(t, mustDiffer(t, a, b), impl.RingIn(b), len(a)-2, "SwapDiffer of SwapNear", a, b)
			if i > 0 && slices.Compare(near[i-1], b) >= 0 {
				t.Fatalf("SwapNear of %v has %v ahead of %v", a, near[i-1], b)
			}
		}
	})
	for _, no := range noRings() {
		near, ok := impl.SwapNear(no)
		wantNoLists(t, near, ok, "SwapNear", no)
	}
}

func TestP51(t *testing.T) {
	everyTwoRings(func(a, b []int) {
		differ := mustDiffer(t, a, b)
		wantNumber(t, mustDiffer(t, b, a), true, differ, "SwapDiffer exchanged", a, b)
		wantBool(t, differ == 0, slices.Equal(a, b), "SwapDiffer is 0", a, b)
		wantNumber(t, differ+mustDiffer(t, a, mustBack(t, b)), true, chooseThree(len(a)), "SwapDiffer with that of RingBack", a, b)
	})
	everyNoTwoRings(func(a, b []int) {
		differ, ok := impl.SwapDiffer(a, b)
		wantNoNumber(t, differ, ok, "SwapDiffer", a, b)
	})
}

func TestP52(t *testing.T) {
	everyTwoAsked(func(a, b []int) {
		far := mustFar(t, a, b)
		wantNumber(t, mustFar(t, b, a), true, far, "SwapFar exchanged", a, b)
		wantBool(t, far == 0, slices.Equal(a, b), "SwapFar is 0", a, b)
		if differ := mustDiffer(t, a, b); far*(len(a)-2) < differ {
			t.Fatalf("SwapFar of %v, %v is %d, SwapDiffer %d", a, b, far, differ)
		}
	})
	everyNoTwoAsked(func(a, b []int) {
		far, ok := impl.SwapFar(a, b)
		wantNoNumber(t, far, ok, "SwapFar", a, b)
	})
}

func TestP53(t *testing.T) {
	everySome(func(a, b, c []int) {
		_, sum, ok := impl.SwapMiddle(a, b, c)
		ab, ac, bc := mustFar(t, a, b), mustFar(t, a, c), mustFar(t, b, c)
		if !ok || 2*sum < ab+ac+bc || sum > min(ab+ac, ab+bc, ac+bc) {
			t.Fatalf("SwapMiddle of %v, %v, %v is %d, %v; SwapFar is %d, %d and %d", a, b, c, sum, ok, ab, ac, bc)
		}
	})
	everyNoThreeAsked(func(a, b, c []int) {
		wantNoMiddle(t, a, b, c)
	})
}

func TestP54(t *testing.T) {
	everySome(func(a, b, c []int) {
		m, sum, ok := impl.SwapMiddle(a, b, c)
		wantNumber(t, sum, ok && impl.RingIn(m), mustFar(t, a, m)+mustFar(t, b, m)+mustFar(t, m, c), "SwapMiddle", a, b, c)
	})
	everyNoThreeAsked(func(a, b, c []int) {
		wantNoMiddle(t, a, b, c)
	})
}

func TestP55(t *testing.T) {
	everyTwoAsked(func(a, b []int) {
		way, ok := impl.SwapWay(a, b)
		wantNumber(t, len(mustList(t, way, ok)), true, mustFar(t, a, b), "the length of SwapWay", a, b)
		at := a
		for _, x := range way {
			at = mustSwap(t, at, x)
		}
		wantList(t, at, true, b, "SwapAt along SwapWay", a, way)
	})
	everyNoTwoAsked(func(a, b []int) {
		way, ok := impl.SwapWay(a, b)
		wantNoList(t, way, ok, "SwapWay", a, b)
	})
}

func TestP56(t *testing.T) {
	for _, n := range askedSizes {
		list, ok := impl.SwapCounts(n)
		counts := mustList(t, list, ok)
		rings, ok := impl.RingCount(n)
		wantNumber(t, sumOf(counts), ok, rings, "SwapCounts added up", n)
		if len(counts) < 2 || counts[0] != 1 || counts[1] != len(mustNear(t, mustBy(t, n, 0))) || counts[len(counts)-1] == 0 {
			t.Fatalf("SwapCounts of %d is %v", n, counts)
		}
	}
	for _, n := range notAskedSizes() {
		counts, ok := impl.SwapCounts(n)
		wantNoList(t, counts, ok, "SwapCounts", n)
	}
}

func TestP57(t *testing.T) {
	askedRings(func(a []int) {
		back, ok := impl.SwapBack(a)
		wantNumber(t, back, ok, mustFar(t, a, mustBack(t, a)), "SwapBack", a)
		first, ok := impl.SwapBack(mustBy(t, len(a), 0))
		wantNumber(t, back, ok, mustNumber(t, first, ok), "SwapBack", a)
	})
	for _, no := range append(noRings(), allRings(7)...) {
		back, ok := impl.SwapBack(no)
		wantNoNumber(t, back, ok, "SwapBack", no)
	}
}

func TestP58(t *testing.T) {
	for _, n := range sizes {
		names := allTellings(n)
		step := 1 + len(names)/200
		for i, a := range allRings(n) {
			back := mustBack(t, a)
			wantNumber(t, mustDiffer(t, a, back), true, chooseThree(n), "SwapDiffer of RingBack", a)
			for j := i % step; j < len(names); j += step {
				called, ok := impl.RingNamed(a, names[j])
				backCalled, ok2 := impl.RingNamed(back, names[j])
				differ := mustDiffer(t, mustList(t, called, ok), mustList(t, backCalled, ok2))
				wantNumber(t, differ, true, chooseThree(n), "SwapDiffer of RingNamed", a, names[j])
			}
			called, ok := impl.RingNamed(a, names[0][1:])
			differ, ok2 := impl.SwapDiffer(called, called)
			wantNoNumber(t, differ, ok || ok2, "SwapDiffer of RingNamed", a, names[0][1:])
		}
	}
	for _, no := range noRings() {
		back, ok := impl.RingBack(no)
		differ, ok2 := impl.SwapDiffer(no, back)
		wantNoNumber(t, differ, ok || ok2, "SwapDiffer of RingBack", no)
	}
}

func TestP59(t *testing.T) {
	askedRings(func(a []int) {
		for _, b := range mustNear(t, a) {
			wantNumber(t, mustFar(t, a, b), true, 1, "SwapFar of SwapNear", a, b)
		}
	})
	for _, a := range allRings(7)[:50] {
		for _, b := range mustNear(t, a) {
			far, ok := impl.SwapFar(a, b)
			wantNoNumber(t, far, ok, "SwapFar", a, b)
		}
	}
}
