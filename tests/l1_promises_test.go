package tests

import (
	"slices"
	"testing"

	"loop.example/ringorders/impl"
)

// mustList returns a list that a call returned with true.
func mustList(t *testing.T, list []int, ok bool) []int {
	t.Helper()
	if !ok {
		t.Fatal("a call failed for valid arguments")
	}
	return list
}

// mustNumber returns a number that a call returned with true.
func mustNumber(t *testing.T, x int, ok bool) int {
	t.Helper()
	if !ok {
		t.Fatal("a call failed for valid arguments")
	}
	return x
}

func TestP1(t *testing.T) {
	everyRing(func(a []int) {
		r, ok := impl.RingOf(a)
		if !slices.Equal(mustList(t, r, ok), a) {
			t.Fatalf("RingOf of the ring %v is %v", a, r)
		}
		b, ok := impl.RingBack(a)
		if !impl.RingIn(mustList(t, b, ok)) {
			t.Fatalf("RingBack of %v is no ring: %v", a, b)
		}
	})
}

func TestP2(t *testing.T) {
	for _, n := range sizes {
		for _, list := range allTellings(n) {
			r, ok := impl.RingOf(list)
			if !impl.RingIn(mustList(t, r, ok)) {
				t.Fatalf("RingOf of %v is no ring: %v", list, r)
			}
			c, ok := impl.RingCut(r, list[0])
			if !slices.Equal(mustList(t, c, ok), list) {
				t.Fatalf("RingCut of RingOf of %v is %v", list, c)
			}
		}
	}
}

func TestP3(t *testing.T) {
	everyRing(func(a []int) {
		back, ok := impl.RingBack(a)
		b := mustList(t, back, ok)
		again, ok := impl.RingBack(b)
		if !slices.Equal(mustList(t, again, ok), a) || slices.Equal(a, b) {
			t.Fatalf("RingBack of %v is %v, and of this %v", a, b, again)
		}
		for x := range a {
			for y := range a {
				there, ok1 := impl.RingSteps(b, x, y)
				home, ok2 := impl.RingSteps(a, y, x)
				if mustNumber(t, there, ok1) != mustNumber(t, home, ok2) {
					t.Fatalf("RingSteps of %v from %d to %d is %d, and back on %v %d", b, x, y, there, a, home)
				}
			}
		}
	})
}

func TestP4(t *testing.T) {
	everyRing(func(a []int) {
		for x := range a {
			list, ok := impl.RingCut(a, x)
			cut := mustList(t, list, ok)
			r, ok := impl.RingOf(cut)
			if cut[0] != x || !slices.Equal(mustList(t, r, ok), a) {
				t.Fatalf("RingCut of %v at %d is %v", a, x, cut)
			}
			next, ok := impl.RingNext(a, x)
			if mustNumber(t, next, ok) != cut[1] {
				t.Fatalf("RingNext of %d in %v is %d", x, a, next)
			}
		}
	})
}

func TestP5(t *testing.T) {
	everyRing(func(a []int) {
		for x := range a {
			at := x
			for i := range a {
				next, ok := impl.RingNext(a, at)
				steps, ok2 := impl.RingSteps(a, at, mustNumber(t, next, ok))
				if mustNumber(t, steps, ok2) != 1 || next == x && i < len(a)-1 {
					t.Fatalf("RingNext of %d in %v is %d", at, a, next)
				}
				at = next
			}
			if at != x {
				t.Fatalf("going on from %d in %v leads to %d", x, a, at)
			}
		}
	})
}

func TestP6(t *testing.T) {
	everyRing(func(a []int) {
		for x := range a {
			for y := range a {
				there, ok := impl.RingFrom(a, x, y)
				points := slices.Clone(mustList(t, there, ok))
				if x == y {
					points = append(points, x)
				} else {
					steps, ok := impl.RingSteps(a, x, y)
					if mustNumber(t, steps, ok)-1 != len(there) {
						t.Fatalf("RingFrom of %v from %d to %d is %v, RingSteps %d", a, x, y, there, steps)
					}
					home, ok := impl.RingFrom(a, y, x)
					points = append(append(points, mustList(t, home, ok)...), x, y)
				}
				slices.Sort(points)
				if !onlyPoints(points) || len(points) != len(a) {
					t.Fatalf("RingFrom of %v from %d to %d is %v", a, x, y, there)
				}
			}
		}
	})
}

func TestP7(t *testing.T) {
	everyRing(func(a []int) {
		for x := range a {
			for y := range a {
				there, ok1 := impl.RingSteps(a, x, y)
				home, ok2 := impl.RingSteps(a, y, x)
				sum := mustNumber(t, there, ok1) + mustNumber(t, home, ok2)
				if (there == 0) != (x == y) || x != y && sum != len(a) {
					t.Fatalf("RingSteps of %v between %d and %d are %d and %d", a, x, y, there, home)
				}
			}
		}
	})
}

func TestP8(t *testing.T) {
	for _, n := range sizes {
		lists := allTellings(n)
		for i, a := range allRings(n) {
			for j := i % 17; j < len(lists); j += 17 {
				p := lists[j]
				b, ok := impl.RingNamed(a, p)
				named, ok1 := impl.RingSteps(mustList(t, b, ok), p[0], p[1])
				steps, ok2 := impl.RingSteps(a, 0, 1)
				if mustNumber(t, named, ok1) != mustNumber(t, steps, ok2) {
					t.Fatalf("RingNamed of %v by %v is %v", a, p, b)
				}
			}
		}
	}
}

func TestP9(t *testing.T) {
	everyRing(func(a []int) {
		number, ok := impl.RingNumber(a)
		count, ok2 := impl.RingCount(len(a))
		if mustNumber(t, number, ok) < 0 || number >= mustNumber(t, count, ok2) {
			t.Fatalf("RingNumber of %v is %d of %d", a, number, count)
		}
		r, ok := impl.RingBy(len(a), number)
		if !slices.Equal(mustList(t, r, ok), a) {
			t.Fatalf("RingBy of RingNumber of %v is %v", a, r)
		}
	})
}

func TestP10(t *testing.T) {
	for _, n := range sizes {
		told := 0
		for number := range 5041 {
			a, ok := impl.RingBy(n, number)
			if !ok {
				continue
			}
			told++
			again, ok := impl.RingNumber(a)
			if mustNumber(t, again, ok) != number {
				t.Fatalf("RingNumber of RingBy of %d and %d is %d", n, number, again)
			}
			if b, ok := impl.RingBy(n, number+1); ok && slices.Compare(a, b) >= 0 {
				t.Fatalf("RingBy of %d and %d is %v, and the next one %v", n, number, a, b)
			}
		}
		if count, ok := impl.RingCount(n); !ok || told != count {
			t.Fatalf("RingBy tells %d rings of %d points, RingCount %d", told, n, count)
		}
	}
}

func TestP11(t *testing.T) {
	two, ok := impl.RingCount(3)
	if mustNumber(t, two, ok) != 2 {
		t.Fatalf("RingCount of 3 is %d", two)
	}
	for n := 3; n < impl.PointsMax; n++ {
		count, ok1 := impl.RingCount(n)
		more, ok2 := impl.RingCount(n + 1)
		if n*mustNumber(t, count, ok1) != mustNumber(t, more, ok2) {
			t.Fatalf("RingCount of %d is %d, and of one more %d", n, count, more)
		}
	}
}

func TestP12(t *testing.T) {
	everyRing(func(a []int) {
		if len(a) == 3 {
			return
		}
		list, ok := impl.RingDrop(a)
		less := mustList(t, list, ok)
		ways := 0
		for x := range less {
			if b, ok := impl.RingPut(less, x); ok && slices.Equal(a, b) {
				ways++
			}
		}
		if len(less) != len(a)-1 || !impl.RingIn(less) || ways != 1 {
			t.Fatalf("RingDrop of %v is %v, from which %d points lead back", a, less, ways)
		}
	})
}

func TestP13(t *testing.T) {
	everyRing(func(a []int) {
		if len(a) == impl.PointsMax {
			return
		}
		for x := range a {
			list, ok := impl.RingPut(a, x)
			more := mustList(t, list, ok)
			next, ok := impl.RingNext(more, x)
			if mustNumber(t, next, ok) != len(a) || len(more) != len(a)+1 {
				t.Fatalf("RingPut of %v behind %d is %v", a, x, more)
			}
			less, ok := impl.RingDrop(more)
			if !slices.Equal(mustList(t, less, ok), a) {
				t.Fatalf("RingDrop of RingPut of %v behind %d is %v", a, x, less)
			}
		}
	})
}

func TestP14(t *testing.T) {
	everyRing(func(a []int) {
		same := make([]int, len(a))
		for i := range same {
			same[i] = i
		}
		r, ok := impl.RingNamed(a, same)
		if !slices.Equal(mustList(t, r, ok), a) {
			t.Fatalf("RingNamed of %v with %v is %v", a, same, r)
		}
		s, ok := impl.RingNamed(a, a)
		if b := mustList(t, s, ok); b[0] != 0 || b[1] != a[a[1]] {
			t.Fatalf("RingNamed of %v with itself is %v", a, b)
		}
	})
}
