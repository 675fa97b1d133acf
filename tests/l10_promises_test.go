package tests

import (
	"math/rand"
	"testing"

	"loop.example/ringorders/impl"
)

// mustThreeRings returns ThreeRings of a telling.
func mustThreeRings(t *testing.T, n int, list [][]int) int {
	t.Helper()
	rings, ok := impl.ThreeRings(n, list)
	return mustNumber(t, rings, ok)
}

func TestP97(t *testing.T) {
	proofs := 0
	everyTelling(func(n int, list [][]int) {
		text, ok := impl.ProofClash(n, list)
		if !ok {
			wantNoText(t, text, ok, "ProofClash", n, list)
			return
		}
		proofs++
		wantBool(t, impl.ProofClashIs(n, list, text), true, "ProofClashIs of ProofClash", n, list, text)
		wantBool(t, impl.ThreeClash(n, list), true, "ThreeClash", n, list)
		// A proof proves nothing of a telling without a clash, nor with a space behind it or ahead of it.
		wantBool(t, impl.ProofClashIs(n, list[:1], text), false, "ProofClashIs of another telling", n, list[:1], text)
		wantBool(t, impl.ProofClashIs(n, list, text+" ") || impl.ProofClashIs(n, list, " "+text), false, "ProofClashIs with a space", n, list, text)
	})
	if proofs < 1000 {
		t.Errorf("only %d tellings have a proof of a clash", proofs)
	}
	everyNoTelling(func(n int, list [][]int) {
		text, ok := impl.ProofClash(n, list)
		wantNoText(t, text, ok, "ProofClash", n, list)
	})
}

func TestP98(t *testing.T) {
	random := rand.New(rand.NewSource(98))
	held, rings := 0, 0
	everyTelling(func(n int, list [][]int) {
		threes := allThrees(n)
		texts := []string{"clash 0 1 2", "clash 0 2 1", proofWith("clash", threes[random.Intn(len(threes))]), proofWith("clash", threes[random.Intn(len(threes))])}
		if len(list) > 0 {
			texts = append(texts, proofWith("clash", list[0]), proofWith("clash", list[len(list)-1]))
		}
		if random.Intn(50) == 0 {
			for _, x := range threes {
				texts = append(texts, proofWith("clash", x))
			}
		}
		many := mustThreeRings(t, n, list)
		for _, text := range texts {
			if impl.ProofClashIs(n, list, text) {
				held++
				wantNumber(t, many, true, 0, "ThreeRings where ProofClashIs holds", n, list, text)
			} else if many > 0 {
				rings++
			}
		}
	})
	if held < 1000 || rings < 1000 {
		t.Errorf("ProofClashIs holds for only %d texts, and does not for only %d of tellings with rings", held, rings)
	}
	everyNoTelling(func(n int, list [][]int) {
		for _, text := range []string{"clash 0 1 2", "clash 0 2 1", "clash 2 1 0", "clash", ""} {
			wantBool(t, impl.ProofClashIs(n, list, text), false, "ProofClashIs", n, list, text)
		}
	})
}

func TestP99(t *testing.T) {
	everyTelling(func(n int, list [][]int) {
		_, ok := impl.ProofClash(n, list)
		wantBool(t, ok, impl.ThreeClash(n, list), "ProofClash succeeds", n, list)
	})
	everyNoTelling(func(n int, list [][]int) {
		_, ok := impl.ProofClash(n, list)
		wantBool(t, ok || impl.ThreeClash(n, list), false, "ProofClash or ThreeClash", n, list)
	})
}

func TestP100(t *testing.T) {
	everyTwoAsked(func(a, b []int) {
		got, ok := impl.ProofSwaps(a, b)
		text := mustText(t, got, ok)
		swaps, ok := impl.ProofSwapsIs(a, b, text)
		wantNumber(t, swaps, ok, mustFar(t, a, b), "ProofSwapsIs of ProofSwaps", a, b, text)
		wantNoSwaps(t, a, b, text+" ")
		wantNoSwaps(t, a, b, " "+text)
		wantNoSwaps(t, a, mustSwap(t, b, 1), text)
	})
	everyNoTwoAsked(func(a, b []int) {
		text, ok := impl.ProofSwaps(a, b)
		wantNoText(t, text, ok, "ProofSwaps", a, b)
	})
}

func TestP101(t *testing.T) {
	asked := 0
	everyWalk(func(a, b []int, points []int) {
		text := proofWith("swaps", points)
		got, ok := impl.ProofSwapsIs(a, b, text)
		swaps := mustNumber(t, got, ok)
		wantNumber(t, swaps, true, len(points), "ProofSwapsIs", a, b, text)
		if far, ok := impl.SwapFar(a, b); ok {
			asked++
			wantBool(t, swaps >= far, true, "ProofSwapsIs is at least SwapFar", a, b, text)
		}
		wantBool(t, swaps*(len(a)-2) >= mustDiffer(t, a, b), true, "ProofSwapsIs is at least SwapDiffer", a, b, text)
		for _, other := range [][]int{backwards(b), mustSwap(t, b, 0), mustSwap(t, b, 2)} {
			wantNoSwaps(t, a, other, text)
		}
		wantNoSwaps(t, a, b, text+" ")
	})
	if asked < 1000 {
		t.Errorf("SwapFar is told only %d times", asked)
	}
	// With too few swaps no text is a proof, whichever points it has.
	for _, a := range allRings(4) {
		for _, b := range allRings(4) {
			far := mustFar(t, a, b)
			for _, points := range digitLists(4, 3) {
				if len(points) < far {
					wantNoSwaps(t, a, b, proofWith("swaps", points))
				}
			}
		}
	}
	everyNoTwoRings(func(a, b []int) {
		wantNoSwaps(t, a, b, "swaps")
		wantNoSwaps(t, a, b, "swaps 0")
	})
}

func TestP102(t *testing.T) {
	everyPattern(func(a, p []int) {
		text, ok := impl.ProofAt(a, p)
		wantBool(t, ok, mustMany(t, a, p) > 0, "ProofAt succeeds", a, p)
		if !ok {
			wantNoText(t, text, ok, "ProofAt", a, p)
			return
		}
		wantBool(t, impl.ProofAtIs(a, p, text), true, "ProofAtIs of ProofAt", a, p, text)
		wantBool(t, impl.ProofAtIs(a, mustBack(t, p), text), false, "ProofAtIs of RingBack", a, p, text)
		wantBool(t, impl.ProofAtIs(a, p, text+" ") || impl.ProofAtIs(a, p, " "+text), false, "ProofAtIs with a space", a, p, text)
	})
	everyRing(func(a []int) {
		text, ok := impl.ProofAt(a, a)
		wantText(t, text, ok, proofWith("at", a), "ProofAt of the ring", a)
	})
	everyNoPattern(func(a, p []int) {
		text, ok := impl.ProofAt(a, p)
		wantNoText(t, text, ok, "ProofAt", a, p)
	})
}

func TestP103(t *testing.T) {
	held, none := 0, 0
	everyPattern(func(a, p []int) {
		many := mustMany(t, a, p)
		texts := []string{proofWith("at", a), proofWith("at", p), proofWith("at", a[:len(p)]), proofWith("at", a[len(a)-len(p):])}
		if len(p) < len(a) {
			texts = append(texts, proofWith("at", turned(a[1:], 1)[:len(p)]))
		}
		for _, text := range texts {
			if impl.ProofAtIs(a, p, text) {
				held++
				wantBool(t, many > 0, true, "PatternMany is not 0 where ProofAtIs holds", a, p, text)
			} else if many == 0 {
				none++
			}
		}
	})
	if held < 1000 || none < 1000 {
		t.Errorf("ProofAtIs holds for only %d texts, and does not for only %d of patterns that a ring does not have", held, none)
	}
	everyNoPattern(func(a, p []int) {
		for _, text := range []string{"at 0 1 2", "at 0 2 1", "at 0 1 2 3", "at", ""} {
			wantBool(t, impl.ProofAtIs(a, p, text), false, "ProofAtIs", a, p, text)
		}
	})
}
