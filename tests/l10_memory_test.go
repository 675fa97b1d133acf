package tests

import (
	"slices"
	"testing"

	"loop.example/ringorders/impl"
)

// proofCalls returns the calls of chapter 10: the telling is one of as many points as the ring, and the list of points is the second ring, or the pattern.
// The texts are proofs, if there are some.
func proofCalls() []listsCall {
	return []listsCall{
		{"ProofClash", func(a, x []int, list [][]int) ([][]int, bool) { return oneText(impl.ProofClash(len(a), list)) }},
		{"ProofClashIs", func(a, x []int, list [][]int) ([][]int, bool) {
			text, _ := impl.ProofClash(len(a), list)
			return nil, impl.ProofClashIs(len(a), list, text)
		}},
		{"ProofClashIs of other points", func(a, x []int, list [][]int) ([][]int, bool) {
			return nil, impl.ProofClashIs(len(a), list, "clash 2 1 0")
		}},
		{"ProofSwaps", func(a, x []int, list [][]int) ([][]int, bool) { return oneText(impl.ProofSwaps(a, x)) }},
		{"ProofSwaps of the same ring", func(a, x []int, list [][]int) ([][]int, bool) { return oneText(impl.ProofSwaps(a, a)) }},
		{"ProofSwapsIs", func(a, x []int, list [][]int) ([][]int, bool) {
			text, _ := impl.ProofSwaps(a, x)
			return oneNumber(impl.ProofSwapsIs(a, x, text))
		}},
		{"ProofSwapsIs of the same ring", func(a, x []int, list [][]int) ([][]int, bool) {
			return oneNumber(impl.ProofSwapsIs(a, a, "swaps 0 1"))
		}},
		{"ProofAt", func(a, x []int, list [][]int) ([][]int, bool) { return oneText(impl.ProofAt(a, x)) }},
		{"ProofAt of the same ring", func(a, x []int, list [][]int) ([][]int, bool) { return oneText(impl.ProofAt(a, a)) }},
		{"ProofAtIs", func(a, x []int, list [][]int) ([][]int, bool) {
			text, _ := impl.ProofAt(a, x)
			return nil, impl.ProofAtIs(a, x, text)
		}},
		{"ProofAtIs of other points", func(a, x []int, list [][]int) ([][]int, bool) { return nil, impl.ProofAtIs(a, x, "at 0 1 2") }},
	}
}

// proofArguments returns what chapters 2 and 8 are called with: tellings, two rings of as many points and of unlike many, and lists that are none.
func proofArguments() []listsArgument {
	return slices.Concat(threesArguments(), patternArguments())
}

func TestProofsKeepArguments(t *testing.T) {
	checkKeptArguments(t, proofCalls(), proofArguments())
}

func TestProofsShareNoMemory(t *testing.T) {
	checkOwnMemory(t, proofCalls(), proofArguments())
}

func TestProofsShareNoMemoryWithin(t *testing.T) {
	checkOwnMemoryWithin(t, proofCalls(), proofArguments())
}

func TestProofsKeepNoState(t *testing.T) {
	checkNoState(t, proofCalls(), proofArguments())
}

func TestProofsNilAndEmpty(t *testing.T) {
	checkNilAndEmpty(t, proofCalls())
}

// A text that a call returned stays as it is, whatever becomes of the lists that it was made of.
func TestProofsStay(t *testing.T) {
	list := [][]int{{0, 1, 2}, {0, 2, 1}}
	a, b, p := []int{0, 1, 2, 3}, []int{0, 3, 2, 1}, []int{0, 1, 2}
	clash, _ := impl.ProofClash(3, list)
	swaps, _ := impl.ProofSwaps(a, b)
	at, _ := impl.ProofAt(a, p)
	scribbleLists(list)
	scribble(a)
	scribble(b)
	scribble(p)
	wantText(t, clash, true, "clash 0 1 2", "ProofClash")
	wantText(t, swaps, true, "swaps 0 2", "ProofSwaps")
	wantText(t, at, true, "at 0 1 2", "ProofAt")
}
