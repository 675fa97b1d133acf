package tests

import (
	"testing"

	"loop.example/ringorders/impl"
)

// pairsCalls returns the calls of chapter 3: the list of points is a parting or another ring, the scheme and the pairs have as many points as the ring.
func pairsCalls() []listsCall {
	return []listsCall{
		{"PairParts", func(a, x []int, list [][]int) ([][]int, bool) { return nil, impl.PairParts(a, x) }},
		{"PairAll", func(a, x []int, list [][]int) ([][]int, bool) { return impl.PairAll(a) }},
		{"PairScheme", func(a, x []int, list [][]int) ([][]int, bool) { return nil, impl.PairScheme(len(a), list) }},
		{"PairRings", func(a, x []int, list [][]int) ([][]int, bool) { return oneNumber(impl.PairRings(len(a), list)) }},
		{"PairFirst", func(a, x []int, list [][]int) ([][]int, bool) { return oneList(impl.PairFirst(len(a), list)) }},
		{"PairMany", func(a, x []int, list [][]int) ([][]int, bool) { return oneNumber(impl.PairMany(a)) }},
		{"PairBeside", func(a, x []int, list [][]int) ([][]int, bool) { return nil, impl.PairBeside(a, 0, 2) }},
		{"PairSame", func(a, x []int, list [][]int) ([][]int, bool) { return nil, impl.PairSame(a, x) }},
		{"PairChords", func(a, x []int, list [][]int) ([][]int, bool) { return oneNumber(impl.PairChords(a, list)) }},
		{"PairFewest", func(a, x []int, list [][]int) ([][]int, bool) {
			fewest, ring, ok := impl.PairFewest(len(a), list)
			return [][]int{{fewest}, ring}, ok
		}},
	}
}

// pairsArguments returns rings, partings or other rings, schemes and lists of pairs, invalid ones among them.
func pairsArguments() []listsArgument {
	arguments := []listsArgument{}
	for _, n := range sizes {
		a := allRings(n)[n-2]
		valid := [][][]int{nil, {}, {{0, 2, 1, 3}}, {{0, 2, 1, 3}, {1, 3, 0, 2}}, longScheme(n, 3), longScheme(n, 20), {{0, 2}}, {{2, 0}, {1, 0}}, longPairs(n, 5), longPairs(n, 8)}
		for _, list := range valid {
			arguments = append(arguments, listsArgument{a, []int{0, 2, 1, 3}, list}, listsArgument{a, backwards(a), list}, listsArgument{a, a, list})
		}
		for _, list := range append(noSchemes(n)[:20], noPairLists(n)[:20]...) {
			arguments = append(arguments, listsArgument{a, []int{0, 1, 1, 2}, list})
		}
	}
	for _, no := range noRings() {
		arguments = append(arguments, listsArgument{no, no, [][]int{no}}, listsArgument{no, []int{0, 2, 1, 3}, [][]int{{0, 2}, {1, 3}}})
	}
	return arguments
}

func TestPairsKeepArguments(t *testing.T) {
	checkKeptArguments(t, pairsCalls(), pairsArguments())
}

func TestPairsShareNoMemory(t *testing.T) {
	checkOwnMemory(t, pairsCalls(), pairsArguments())
}

func TestPairsShareNoMemoryWithin(t *testing.T) {
	checkOwnMemoryWithin(t, pairsCalls(), pairsArguments())
}

func TestPairsKeepNoState(t *testing.T) {
	checkNoState(t, pairsCalls(), pairsArguments())
}

func TestPairsNilAndEmpty(t *testing.T) {
	checkNilAndEmpty(t, pairsCalls())
}
