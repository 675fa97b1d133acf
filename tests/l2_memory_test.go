package tests

import (
	"testing"

	"loop.example/ringorders/impl"
)

// threesCalls returns the calls of chapter 2, the telling being one of as many points as the ring.
func threesCalls() []listsCall {
	return []listsCall{
		{"ThreeIn", func(a, x []int, list [][]int) ([][]int, bool) { return nil, impl.ThreeIn(a, x) }},
		{"ThreeAll", func(a, x []int, list [][]int) ([][]int, bool) { return impl.ThreeAll(a) }},
		{"ThreeTelling", func(a, x []int, list [][]int) ([][]int, bool) { return nil, impl.ThreeTelling(len(a), list) }},
		{"ThreeClose", func(a, x []int, list [][]int) ([][]int, bool) { return impl.ThreeClose(len(a), list) }},
		{"ThreeClash", func(a, x []int, list [][]int) ([][]int, bool) { return nil, impl.ThreeClash(len(a), list) }},
		{"ThreeRings", func(a, x []int, list [][]int) ([][]int, bool) { return oneNumber(impl.ThreeRings(len(a), list)) }},
		{"ThreeFirst", func(a, x []int, list [][]int) ([][]int, bool) { return oneList(impl.ThreeFirst(len(a), list)) }},
		{"ThreeSure", func(a, x []int, list [][]int) ([][]int, bool) { return impl.ThreeSure(len(a), list) }},
		{"ThreeMost", func(a, x []int, list [][]int) ([][]int, bool) { return oneNumber(impl.ThreeMost(len(a), list)) }},
		{"ThreeMostRing", func(a, x []int, list [][]int) ([][]int, bool) { return oneList(impl.ThreeMostRing(len(a), list)) }},
		{"ThreeBack", func(a, x []int, list [][]int) ([][]int, bool) { return impl.ThreeBack(len(a), list) }},
	}
}

// threesArguments returns rings, threes and tellings, invalid ones among them.
func threesArguments() []listsArgument {
	arguments := []listsArgument{}
	for _, n := range sizes {
		a := allRings(n)[n-2]
		for _, list := range [][][]int{nil, {}, {{0, 1, 2}}, {{2, 1, 0}, {0, 1, 2}}, longTelling(n, 3), longTelling(n, 40)} {
			arguments = append(arguments, listsArgument{a, []int{1, 2, 0}, list}, listsArgument{a, []int{2, 1, 0}, list})
		}
		for _, list := range noTellingsOfThrees(n)[:30] {
			arguments = append(arguments, listsArgument{a, []int{0, 1, 1}, list})
		}
	}
	for _, no := range noRings() {
		arguments = append(arguments, listsArgument{no, no, [][]int{no}}, listsArgument{no, []int{0, 1, 2}, [][]int{{0, 1, 2}, {0, 2, 1}}})
	}
	return arguments
}

func TestThreesKeepArguments(t *testing.T) {
	checkKeptArguments(t, threesCalls(), threesArguments())
}

func TestThreesShareNoMemory(t *testing.T) {
	checkOwnMemory(t, threesCalls(), threesArguments())
}

func TestThreesShareNoMemoryWithin(t *testing.T) {
	checkOwnMemoryWithin(t, threesCalls(), threesArguments())
}

func TestThreesKeepNoState(t *testing.T) {
	checkNoState(t, threesCalls(), threesArguments())
}

func TestThreesNilAndEmpty(t *testing.T) {
	checkNilAndEmpty(t, threesCalls())
}
