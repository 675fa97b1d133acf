package tests

import (
	"testing"

	"loop.example/ringorders/impl"
)

// swapCalls returns the calls of chapter 5: the list of points is the second ring, the first list, if there is one, the third ring.
func swapCalls() []listsCall {
	middle := func(a, b []int, list [][]int) ([][]int, bool) {
		var c []int
		if len(list) > 0 {
			c = list[0]
		}
		m, sum, ok := impl.SwapMiddle(a, b, c)
		return [][]int{m, {sum}}, ok
	}
	return []listsCall{
		{"SwapAt", func(a, x []int, list [][]int) ([][]int, bool) { return oneList(impl.SwapAt(a, len(x)-1)) }},
		{"SwapNear", func(a, x []int, list [][]int) ([][]int, bool) { return impl.SwapNear(a) }},
		{"SwapDiffer", func(a, x []int, list [][]int) ([][]int, bool) { return oneNumber(impl.SwapDiffer(a, x)) }},
		{"SwapFar", func(a, x []int, list [][]int) ([][]int, bool) { return oneNumber(impl.SwapFar(a, x)) }},
		{"SwapWay", func(a, x []int, list [][]int) ([][]int, bool) { return oneList(impl.SwapWay(a, x)) }},
		{"SwapWay of the same ring", func(a, x []int, list [][]int) ([][]int, bool) { return oneList(impl.SwapWay(a, a)) }},
		{"SwapBack", func(a, x []int, list [][]int) ([][]int, bool) { return oneNumber(impl.SwapBack(a)) }},
		{"SwapCounts", func(a, x []int, list [][]int) ([][]int, bool) { return oneList(impl.SwapCounts(len(a))) }},
		{"SwapMiddle", func(a, x []int, list [][]int) ([][]int, bool) { return middle(a, x, list) }},
		{"SwapMiddle of the same ring", func(a, x []int, list [][]int) ([][]int, bool) { return middle(a, a, [][]int{a}) }},
	}
}

// Chapter 5 is called with what chapter 4 is: two and three rings of as many points, of unlike many, and lists that are none.

func TestSwapsKeepArguments(t *testing.T) {
	checkKeptArguments(t, swapCalls(), windArguments())
}

func TestSwapsShareNoMemory(t *testing.T) {
	checkOwnMemory(t, swapCalls(), windArguments())
}

func TestSwapsShareNoMemoryWithin(t *testing.T) {
	checkOwnMemoryWithin(t, swapCalls(), windArguments())
}

func TestSwapsKeepNoState(t *testing.T) {
	checkNoState(t, swapCalls(), windArguments())
}

func TestSwapsNilAndEmpty(t *testing.T) {
	checkNilAndEmpty(t, swapCalls())
}
