package tests

import (
	"testing"

	"loop.example/ringorders/impl"
)

// weaveCalls returns the calls of chapter 6: there are as many points as the ring has, the list of points is a part, and the first list, if there is one, the other part.
func weaveCalls() []listsCall {
	other := func(list [][]int) []int {
		if len(list) == 0 {
			return nil
		}
		return list[0]
	}
	return []listsCall{
		{"WeaveIn", func(a, x []int, list [][]int) ([][]int, bool) { return nil, impl.WeaveIn(len(a), x) }},
		{"WeavePart", func(a, x []int, list [][]int) ([][]int, bool) { return oneList(impl.WeavePart(a, 1<<len(x)-2)) }},
		{"WeavePart of all points", func(a, x []int, list [][]int) ([][]int, bool) { return oneList(impl.WeavePart(a, 1<<len(a)-1)) }},
		{"WeaveHas", func(a, x []int, list [][]int) ([][]int, bool) { return nil, impl.WeaveHas(a, x) }},
		{"WeaveRings", func(a, x []int, list [][]int) ([][]int, bool) { return oneNumber(impl.WeaveRings(len(a), list)) }},
		{"WeaveFirst", func(a, x []int, list [][]int) ([][]int, bool) { return oneList(impl.WeaveFirst(len(a), list)) }},
		{"WeaveFirst of the ring", func(a, x []int, list [][]int) ([][]int, bool) { return oneList(impl.WeaveFirst(len(a), [][]int{a, x})) }},
		{"WeaveCount", func(a, x []int, list [][]int) ([][]int, bool) {
			return oneNumber(impl.WeaveCount(len(a), x, other(list)))
		}},
		{"WeaveSum", func(a, x []int, list [][]int) ([][]int, bool) {
			return oneNumber(impl.WeaveSum(len(a), x, other(list)))
		}},
		{"WeaveAll", func(a, x []int, list [][]int) ([][]int, bool) { return impl.WeaveAll(len(a), x, other(list)) }},
	}
}

// weaveArguments returns rings with two parts that are woven, with more parts, and with lists that are none.
func weaveArguments() []listsArgument {
	arguments := []listsArgument{}
	for _, n := range sizes {
		a := allRings(n)[n-2]
		for size := 1; size < n; size++ {
			p, q := firstRing(n)[:size], firstRing(n)[size:]
			arguments = append(arguments,
				listsArgument{a, p, [][]int{q}},
				listsArgument{backwards(a), q, [][]int{p, q, p}},
				listsArgument{a, p, [][]int{p}},
				listsArgument{a, a, [][]int{q, a}},
			)
		}
		arguments = append(arguments, listsArgument{a, a, nil}, listsArgument{a, nil, longParts(6, 10)}, listsArgument{a, []int{0}, longParts(3, 10)}, listsArgument{a, []int{0}, longParts(3, 11)})
	}
	for _, n := range askedSizes {
		for _, no := range noParts(n)[:25] {
			arguments = append(arguments, listsArgument{firstRing(n), no, [][]int{{0}}}, listsArgument{firstRing(n), []int{0}, [][]int{no}})
		}
	}
	for _, no := range noRings() {
		arguments = append(arguments, listsArgument{no, no, [][]int{no}}, listsArgument{no, []int{0, 2}, [][]int{{1}}})
	}
	return arguments
}

func TestWeavesKeepArguments(t *testing.T) {
	checkKeptArguments(t, weaveCalls(), weaveArguments())
}

func TestWeavesShareNoMemory(t *testing.T) {
	checkOwnMemory(t, weaveCalls(), weaveArguments())
}

func TestWeavesShareNoMemoryWithin(t *testing.T) {
	checkOwnMemoryWithin(t, weaveCalls(), weaveArguments())
}

func TestWeavesKeepNoState(t *testing.T) {
	checkNoState(t, weaveCalls(), weaveArguments())
}

func TestWeavesNilAndEmpty(t *testing.T) {
	checkNilAndEmpty(t, weaveCalls())
}
