package tests

import (
	"testing"

	"loop.example/ringorders/impl"
)

// arcCalls returns the calls of chapter 7: there are as many points as the ring has, the list of points is a family, and the first list, if there is one, the second ring.
func arcCalls() []listsCall {
	return []listsCall{
		{"ArcIs", func(a, x []int, list [][]int) ([][]int, bool) { return nil, impl.ArcIs(a, len(x)) }},
		{"ArcAll", func(a, x []int, list [][]int) ([][]int, bool) { return oneList(impl.ArcAll(a)) }},
		{"ArcFamily", func(a, x []int, list [][]int) ([][]int, bool) { return nil, impl.ArcFamily(len(a), x) }},
		{"ArcRings", func(a, x []int, list [][]int) ([][]int, bool) { return oneNumber(impl.ArcRings(len(a), x)) }},
		{"ArcFirst", func(a, x []int, list [][]int) ([][]int, bool) { return oneList(impl.ArcFirst(len(a), x)) }},
		{"ArcMost", func(a, x []int, list [][]int) ([][]int, bool) { return oneNumber(impl.ArcMost(len(a), x)) }},
		{"ArcRuns", func(a, x []int, list [][]int) ([][]int, bool) { return oneNumber(impl.ArcRuns(a, len(x)/2)) }},
		{"ArcEnds", func(a, x []int, list [][]int) ([][]int, bool) {
			first, last, ok := impl.ArcEnds(a, len(x))
			return [][]int{{first, last}}, ok
		}},
		{"ArcCommon", func(a, x []int, list [][]int) ([][]int, bool) {
			if len(list) == 0 {
				return oneList(impl.ArcCommon(a, nil))
			}
			return oneList(impl.ArcCommon(a, list[0]))
		}},
		{"ArcCommon of the same ring", func(a, x []int, list [][]int) ([][]int, bool) { return oneList(impl.ArcCommon(a, a)) }},
	}
}

// arcArguments returns rings with families, with those that no ring has, with lists that are none, and with a second ring.
func arcArguments() []listsArgument {
	arguments := []listsArgument{}
	for _, n := range sizes {
		rings := allRings(n)
		a := rings[n-2]
		for size := range 13 {
			arguments = append(arguments,
				listsArgument{a, longFamily(n, size), [][]int{rings[len(rings)/2]}},
				listsArgument{backwards(a), arcsOf(a)[:min(size, n*(n-1))], [][]int{a}},
			)
		}
		for _, no := range noFamilies(min(n, 6)) {
			arguments = append(arguments, listsArgument{a, no, [][]int{no}})
		}
		arguments = append(arguments, listsArgument{a, a, [][]int{firstRing(3)}}, listsArgument{a, a[1:], nil})
	}
	for _, no := range noRings() {
		arguments = append(arguments, listsArgument{no, no, [][]int{no}}, listsArgument{no, []int{1, 2}, [][]int{{0, 2, 1}}}, listsArgument{[]int{0, 2, 1}, no, [][]int{no}})
	}
	return arguments
}

func TestArcsKeepArguments(t *testing.T) {
	checkKeptArguments(t, arcCalls(), arcArguments())
}

func TestArcsShareNoMemory(t *testing.T) {
	checkOwnMemory(t, arcCalls(), arcArguments())
}

func TestArcsShareNoMemoryWithin(t *testing.T) {
	checkOwnMemoryWithin(t, arcCalls(), arcArguments())
}

func TestArcsKeepNoState(t *testing.T) {
	checkNoState(t, arcCalls(), arcArguments())
}

func TestArcsNilAndEmpty(t *testing.T) {
	checkNilAndEmpty(t, arcCalls())
}
