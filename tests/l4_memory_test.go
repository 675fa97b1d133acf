package tests

import (
	"testing"

	"loop.example/ringorders/impl"
)

// windCalls returns the calls of chapter 4: the list of points is the second ring, the first list, if there is one, the third ring.
func windCalls() []listsCall {
	third := func(list [][]int) []int {
		if len(list) == 0 {
			return nil
		}
		return list[0]
	}
	return []listsCall{
		{"WindOf", func(a, x []int, list [][]int) ([][]int, bool) { return oneNumber(impl.WindOf(a, x)) }},
		{"WindFalls", func(a, x []int, list [][]int) ([][]int, bool) { return oneNumber(impl.WindFalls(a)) }},
		{"WindCounts", func(a, x []int, list [][]int) ([][]int, bool) { return oneList(impl.WindCounts(len(a))) }},
		{"WindSums", func(a, x []int, list [][]int) ([][]int, bool) { return oneList(impl.WindSums(len(a))) }},
		{"WindPath", func(a, x []int, list [][]int) ([][]int, bool) { return oneList(impl.WindPath(a, x)) }},
		{"WindPath of the same ring", func(a, x []int, list [][]int) ([][]int, bool) { return oneList(impl.WindPath(a, a)) }},
		{"WindBetween", func(a, x []int, list [][]int) ([][]int, bool) { return oneNumber(impl.WindBetween(a, x, third(list))) }},
		{"WindMost", func(a, x []int, list [][]int) ([][]int, bool) { return oneNumber(impl.WindMost(a, len(x)-1)) }},
	}
}

// windArguments returns rings of as many points, of unlike many points, and lists that are none.
func windArguments() []listsArgument {
	arguments := []listsArgument{}
	for _, n := range sizes {
		rings := allRings(n)
		for _, a := range [][]int{rings[0], rings[n-2], rings[len(rings)/2]} {
			arguments = append(arguments,
				listsArgument{a, a, [][]int{a}},
				listsArgument{a, backwards(a), [][]int{rings[1]}},
				listsArgument{a, rings[1], [][]int{rings[0]}},
				listsArgument{a, rings[1], nil},
				listsArgument{a, allRings(3 + n%5)[0], [][]int{a}},
			)
		}
	}
	for _, no := range noRings() {
		arguments = append(arguments, listsArgument{no, no, [][]int{no}}, listsArgument{[]int{0, 2, 1}, no, [][]int{{0, 1, 2}}}, listsArgument{[]int{0, 2, 1}, []int{0, 1, 2}, [][]int{no}})
	}
	return arguments
}

func TestWindsKeepArguments(t *testing.T) {
	checkKeptArguments(t, windCalls(), windArguments())
}

func TestWindsShareNoMemory(t *testing.T) {
	checkOwnMemory(t, windCalls(), windArguments())
}

func TestWindsKeepNoState(t *testing.T) {
	checkNoState(t, windCalls(), windArguments())
}

func TestWindsNilAndEmpty(t *testing.T) {
	checkNilAndEmpty(t, windCalls())
}
