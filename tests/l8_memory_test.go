package tests

import (
	"testing"

	"loop.example/ringorders/impl"
)

// patternCalls returns the calls of chapter 8: the list of points is the pattern, and the set has the first points, as many as it has.
func patternCalls() []listsCall {
	return []listsCall{
		{"PatternAt", func(a, x []int, list [][]int) ([][]int, bool) { return nil, impl.PatternAt(a, x, 1<<len(x)-1) }},
		{"PatternMany", func(a, x []int, list [][]int) ([][]int, bool) { return oneNumber(impl.PatternMany(a, x)) }},
		{"PatternFirst", func(a, x []int, list [][]int) ([][]int, bool) { return oneNumber(impl.PatternFirst(a, x)) }},
		{"PatternOf", func(a, x []int, list [][]int) ([][]int, bool) { return oneList(impl.PatternOf(a, 1<<len(x)-1)) }},
		{"PatternOf of all points", func(a, x []int, list [][]int) ([][]int, bool) { return oneList(impl.PatternOf(a, 1<<len(a)-1)) }},
		{"PatternFree", func(a, x []int, list [][]int) ([][]int, bool) { return oneNumber(impl.PatternFree(len(a), x)) }},
		{"PatternSum", func(a, x []int, list [][]int) ([][]int, bool) { return oneNumber(impl.PatternSum(len(a), x)) }},
		{"PatternAll", func(a, x []int, list [][]int) ([][]int, bool) { return oneList(impl.PatternAll(a)) }},
		{"PatternBack", func(a, x []int, list [][]int) ([][]int, bool) { return oneNumber(impl.PatternBack(a, x)) }},
		{"PatternBack of the same ring", func(a, x []int, list [][]int) ([][]int, bool) { return oneNumber(impl.PatternBack(a, a)) }},
	}
}

// patternArguments returns what chapter 4 is called with, which is rings of as many points, of unlike many, and lists that are none, and rings with patterns of all numbers of points.
func patternArguments() []listsArgument {
	arguments := windArguments()
	for _, n := range sizes {
		a := allRings(n)[n-2]
		for _, m := range sizes {
			arguments = append(arguments, listsArgument{a, firstRing(m), nil}, listsArgument{backwards(a), allRings(m)[m-2], nil})
		}
	}
	return arguments
}

func TestPatternsKeepArguments(t *testing.T) {
	checkKeptArguments(t, patternCalls(), patternArguments())
}

func TestPatternsShareNoMemory(t *testing.T) {
	checkOwnMemory(t, patternCalls(), patternArguments())
}

func TestPatternsShareNoMemoryWithin(t *testing.T) {
	checkOwnMemoryWithin(t, patternCalls(), patternArguments())
}

func TestPatternsKeepNoState(t *testing.T) {
	checkNoState(t, patternCalls(), patternArguments())
}

func TestPatternsNilAndEmpty(t *testing.T) {
	checkNilAndEmpty(t, patternCalls())
}
