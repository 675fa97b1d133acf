package tests

import (
	"testing"

	"loop.example/ringorders/impl"
)

// numbersOf returns the bytes of a text as numbers, so that the checks for lists take it.
func numbersOf(s string) []int {
	numbers := []int{}
	for _, c := range []byte(s) {
		numbers = append(numbers, int(c))
	}
	return numbers
}

// textOf returns the text of bytes that are told as numbers.
func textOf(numbers []int) string {
	bytes := []byte{}
	for _, c := range numbers {
		bytes = append(bytes, byte(c))
	}
	return string(bytes)
}

// oneText returns a result that is but one text.
func oneText(s string, ok bool) ([][]int, bool) {
	return [][]int{numbersOf(s)}, ok
}

// termCalls returns the calls of chapter 9: the list of points has the bytes of a text, and the first list, if there is one, those of a second one.
func termCalls() []listsCall {
	return []listsCall{
		{"TermIn", func(a, x []int, list [][]int) ([][]int, bool) { return nil, impl.TermIn(textOf(x)) }},
		{"TermRow", func(a, x []int, list [][]int) ([][]int, bool) { return oneText(impl.TermRow(textOf(x))) }},
		{"TermRing", func(a, x []int, list [][]int) ([][]int, bool) { return oneList(impl.TermRing(textOf(x))) }},
		{"TermTidy", func(a, x []int, list [][]int) ([][]int, bool) { return oneText(impl.TermTidy(textOf(x))) }},
		{"TermFlat", func(a, x []int, list [][]int) ([][]int, bool) { return oneText(impl.TermFlat(textOf(x))) }},
		{"TermArcs", func(a, x []int, list [][]int) ([][]int, bool) { return oneList(impl.TermArcs(textOf(x))) }},
		{"TermSame", func(a, x []int, list [][]int) ([][]int, bool) {
			second := []int{}
			if len(list) > 0 {
				second = list[0]
			}
			return nil, impl.TermSame(textOf(x), textOf(second))
		}},
		{"TermOf", func(a, x []int, list [][]int) ([][]int, bool) { return oneText(impl.TermOf(a)) }},
		{"TermDeep", func(a, x []int, list [][]int) ([][]int, bool) { return oneNumber(impl.TermDeep(textOf(x))) }},
	}
}

// termArguments returns rings and lists that are none, with ring terms and texts that are none.
func termArguments() []listsArgument {
	arguments := []listsArgument{}
	for i, s := range longTerms(60) {
		arguments = append(arguments, listsArgument{allRings(3 + i%5)[i%2], numbersOf(s), [][]int{numbersOf(mirrored(s))}})
	}
	for _, s := range shapesOf(allLetters[:5]) {
		arguments = append(arguments, listsArgument{nil, numbersOf(s), [][]int{numbersOf("-" + s)}}, listsArgument{nil, numbersOf("-" + s), [][]int{numbersOf(s)}})
	}
	for i, s := range namedNoTerms() {
		if len(s) <= 100 {
			arguments = append(arguments, listsArgument{noRings()[i%len(noRings())], numbersOf(s), [][]int{numbersOf("(abc)")}})
		}
	}
	everyRing(func(a []int) {
		if len(a) <= 5 {
			arguments = append(arguments, listsArgument{a, numbersOf("(" + rowWith(a) + ")"), nil})
		}
	})
	return arguments
}

// mirrored returns a ring term that tells the same ring as one of 60 bytes, with the letters of its row alone.
func mirrored(s string) string {
	row, _ := rowTold(s)
	return "-(" + reversed(row) + ")"
}

func TestTermsKeepArguments(t *testing.T) {
	checkKeptArguments(t, termCalls(), termArguments())
}

func TestTermsShareNoMemory(t *testing.T) {
	checkOwnMemory(t, termCalls(), termArguments())
}

func TestTermsShareNoMemoryWithin(t *testing.T) {
	checkOwnMemoryWithin(t, termCalls(), termArguments())
}

func TestTermsKeepNoState(t *testing.T) {
	checkNoState(t, termCalls(), termArguments())
}

func TestTermsNilAndEmpty(t *testing.T) {
	checkNilAndEmpty(t, termCalls())
}
