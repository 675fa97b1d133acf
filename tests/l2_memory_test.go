package tests

import (
	"slices"
	"sync"
	"testing"

	"loop.example/ringorders/impl"
)

// threesCall is a call of a function of chapter 2 with a ring, a three and a telling: what it returns, as a list of lists, and whether it does not fail.
type threesCall struct {
	name string
	call func(a []int, x []int, list [][]int) ([][]int, bool)
}

// threesCalls returns the calls of chapter 2, the telling being one of as many points as the ring.
func threesCalls() []threesCall {
	oneList := func(list []int, ok bool) ([][]int, bool) { return [][]int{list}, ok }
	oneNumber := func(x int, ok bool) ([][]int, bool) { return [][]int{{x}}, ok }
	return []threesCall{
		{"ThreeIn", func(a, x []int, list [][]int) ([][]int, bool) { return nil, impl.ThreeIn(a, x) }},
		{"ThreeAll", func(a, x []int, list [][]int) ([][]int, bool) { return impl.ThreeAll(a) }},
		{"ThreeTelling", func(a, x []int, list [][]int) ([][]int, bool) { return nil, impl.ThreeTelling(len(a), list) }},
		{"ThreeClose", func(a, x []int, list [][]int) ([][]int, bool) { return impl.ThreeClose(len(a), list) }},
		{"ThreeClash", func(a, x []int, list [][]int) ([][]int, bool) { return nil, impl.ThreeClash(len(a), list) }},
		{"ThreeRings", func(a, x []int, list [][]int) ([][]int, bool) { return oneNumber(impl.ThreeRings(len(a), list)) }},
		{"ThreeFirst", func(a, x []int, list [][]int) ([][]int, bool) { return oneList(impl.ThreeFirst(len(a), list)) }},
		{"ThreeSure", func(a, x []int, list [][]int) ([][]int, bool) { return impl.ThreeSure(len(a), list) }},
		{"ThreeMost", func(a, x []int, list [][]int) ([][]int, bool) { return oneNumber(impl.ThreeMost(len(a), list)) }},
		{"ThreeMostRing", func(a, x []int, list [][]int) ([][]int, bool) { return oneList(impl.ThreeMostRing(len(a), list)) }},
		{"ThreeBack", func(a, x []int, list [][]int) ([][]int, bool) { return impl.ThreeBack(len(a), list) }},
	}
}

// threesArgument is what the calls of chapter 2 are made with.
type threesArgument struct {
	a, x []int
	list [][]int
}

// threesArguments returns rings, threes and tellings, invalid ones among them.
func threesArguments() []threesArgument {
	arguments := []threesArgument{}
	for _, n := range sizes {
		a := allRings(n)[n-2]
		for _, list := range [][][]int{nil, {}, {{0, 1, 2}}, {{2, 1, 0}, {0, 1, 2}}, longTelling(n, 3), longTelling(n, 40)} {
			arguments = append(arguments, threesArgument{a, []int{1, 2, 0}, list}, threesArgument{a, []int{2, 1, 0}, list})
		}
		for _, list := range noTellingsOfThrees(n)[:30] {
			arguments = append(arguments, threesArgument{a, []int{0, 1, 1}, list})
		}
	}
	for _, no := range noRings() {
		arguments = append(arguments, threesArgument{no, no, [][]int{no}}, threesArgument{no, []int{0, 1, 2}, [][]int{{0, 1, 2}, {0, 2, 1}}})
	}
	return arguments
}

// guardedArgument returns a copy of what a call is made with that shows writing.
func guardedArgument(g threesArgument) threesArgument {
	return threesArgument{guarded(g.a), guarded(g.x), guardedLists(g.list)}
}

// wantArgumentKept fails the test if a guarded argument is not as it was made.
func wantArgumentKept(t *testing.T, got threesArgument, was threesArgument, what string) {
	t.Helper()
	wantKept(t, got.a, was.a, what)
	wantKept(t, got.x, was.x, what)
	wantListsKept(t, got.list, was.list, what)
}

func TestThreesKeepArguments(t *testing.T) {
	arguments := threesArguments()
	for _, c := range threesCalls() {
		for _, g := range arguments {
			guard := guardedArgument(g)
			c.call(guard.a, guard.x, guard.list)
			wantArgumentKept(t, guard, g, c.name)
		}
	}
}

func TestThreesShareNoMemory(t *testing.T) {
	arguments := threesArguments()
	for _, c := range threesCalls() {
		for _, g := range arguments {
			guard := guardedArgument(g)
			first, ok := c.call(guard.a, guard.x, guard.list)
			want := cloneLists(first)
			second, again := c.call(guard.a, guard.x, guard.list)
			if ok != again || !sameLists(second, want) {
				t.Fatalf("%s of %v is %v, and then %v", c.name, g, want, second)
			}
			scribbleLists(first)
			wantArgumentKept(t, guard, g, c.name)
			if !sameLists(second, want) {
				t.Fatalf("%s: two results share memory", c.name)
			}
			scribble(guard.a)
			scribble(guard.x)
			scribbleLists(guard.list)
			if !sameLists(second, want) {
				t.Fatalf("%s: the result shares memory with an argument", c.name)
			}
		}
	}
}

func TestThreesShareNoMemoryWithin(t *testing.T) {
	arguments := threesArguments()
	for _, c := range threesCalls() {
		for _, g := range arguments {
			lists, _ := c.call(g.a, g.x, g.list)
			want := cloneLists(lists)
			for i := range lists {
				scribble(lists[i])
				if !sameLists(lists[i+1:], want[i+1:]) {
					t.Fatalf("%s of %v: two lists of the result share memory", c.name, g)
				}
			}
			again, _ := c.call(g.a, g.x, g.list)
			for i := len(again) - 1; i >= 0; i-- {
				scribble(again[i])
				if !sameLists(again[:i], want[:i]) {
					t.Fatalf("%s of %v: two lists of the result share memory", c.name, g)
				}
			}
		}
	}
}

func TestThreesKeepNoState(t *testing.T) {
	type result struct {
		lists [][]int
		ok    bool
	}
	arguments := threesArguments()
	results := func() []result {
		all := []result{}
		for _, c := range threesCalls() {
			for _, g := range arguments {
				lists, ok := c.call(g.a, g.x, g.list)
				all = append(all, result{lists, ok})
			}
		}
		return all
	}
	want := results()
	var group sync.WaitGroup
	for range 4 {
		group.Go(func() {
			same := slices.EqualFunc(results(), want, func(x, y result) bool { return x.ok == y.ok && sameLists(x.lists, y.lists) })
			if !same {
				t.Error("the same calls returned other results")
			}
		})
	}
	group.Wait()
}

func TestThreesNilAndEmpty(t *testing.T) {
	for _, c := range threesCalls() {
		for _, a := range [][]int{nil, {}, {0, 1, 2}, {0, 2, 1, 3}} {
			none, ok := c.call(a, nil, nil)
			empty, ok2 := c.call(a, []int{}, [][]int{})
			if ok != ok2 || !sameLists(none, empty) {
				t.Errorf("%s of %v with nil is %v, and with empty lists %v", c.name, a, none, empty)
			}
			within, ok := c.call(a, nil, [][]int{nil})
			emptyWithin, ok2 := c.call(a, []int{}, [][]int{{}})
			if ok != ok2 || !sameLists(within, emptyWithin) {
				t.Errorf("%s of %v with nil in a list is %v, and with an empty list %v", c.name, a, within, emptyWithin)
			}
		}
	}
}
