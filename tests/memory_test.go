package tests

import (
	"slices"
	"sync"
	"testing"
)

// listsCall is a call of a function with a ring, a list of points and a list of lists: what it returns, as a list of lists, and whether it does not fail.
type listsCall struct {
	name string
	call func(a []int, x []int, list [][]int) ([][]int, bool)
}

// listsArgument is what such calls are made with.
type listsArgument struct {
	a, x []int
	list [][]int
}

// oneList returns a result that is but one list.
func oneList(list []int, ok bool) ([][]int, bool) {
	return [][]int{list}, ok
}

// oneNumber returns a result that is but one number.
func oneNumber(x int, ok bool) ([][]int, bool) {
	return [][]int{{x}}, ok
}

// guardedArgument returns a copy of what a call is made with that shows writing.
func guardedArgument(g listsArgument) listsArgument {
	return listsArgument{guarded(g.a), guarded(g.x), guardedLists(g.list)}
}

// wantArgumentKept fails the test if a guarded argument is not as it was made.
func wantArgumentKept(t *testing.T, got listsArgument, was listsArgument, what string) {
	t.Helper()
	wantKept(t, got.a, was.a, what)
	wantKept(t, got.x, was.x, what)
	wantListsKept(t, got.list, was.list, what)
}

// checkKeptArguments fails the test if a call changes an argument.
func checkKeptArguments(t *testing.T, calls []listsCall, arguments []listsArgument) {
	t.Helper()
	for _, c := range calls {
		for _, g := range arguments {
			guard := guardedArgument(g)
			c.call(guard.a, guard.x, guard.list)
			wantArgumentKept(t, guard, g, c.name)
		}
	}
}

// checkOwnMemory fails the test if a result shares memory with an argument or with the result of another call.
func checkOwnMemory(t *testing.T, calls []listsCall, arguments []listsArgument) {
	t.Helper()
	for _, c := range calls {
		for _, g := range arguments {
			guard := guardedArgument(g)
			first, ok := c.call(guard.a, guard.x, guard.list)
			want := cloneLists(first)
			second, again := c.call(guard.a, guard.x, guard.list)
			if ok != again || !sameLists(second, want) {
				t.Fatalf("%s of %v is %v, and then %v", c.name, g, want, second)
			}
			scribbleLists(first)
			wantArgumentKept(t, guard, g, c.name)
			if !sameLists(second, want) {
				t.Fatalf("%s: two results share memory", c.name)
			}
			scribble(guard.a)
			scribble(guard.x)
			scribbleLists(guard.list)
			if !sameLists(second, want) {
				t.Fatalf("%s: the result shares memory with an argument", c.name)
			}
		}
	}
}

// checkOwnMemoryWithin fails the test if two lists of one result share memory.
func checkOwnMemoryWithin(t *testing.T, calls []listsCall, arguments []listsArgument) {
	t.Helper()
	for _, c := range calls {
		for _, g := range arguments {
			lists, _ := c.call(g.a, g.x, g.list)
			want := cloneLists(lists)
			for i := range lists {
				scribble(lists[i])
				if !sameLists(lists[i+1:], want[i+1:]) {
					t.Fatalf("%s of %v: two lists of the result share memory", c.name, g)
				}
			}
			again, _ := c.call(g.a, g.x, g.list)
			for i := len(again) - 1; i >= 0; i-- {
				scribble(again[i])
				if !sameLists(again[:i], want[:i]) {
					t.Fatalf("%s of %v: two lists of the result share memory", c.name, g)
				}
			}
		}
	}
}

// checkNoState fails the test if the same calls, made at the same time, do not all return the same.
func checkNoState(t *testing.T, calls []listsCall, arguments []listsArgument) {
	t.Helper()
	type result struct {
		lists [][]int
		ok    bool
	}
	results := func() []result {
		all := []result{}
		for _, c := range calls {
			for _, g := range arguments {
				lists, ok := c.call(g.a, g.x, g.list)
				all = append(all, result{lists, ok})
			}
		}
		return all
	}
	want := results()
	var group sync.WaitGroup
	for range 4 {
		group.Go(func() {
			same := slices.EqualFunc(results(), want, func(x, y result) bool { return x.ok == y.ok && sameLists(x.lists, y.lists) })
			if !same {
				t.Error("the same calls returned other results")
			}
		})
	}
	group.Wait()
}

// checkNilAndEmpty fails the test if a call does not take a nil list as it takes an empty one.
func checkNilAndEmpty(t *testing.T, calls []listsCall) {
	t.Helper()
	for _, c := range calls {
		for _, a := range [][]int{nil, {}, {0, 1, 2}, {0, 2, 1, 3}} {
			none, ok := c.call(a, nil, nil)
			empty, ok2 := c.call(a, []int{}, [][]int{})
			if ok != ok2 || !sameLists(none, empty) {
				t.Errorf("%s of %v with nil is %v, and with empty lists %v", c.name, a, none, empty)
			}
			within, ok := c.call(a, nil, [][]int{nil})
			emptyWithin, ok2 := c.call(a, []int{}, [][]int{{}})
			if ok != ok2 || !sameLists(within, emptyWithin) {
				t.Errorf("%s of %v with nil in a list is %v, and with an empty list %v", c.name, a, within, emptyWithin)
			}
		}
	}
}
