package tests

import (
	"slices"
	"sync"
	"testing"

	"loop.example/ringorders/impl"
)

// ringCall is a call of a function of chapter 1 with a ring: the numbers that it returns, as a list if it is but one, and whether it does not fail.
type ringCall struct {
	name string
	call func(a []int, p []int) ([]int, bool)
}

// listCalls returns the calls of chapter 1 that return a list.
func listCalls() []ringCall {
	return []ringCall{
		{"RingOf", func(a, p []int) ([]int, bool) { return impl.RingOf(a) }},
		{"RingOf of a list", func(a, p []int) ([]int, bool) { return impl.RingOf(p) }},
		{"RingBack", func(a, p []int) ([]int, bool) { return impl.RingBack(a) }},
		{"RingCut at 0", func(a, p []int) ([]int, bool) { return impl.RingCut(a, 0) }},
		{"RingCut", func(a, p []int) ([]int, bool) { return impl.RingCut(a, 2) }},
		{"RingFrom", func(a, p []int) ([]int, bool) { return impl.RingFrom(a, 0, 1) }},
		{"RingFrom to the same point", func(a, p []int) ([]int, bool) { return impl.RingFrom(a, 0, 0) }},
		{"RingNamed", func(a, p []int) ([]int, bool) { return impl.RingNamed(a, p) }},
		{"RingNamed with itself", func(a, p []int) ([]int, bool) { return impl.RingNamed(a, a) }},
		{"RingBy", func(a, p []int) ([]int, bool) { return impl.RingBy(len(a), 1) }},
		{"RingDrop", func(a, p []int) ([]int, bool) { return impl.RingDrop(a) }},
		{"RingPut", func(a, p []int) ([]int, bool) { return impl.RingPut(a, 0) }},
	}
}

// numberCalls returns the calls of chapter 1 that return a number or a bool only.
func numberCalls() []ringCall {
	one := func(x int, ok bool) ([]int, bool) { return []int{x}, ok }
	return []ringCall{
		{"RingIn", func(a, p []int) ([]int, bool) { return nil, impl.RingIn(a) }},
		{"RingNext", func(a, p []int) ([]int, bool) { return one(impl.RingNext(a, 2)) }},
		{"RingSteps", func(a, p []int) ([]int, bool) { return one(impl.RingSteps(a, 2, 0)) }},
		{"RingNumber", func(a, p []int) ([]int, bool) { return one(impl.RingNumber(a)) }},
		{"RingCount", func(a, p []int) ([]int, bool) { return one(impl.RingCount(len(a))) }},
	}
}

// callArguments returns rings and lists to call with, invalid ones among them.
func callArguments() [][2][]int {
	pairs := [][2][]int{}
	for _, n := range sizes {
		rings := allRings(n)
		pairs = append(pairs, [2][]int{rings[0], backwards(rings[1])}, [2][]int{rings[len(rings)/2], turned(rings[1], 2)})
	}
	for _, no := range noRings() {
		pairs = append(pairs, [2][]int{no, no}, [2][]int{{0, 2, 1}, no}, [2][]int{no, {1, 2, 0}})
	}
	return pairs
}

func TestRingsKeepArguments(t *testing.T) {
	for _, c := range append(listCalls(), numberCalls()...) {
		for _, pair := range callArguments() {
			a, p := guarded(pair[0]), guarded(pair[1])
			c.call(a, p)
			wantKept(t, a, pair[0], c.name)
			wantKept(t, p, pair[1], c.name)
		}
	}
}

func TestRingsShareNoMemory(t *testing.T) {
	for _, c := range listCalls() {
		for _, pair := range callArguments() {
			a, p := guarded(pair[0]), guarded(pair[1])
			first, ok := c.call(a, p)
			want := slices.Clone(first)
			second, _ := c.call(a, p)
			scribble(first)
			wantKept(t, a, pair[0], c.name)
			wantKept(t, p, pair[1], c.name)
			if !slices.Equal(second, want) {
				t.Fatalf("%s: two results share memory", c.name)
			}
			third, again := c.call(a, p)
			if again != ok || !slices.Equal(third, want) {
				t.Fatalf("%s of %v, %v is %v, %v, and then %v, %v", c.name, pair[0], pair[1], want, ok, third, again)
			}
			scribble(a)
			scribble(p)
			if !slices.Equal(third, want) {
				t.Fatalf("%s: the result shares memory with an argument", c.name)
			}
		}
	}
}

func TestRingsKeepNoState(t *testing.T) {
	calls := append(listCalls(), numberCalls()...)
	type result struct {
		list []int
		ok   bool
	}
	results := func() []result {
		all := []result{}
		for _, c := range calls {
			for _, pair := range callArguments() {
				list, ok := c.call(pair[0], pair[1])
				all = append(all, result{list, ok})
			}
		}
		return all
	}
	want := results()
	same := func(got []result) bool {
		return slices.EqualFunc(got, want, func(x, y result) bool { return x.ok == y.ok && slices.Equal(x.list, y.list) })
	}
	var group sync.WaitGroup
	for range 4 {
		group.Go(func() {
			if !same(results()) {
				t.Error("the same calls returned other results")
			}
		})
	}
	group.Wait()
}

func TestRingsNilAndEmpty(t *testing.T) {
	for _, c := range append(listCalls(), numberCalls()...) {
		for _, pair := range [][2][]int{{nil, nil}, {{}, {}}, {nil, {}}, {{}, nil}} {
			got, ok := c.call(pair[0], pair[1])
			if ok || slices.ContainsFunc(got, func(x int) bool { return x != 0 }) {
				t.Errorf("%s of empty lists is %v, %v", c.name, got, ok)
			}
		}
	}
}
