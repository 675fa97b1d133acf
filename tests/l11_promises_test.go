package tests

import (
	"fmt"
	"strings"
	"testing"

	"loop.example/ringorders/impl"
)

// aheadOfLast returns what an output has ahead of its last line, and this line.
func aheadOfLast(t *testing.T, output string) (string, string) {
	t.Helper()
	last := strings.LastIndex(strings.TrimSuffix(output, "\n"), "\n") + 1
	if !strings.HasPrefix(output[last:], "points ") || !strings.HasSuffix(output, "\n") {
		t.Fatalf("the last line of the output %q does not tell the points", output)
	}
	return output[:last], output[last:]
}

// pointsLine returns the last line of the output for a ring.
func pointsLine(a []int) string {
	return fmt.Sprintf("points %d\n", len(a))
}

func TestP104(t *testing.T) {
	wantOutput(t, "", "points 5\n")
	tails := []string{"x", " ", "show", "drop", "ring 0 1 2", "by 7 0", "zzz", "\r", "\x00", "\xff", "tidy (abc)", "points 3", strings.Repeat("x", 300)}
	everyScript(func(script string) {
		output := impl.Execute(script)
		wantBool(t, output == "", false, "the output is empty", script)
		aheadOfLast(t, output)
		for _, tail := range append(tails, strings.Repeat("y", 600-len(script)), strings.Repeat("\u00e4", (600-len(script))/2)) {
			if len(script)+len(tail) <= impl.MaxScript {
				wantOutput(t, script+tail, output)
			} else {
				wantOutput(t, script+tail, "too long\n")
			}
		}
		wantOutput(t, script+strings.Repeat("y", 601-len(script)), "too long\n")
	})
	for _, text := range append(otherLines(), failingLines...) {
		wantOutput(t, text, "points 5\n")
		wantBool(t, impl.Execute(text+"\n") == "", false, "the output is empty", text)
	}
}

func TestP105(t *testing.T) {
	added := 0
	everyScript(func(script string) {
		if len(script)+12 > impl.MaxScript {
			return
		}
		added++
		ahead, last := aheadOfLast(t, impl.Execute(script))
		wantOutput(t, script+"zzz\nring x\n", ahead+"what\nno\n"+last)
		for _, d := range []struct{ line, output string }{{"", "what"}, {"zz 1 2 3", "what"}, {"show ", "what"}, {"cut", "what"}, {"cut ", "no"}, {"ring 0 1", "no"}, {"by 2 0", "no"}, {"term x", "no"}, {"put 9", "no"}} {
			wantOutput(t, script+d.line+"\n", ahead+d.output+"\n"+last)
		}
	})
	if added < 500 {
		t.Errorf("only %d scripts have room for both lines", added)
	}
	// The room is just as much as both lines have at most.
	wantOutput(t, strings.Repeat("x", 588)+"\nzzz\nring x\n", "what\nwhat\nno\npoints 5\n")
	wantOutput(t, strings.Repeat("x", 589)+"\nzzz\nring x\n", "too long\n")
}

func TestP106(t *testing.T) {
	added := 0
	rings := map[string]bool{}
	everyScript(func(script string) {
		if len(script)+10 > impl.MaxScript {
			return
		}
		added++
		ahead, last := aheadOfLast(t, impl.Execute(script))
		_, d := outputTold(script)
		shown := numbersWith(d.ring) + "\n"
		wantOutput(t, script+"show\nshow\n", ahead+shown+shown+last)
		rings[shown] = true
	})
	if added < 500 || len(rings) < 100 {
		t.Errorf("only %d scripts have room for both lines, with %d rings", added, len(rings))
	}
	wantOutput(t, strings.Repeat("x", 589)+"\nshow\nshow\n", "what\n0 1 2 3 4\n0 1 2 3 4\npoints 5\n")
	wantOutput(t, strings.Repeat("x", 590)+"\nshow\nshow\n", "too long\n")
}

func TestP107(t *testing.T) {
	everyRing(func(a []int) {
		arcs, ok := impl.ArcAll(a)
		wantOutput(t, "ring "+numbersWith(a)+"\narcs\n", "ok\n"+numbersWith(mustList(t, arcs, ok))+"\n"+pointsLine(a))
	})
	first, _ := impl.ArcAll(firstRing(5))
	for _, no := range noTellings() {
		if len(no) < 100 {
			wantOutput(t, "ring "+numbersWith(no)+"\narcs\n", "no\n"+numbersWith(first)+"\npoints 5\n")
		}
	}
}

func TestP108(t *testing.T) {
	everyTwoAsked(func(a, b []int) {
		way, ok := impl.SwapWay(a, b)
		want := numbersWith(mustList(t, way, ok))
		if len(way) == 0 {
			want = "."
		}
		wantOutput(t, "ring "+numbersWith(b)+"\naside\nring "+numbersWith(a)+"\nway\n", "ok\nok\nok\n"+want+"\n"+pointsLine(a))
	})
	everyNoTwoAsked(func(a, b []int) {
		if impl.RingIn(a) && impl.RingIn(b) {
			wantOutput(t, "ring "+numbersWith(b)+"\naside\nring "+numbersWith(a)+"\nway\n", "ok\nok\nok\nno\n"+pointsLine(a))
		}
	})
}

func TestP109(t *testing.T) {
	everyTerm(func(s, _ string) {
		wantOutput(t, "tidy "+s+"\n", mustTidy(t, s)+"\npoints 5\n")
	})
	everyNoTerm(func(s string) {
		if len(s) < 590 && !strings.Contains(s, "\n") {
			wantOutput(t, "tidy "+s+"\n", "no\npoints 5\n")
		}
	})
}

func TestP110(t *testing.T) {
	for _, n := range append(noSizes, sizes...) {
		for number := -2; number < 1010; number++ {
			script := fmt.Sprintf("by %d %d\nshow\n", n, number)
			if a, ok := impl.RingBy(n, number); ok {
				wantOutput(t, script, "ok\n"+numbersWith(a)+"\n"+pointsLine(a))
			} else {
				wantOutput(t, script, "no\n0 1 2 3 4\npoints 5\n")
			}
		}
	}
}
