package tests

import (
	"strings"
	"sync"
	"testing"

	"loop.example/ringorders/impl"
)

// Two runs of the same script have the same output, whatever was run between.
func TestCommandKeepsNoState(t *testing.T) {
	outputs := map[string]string{}
	everyScript(func(script string) { outputs[script] = impl.Execute(script) })
	changes := "by 7 719\naside\nput 0\nzzz\nring x\nback\n"
	everyScript(func(script string) {
		impl.Execute(changes)
		wantOutput(t, script, outputs[script])
		wantOutput(t, script, outputs[script])
	})
	wantOutput(t, asking, askingOutput([]int{0, 1, 2, 3, 4}, []int{0, 1, 2, 3, 4}))
}

// Runs at the same time do not meet.
func TestCommandRunsAtTheSameTime(t *testing.T) {
	scripts := knownScripts()
	want := make([]string, len(scripts))
	for i, script := range scripts {
		want[i] = impl.Execute(script)
	}
	var group sync.WaitGroup
	for worker := range 4 {
		group.Go(func() {
			for i := range scripts {
				at := (i + worker*len(scripts)/4) % len(scripts)
				if got := impl.Execute(scripts[at]); got != want[at] {
					t.Errorf("Execute of %q returned %q, and before %q", scripts[at], got, want[at])
					return
				}
			}
		})
	}
	group.Wait()
}

// The ring and the one put aside may be the same, but one does not become what the other one becomes.
func TestCommandRingsShareNothing(t *testing.T) {
	for _, d := range someDesks() {
		for _, change := range []string{"back", "swap 0", "swap 1", "put 0", "drop", "by 6 119", "ring 0 2 1", "term (acbd)"} {
			script := placed(d.ring, d.ring) + change + "\n"
			_, then := outputTold(script)
			output := placedOutput + "ok\n"
			if strings.HasPrefix(change, "put") && len(d.ring) == 7 || change == "drop" && len(d.ring) == 3 {
				output = placedOutput + "no\n"
			}
			wantOutput(t, script+asking, output+askingOutput(then.ring, d.ring))
		}
	}
}
