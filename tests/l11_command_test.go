package tests

import (
	"fmt"
	"math/rand"
	"regexp"
	"slices"
	"strconv"
	"strings"
	"sync"
	"testing"

	"loop.example/ringorders/impl"
)

// The functions below tell again, in the plainest way, what chapter 11 says; the tests hold the program against them.

// The rests that are told behind words, where not a number of numbers is.
const (
	noRest   = 0
	someRest = -1
	textRest = -2
)

// desk has the ring, and the one put aside.
type desk struct {
	ring, aside []int
}

// become makes a ring the one of the desk, if it is told.
func (d *desk) become(a []int, ok bool) (any, bool) {
	if ok {
		d.ring = a
	}
	return "ok", ok
}

// form is a word, the rest that is told behind it, an example of such a rest, and what such a line does: x has the numbers of its rest, and s is its text.
type form struct {
	word    string
	rest    int
	example string
	does    func(d *desk, x []int, s string) (any, bool)
}

// forms are all words of the chapter. All examples succeed for the ring 0 2 1 3 if 0 1 2 3 is put aside, but those of first and at.
var forms = []form{
	{"ring", someRest, "0 1 2", func(d *desk, x []int, s string) (any, bool) { return d.become(impl.RingOf(x)) }},
	{"term", textRest, "(ab(dc))", func(d *desk, x []int, s string) (any, bool) { return d.become(impl.TermRing(s)) }},
	{"by", 2, "4 3", func(d *desk, x []int, s string) (any, bool) { return d.become(impl.RingBy(x[0], x[1])) }},
	{"back", noRest, "", func(d *desk, x []int, s string) (any, bool) { return d.become(impl.RingBack(d.ring)) }},
	{"swap", 1, "2", func(d *desk, x []int, s string) (any, bool) { return d.become(impl.SwapAt(d.ring, x[0])) }},
	{"put", 1, "1", func(d *desk, x []int, s string) (any, bool) { return d.become(impl.RingPut(d.ring, x[0])) }},
	{"drop", noRest, "", func(d *desk, x []int, s string) (any, bool) { return d.become(impl.RingDrop(d.ring)) }},
	{"aside", noRest, "", func(d *desk, x []int, s string) (any, bool) { d.aside = d.ring; return "ok", true }},
	{"show", noRest, "", func(d *desk, x []int, s string) (any, bool) { return d.ring, true }},
	{"number", noRest, "", func(d *desk, x []int, s string) (any, bool) { return impl.RingNumber(d.ring) }},
	{"as", noRest, "", func(d *desk, x []int, s string) (any, bool) { return impl.TermOf(d.ring) }},
	{"falls", noRest, "", func(d *desk, x []int, s string) (any, bool) { return impl.WindFalls(d.ring) }},
	{"cut", 1, "3", func(d *desk, x []int, s string) (any, bool) { return impl.RingCut(d.ring, x[0]) }},
	{"next", 1, "3", func(d *desk, x []int, s string) (any, bool) { return impl.RingNext(d.ring, x[0]) }},
	{"steps", 2, "1 2", func(d *desk, x []int, s string) (any, bool) { return impl.RingSteps(d.ring, x[0], x[1]) }},
	{"from", 2, "1 2", func(d *desk, x []int, s string) (any, bool) { return impl.RingFrom(d.ring, x[0], x[1]) }},
	{"three", 3, "1 3 2", func(d *desk, x []int, s string) (any, bool) { return impl.ThreeIn(d.ring, x), true }},
	{"parts", 4, "0 1 2 3", func(d *desk, x []int, s string) (any, bool) { return impl.PairParts(d.ring, x), true }},
	{"wind", noRest, "", func(d *desk, x []int, s string) (any, bool) { return impl.WindOf(d.ring, d.aside) }},
	{"path", noRest, "", func(d *desk, x []int, s string) (any, bool) { return impl.WindPath(d.ring, d.aside) }},
	{"differ", noRest, "", func(d *desk, x []int, s string) (any, bool) { return impl.SwapDiffer(d.ring, d.aside) }},
	{"far", noRest, "", func(d *desk, x []int, s string) (any, bool) { return impl.SwapFar(d.ring, d.aside) }},
	{"way", noRest, "", func(d *desk, x []int, s string) (any, bool) { return impl.SwapWay(d.ring, d.aside) }},
	{"common", noRest, "", func(d *desk, x []int, s string) (any, bool) { return impl.ArcCommon(d.ring, d.aside) }},
	{"winds", 1, "4", func(d *desk, x []int, s string) (any, bool) { return impl.WindCounts(x[0]) }},
	{"far", 1, "4", func(d *desk, x []int, s string) (any, bool) { return impl.SwapCounts(x[0]) }},
	{"near", noRest, "", func(d *desk, x []int, s string) (any, bool) { return impl.SwapNear(d.ring) }},
	{"part", 1, "7", func(d *desk, x []int, s string) (any, bool) { return impl.WeavePart(d.ring, x[0]) }},
	{"arcs", noRest, "", func(d *desk, x []int, s string) (any, bool) { return impl.ArcAll(d.ring) }},
	{"runs", 1, "3", func(d *desk, x []int, s string) (any, bool) { return impl.ArcRuns(d.ring, x[0]) }},
	{"has", noRest, "", func(d *desk, x []int, s string) (any, bool) { return impl.PatternAll(d.ring) }},
	{"free", 1, "5", func(d *desk, x []int, s string) (any, bool) { return impl.PatternFree(x[0], d.ring) }},
	{"sum", 1, "5", func(d *desk, x []int, s string) (any, bool) { return impl.PatternSum(x[0], d.ring) }},
	{"first", noRest, "", func(d *desk, x []int, s string) (any, bool) { return impl.PatternFirst(d.ring, d.aside) }},
	{"tidy", textRest, "-(a-(bc)d)", func(d *desk, x []int, s string) (any, bool) { return impl.TermTidy(s) }},
	{"flat", textRest, "-(a-(bc)d)", func(d *desk, x []int, s string) (any, bool) { return impl.TermFlat(s) }},
	{"sets", textRest, "-(a-(bc)d)", func(d *desk, x []int, s string) (any, bool) { return impl.TermArcs(s) }},
	{"swaps", noRest, "", func(d *desk, x []int, s string) (any, bool) { return impl.ProofSwaps(d.ring, d.aside) }},
	{"at", noRest, "", func(d *desk, x []int, s string) (any, bool) { return impl.ProofAt(d.ring, d.aside) }},
}

// numbersForm is what a rest of numbers looks like.
var numbersForm = regexp.MustCompile(`\A[0-9]{1,3}( [0-9]{1,3})*\z`)

// written returns a result as it is printed.
func written(result any) string {
	switch r := result.(type) {
	case bool:
		return map[bool]string{true: "yes", false: "not"}[r]
	case []int:
		if len(r) == 0 {
			return "."
		}
	case [][]int:
		return strings.NewReplacer("[[", "", "]]", "", "] [", " ", " ", ",").Replace(fmt.Sprint(r))
	}
	return strings.Trim(fmt.Sprint(result), "[]")
}

// line returns the example of a form as a line.
func (f form) line() string {
	if f.rest == noRest {
		return f.word
	}
	return f.word + " " + f.example
}

// rested returns the rest of a line of a form, and true.
func (f form) rested(line string) (string, bool) {
	if f.rest == noRest {
		return "", line == f.word
	}
	return strings.CutPrefix(line, f.word+" ")
}

// outputOf returns the output of a line of a form with a rest.
func (f form) outputOf(d *desk, rest string) string {
	x := []int{}
	if f.rest == someRest || f.rest > 0 {
		if !numbersForm.MatchString(rest) {
			return "no"
		}
		for _, digits := range strings.Fields(rest) {
			number, _ := strconv.Atoi(digits)
			x = append(x, number)
		}
		if f.rest > 0 && len(x) != f.rest {
			return "no"
		}
	}
	result, ok := f.does(d, x, rest)
	if !ok {
		return "no"
	}
	return written(result)
}

// run returns the output of a line.
func (d *desk) run(line string) string {
	for _, f := range forms {
		if rest, ok := f.rested(line); ok {
			return f.outputOf(d, rest)
		}
	}
	return "what"
}

// outputTold returns the output of a script, and what is on the desk in the end.
func outputTold(script string) (string, desk) {
	d := desk{[]int{0, 1, 2, 3, 4}, []int{0, 1, 2, 3, 4}}
	if len(script) > 600 {
		return "too long\n", d
	}
	output := ""
	for strings.Contains(script, "\n") {
		line, behind, _ := strings.Cut(script, "\n")
		output += d.run(line) + "\n"
		script = behind
	}
	return output + fmt.Sprintf("points %d\n", len(d.ring)), d
}

// wantOutput fails the test if the output of a script is not as it must be.
func wantOutput(t *testing.T, script string, want string) {
	t.Helper()
	if got := impl.Execute(script); got != want {
		t.Fatalf("Execute of %q returned %q; want %q", script, got, want)
	}
}

// wantTold fails the test if the output of a script is not as the chapter tells it.
func wantTold(t *testing.T, script string) {
	t.Helper()
	want, _ := outputTold(script)
	wantOutput(t, script, want)
}

// numbersWith returns the text of numbers with spaces between.
func numbersWith(list []int) string {
	return strings.Trim(fmt.Sprint(list), "[]")
}

// script returns the script of lines.
func script(lines ...string) string {
	return strings.Join(append(lines, ""), "\n")
}

// placed returns the lines after which a ring is the ring, and another one is put aside.
func placed(ring []int, aside []int) string {
	return script("ring "+numbersWith(aside), "aside", "ring "+numbersWith(ring))
}

// placedOutput is the output of these lines.
const placedOutput = "ok\nok\nok\n"

// asking are lines whose output tells the ring and, whatever the ring is, the one put aside: by the steps along it from each point to the next greater one.
const asking = "show\nby 3 0\npath\nby 4 0\npath\nby 5 0\npath\nby 6 0\npath\nby 7 0\npath\n"

// askingOutput returns the output of these lines, and the last line, for a ring and the one put aside.
func askingOutput(ring []int, aside []int) string {
	output := numbersWith(ring) + "\n"
	for _, n := range sizes {
		if n != len(aside) {
			output += "ok\nno\n"
			continue
		}
		steps := []int{}
		for x := range n {
			steps = append(steps, (slices.Index(aside, (x+1)%n)-slices.Index(aside, x)+n)%n)
		}
		output += "ok\n" + numbersWith(steps) + "\n"
	}
	return output + "points 7\n"
}

// wantLine fails the test if the output of a line, or what is the ring and put aside behind it, is not as it must be.
func wantLine(t *testing.T, was desk, line string, output string, then desk) {
	t.Helper()
	wantOutput(t, placed(was.ring, was.aside)+line+"\n"+asking, placedOutput+output+"\n"+askingOutput(then.ring, then.aside))
}

// wantKeptDesk fails the test if the output of a line is not as it must be, or if the line changes something.
func wantKeptDesk(t *testing.T, was desk, line string, output string) {
	t.Helper()
	wantLine(t, was, line, output, was)
}

// star is a ring, with the first one of five points put aside.
func star() desk {
	return desk{[]int{0, 2, 4, 1, 3}, []int{0, 1, 2, 3, 4}}
}

// four is a ring for which the examples of the forms succeed.
func four() desk {
	return desk{[]int{0, 2, 1, 3}, []int{0, 1, 2, 3}}
}

// someDesks are rings of all sizes, with one of as many points put aside, or of more or fewer.
func someDesks() []desk {
	return []desk{
		star(), four(),
		{[]int{0, 1, 2}, []int{0, 1, 2}}, {[]int{0, 2, 1}, []int{0, 1, 2}}, {[]int{0, 2, 1}, []int{0, 2, 4, 1, 3}},
		{[]int{0, 3, 2, 1}, []int{0, 2, 1}}, {[]int{0, 1, 2, 3, 4}, []int{0, 1, 2}}, {[]int{0, 5, 1, 4, 2, 3}, []int{0, 1, 2, 3, 4, 5}},
		{[]int{0, 6, 5, 4, 3, 2, 1}, []int{0, 1, 2, 3, 4, 5, 6}}, {[]int{0, 3, 6, 2, 5, 1, 4}, []int{0, 2, 1, 3}}, {[]int{0, 1, 3, 2}, []int{0, 3, 6, 2, 5, 1, 4}},
	}
}

// The lines that make another ring the ring, or put it aside.
func TestCommandLinesThatChange(t *testing.T) {
	for _, c := range []struct {
		line string
		ring []int
	}{
		{"ring 0 1 2", []int{0, 1, 2}},
		{"ring 2 0 1", []int{0, 1, 2}},
		{"ring 2 1 3 0", []int{0, 2, 1, 3}},
		{"ring 000 02 001", []int{0, 2, 1}},
		{"ring 6 5 4 3 2 1 0", []int{0, 6, 5, 4, 3, 2, 1}},
		{"term (abc)", []int{0, 1, 2}},
		{"term (b-(ca))", []int{0, 2, 1}},
		{"term -((((((ab)c)d)e)f)g)", []int{0, 6, 5, 4, 3, 2, 1}},
		{"by 3 0", []int{0, 1, 2}},
		{"by 4 3", []int{0, 2, 3, 1}},
		{"by 7 719", []int{0, 6, 5, 4, 3, 2, 1}},
		{"by 005 010", []int{0, 2, 4, 1, 3}},
		{"back", []int{0, 3, 1, 4, 2}},
		{"swap 0", []int{0, 4, 1, 3, 2}},
		{"swap 4", []int{0, 2, 1, 4, 3}},
		{"swap 3", []int{0, 3, 2, 4, 1}},
		{"put 0", []int{0, 5, 2, 4, 1, 3}},
		{"put 3", []int{0, 2, 4, 1, 3, 5}},
		{"put 04", []int{0, 2, 4, 5, 1, 3}},
		{"drop", []int{0, 2, 1, 3}},
	} {
		wantLine(t, star(), c.line, "ok", desk{c.ring, star().aside})
	}
	wantLine(t, star(), "aside", "ok", desk{star().ring, star().ring})
	for _, d := range someDesks() {
		wantLine(t, d, "aside", "ok", desk{d.ring, d.ring})
	}
}

// The lines that only print something, where they succeed.
func TestCommandLinesThatAsk(t *testing.T) {
	for _, c := range []struct{ line, output string }{
		{"show", "0 2 4 1 3"}, {"number", "10"}, {"as", "(acebd)"}, {"falls", "2"},
		{"cut 0", "0 2 4 1 3"}, {"cut 4", "4 1 3 0 2"}, {"cut 004", "4 1 3 0 2"}, {"next 0", "2"}, {"next 3", "0"}, {"next 01", "3"},
		{"steps 2 3", "3"}, {"steps 3 2", "2"}, {"steps 4 4", "0"}, {"from 2 3", "4 1"}, {"from 2 4", "."}, {"from 2 2", "4 1 3 0"}, {"from 3 0", "."},
		{"three 0 1 3", "yes"}, {"three 1 3 0", "yes"}, {"three 3 0 1", "yes"}, {"three 0 3 1", "not"}, {"three 0 1 2", "not"}, {"three 0 0 1", "not"}, {"three 0 1 5", "not"}, {"three 999 0 1", "not"},
		{"parts 0 4 2 1", "yes"}, {"parts 0 4 1 2", "yes"}, {"parts 0 2 1 3", "not"}, {"parts 0 0 1 2", "not"}, {"parts 0 4 2 5", "not"}, {"parts 0 4 2 999", "not"},
		{"wind", "2"}, {"path", "2 2 2 2 2"}, {"differ", "5"}, {"far", "3"}, {"way", "0 0 3"}, {"common", "1 2 4 8 15 16 23 27 29 30"},
		{"winds 3", "0 1 1"}, {"winds 4", "0 1 4 1"}, {"winds 5", "0 1 11 11 1"}, {"winds 7", "0 1 57 302 302 57 1"},
		{"far 3", "1 1"}, {"far 4", "1 4 1"}, {"far 005", "1 5 10 7 1"},
		{"near", "0,2,1,4,3 0,2,4,3,1 0,3,2,4,1 0,4,1,3,2 0,4,2,1,3"},
		{"part 7", "0 2 1"}, {"part 31", "0 2 4 1 3"}, {"part 8", "3"}, {"part 030", "1 3 2 4"},
		{"arcs", "1 2 4 5 8 9 10 11 13 15 16 18 20 21 22 23 26 27 29 30"},
		{"runs 0", "0"}, {"runs 31", "0"}, {"runs 3", "2"}, {"runs 5", "1"}, {"runs 007", "2"},
		{"has", "0 1 2 1 1 0"}, {"free 5", "23"}, {"free 3", "2"}, {"free 007", "494"},
		{"tidy -(a-(bc)d)", "(d(bc)a)"}, {"tidy (abc)", "(abc)"}, {"flat -(a-(bc)d)", "(dbca)"}, {"sets ((ab)(cd)e)", "3 12"}, {"sets (abc)", "."},
		{"swaps", "swaps 0 0 3"},
	} {
		wantKeptDesk(t, star(), c.line, c.output)
	}
}

// The lines about the ring and the one put aside, and those that the number of points decides, where they succeed and where they fail.
func TestCommandLinesOfOtherRings(t *testing.T) {
	three := desk{[]int{0, 2, 1}, []int{0, 1, 2}}
	six := desk{[]int{0, 1, 2, 3, 5, 4}, []int{0, 1, 2, 3, 4, 5}}
	seven := desk{[]int{0, 6, 5, 4, 3, 2, 1}, []int{0, 1, 2, 3, 4, 5, 6}}
	unlike := desk{[]int{0, 2, 4, 1, 3}, []int{0, 1, 2}}
	greater := desk{[]int{0, 1, 2}, []int{0, 2, 4, 1, 3}}
	for _, c := range []struct {
		d            desk
		line, output string
	}{
		{three, "drop", "no"}, {three, "has", "no"}, {three, "sum 3", "no"}, {three, "free 3", "1"}, {three, "near", "0,1,2"}, {three, "arcs", "1 2 3 4 5 6"},
		{three, "wind", "2"}, {three, "path", "2 2 2"}, {three, "differ", "1"}, {three, "far", "1"}, {three, "way", "0"}, {three, "common", "1 2 3 4 5 6"}, {three, "swaps", "swaps 0"},
		{three, "first", "no"}, {three, "at", "no"}, {three, "show", "0 2 1"}, {three, "number", "1"}, {three, "as", "(acb)"}, {three, "falls", "2"}, {three, "part 7", "0 2 1"}, {three, "part 8", "no"}, {three, "runs 8", "no"}, {three, "runs 7", "0"},
		{four(), "has", "0 0 1 0 0 0"}, {four(), "free 4", "5"}, {four(), "free 3", "2"}, {four(), "free 5", "13"}, {four(), "sum 5", "13"}, {four(), "sum 3", "2"}, {four(), "sum 7", "89"}, {four(), "first", "no"}, {four(), "at", "no"}, {four(), "parts 0 1 2 3", "yes"}, {four(), "parts 0 2 1 3", "not"},
		{star(), "has", "0 1 2 1 1 0"}, {star(), "sum 5", "no"}, {star(), "first", "no"}, {star(), "at", "no"},
		{six, "way", "5"}, {six, "far", "1"}, {six, "swaps", "swaps 5"}, {six, "wind", "2"}, {six, "part 63", "0 1 2 3 5 4"}, {six, "part 64", "no"}, {six, "put 0", "ok"},
		{seven, "way", "no"}, {seven, "far", "no"}, {seven, "swaps", "no"}, {seven, "put 0", "no"}, {seven, "part 7", "no"}, {seven, "wind", "6"}, {seven, "path", "6 6 6 6 6 6 6"}, {seven, "differ", "35"}, {seven, "first", "no"}, {seven, "at", "no"}, {seven, "runs 85", "3"}, {seven, "runs 127", "0"}, {seven, "runs 128", "no"}, {seven, "falls", "6"}, {seven, "number", "719"}, {seven, "has", "0 0 0 0 0 35"},
		{unlike, "wind", "no"}, {unlike, "path", "no"}, {unlike, "differ", "no"}, {unlike, "far", "no"}, {unlike, "way", "no"}, {unlike, "common", "no"}, {unlike, "swaps", "no"}, {unlike, "first", "11"}, {unlike, "at", "at 0 1 3"},
		{greater, "wind", "no"}, {greater, "path", "no"}, {greater, "differ", "no"}, {greater, "far", "no"}, {greater, "way", "no"}, {greater, "common", "no"}, {greater, "swaps", "no"}, {greater, "first", "no"}, {greater, "at", "no"},
	} {
		then := c.d
		if c.line == "put 0" && c.output == "ok" {
			then.ring = []int{0, 6, 1, 2, 3, 5, 4}
		}
		wantLine(t, c.d, c.line, c.output, then)
	}
	for _, d := range someDesks() {
		same := desk{d.ring, d.ring}
		wantKeptDesk(t, same, "differ", "0")
		wantKeptDesk(t, same, "wind", "1")
		wantKeptDesk(t, same, "path", strings.Trim(strings.Repeat("1 ", len(d.ring)), " "))
		wantKeptDesk(t, same, "first", strconv.Itoa(1<<len(d.ring)-1))
		wantKeptDesk(t, same, "at", "at "+numbersWith(d.ring))
		if len(d.ring) < 7 {
			wantKeptDesk(t, same, "far", "0")
			wantKeptDesk(t, same, "way", ".")
			wantKeptDesk(t, same, "swaps", "swaps")
		}
	}
}

// failingLines are lines with a rest as told in its kind, but not in what it has.
var failingLines = []string{
	"ring 0", "ring 0 1", "ring 0 0 1", "ring 1 2 3", "ring 0 1 3", "ring 0 1 2 2", "ring 0 1 2 3 4 5 6 7", "ring 0 1 999", "ring 0 1 2 3 4 5 6 6", "ring " + strings.Repeat("0 ", 100) + "0",
	"term (ab)", "term (ab", "term abc", "term (abd)", "term  (abc)", "term (abc) ", "term (a b c)", "term (ABC)", "term 0 1 2", "term (abc)d", "term (abcdefgh)", "term (abc)\r", "term \xff", "term " + strings.Repeat("-", 56) + "(abc)",
	"by 2 0", "by 8 0", "by 0 0", "by 3 2", "by 4 6", "by 5 24", "by 6 120", "by 7 720", "by 999 999", "by 3 999",
	"swap 7", "swap 8", "swap 999", "put 7", "put 8", "put 999",
	"cut 7", "cut 999", "next 7", "next 999", "steps 0 7", "steps 7 0", "steps 999 999", "from 0 7", "from 7 0", "from 999 999",
	"winds 0", "winds 1", "winds 2", "winds 8", "winds 999", "far 0", "far 1", "far 2", "far 7", "far 8", "far 999",
	"part 0", "part 128", "part 999", "runs 128", "runs 999", "free 0", "free 1", "free 2", "free 8", "free 999", "sum 0", "sum 2", "sum 8", "sum 999",
	"tidy (ab)", "tidy x", "tidy abc", "tidy  (abc)", "tidy (abc) ", "tidy -", "flat (ab)", "flat x", "flat  (abc)", "flat (abc) ", "flat (aab)", "sets (ab)", "sets x", "sets  (abc)", "sets (abc) ", "sets 0",
}

func TestCommandLinesThatFail(t *testing.T) {
	for _, d := range someDesks() {
		for _, line := range failingLines {
			wantKeptDesk(t, d, line, "no")
		}
	}
}

// restsWritten returns rests that are no numbers, or not so many, by a rest of numbers.
func restsWritten(rest string) []string {
	numbers := strings.Fields(rest)
	rests := []string{
		"", " ", "  ", "x", ".", ",", "\x00", "\xff", " " + rest, rest + " ", "  " + rest, rest + "  ", " " + rest + " ",
		strings.Join(numbers[1:], " "), strings.Join(append(slices.Clone(numbers), "0"), " "), rest + " " + rest, strings.Repeat(rest+" ", 20) + rest,
		rest + " x", "x " + rest, rest + " -", rest + "\t", "\t" + rest, rest + "\r", rest + "\x00", rest + ",", rest + ".", rest + ";", rest + "\u00a0", "\ufeff" + rest,
	}
	if len(numbers) > 1 {
		for _, between := range []string{"  ", "\t", ",", ", ", "   ", " \t", "\x00", "_", "-", " - ", "\u00a0"} {
			rests = append(rests, strings.Join(numbers, between), strings.Replace(rest, " ", between, 1))
		}
	}
	for i, number := range numbers {
		others := []string{strings.Repeat("0", 4-len(number)) + number, strings.Repeat("0", 20) + number, "1000", "1000000", "9999999999999999999", "18446744073709551616", "18446744073709551619"}
		for _, more := range []string{"+", "-", "x", ".", "#", "\"", "'", "(", "0x", "0b", "0o", "1_", "_", "\x00", "\xff", "\u0661", "\uff11", "\u00b2"} {
			others = append(others, more+number, number+more, more)
		}
		others = append(others, "", number+".0", number+"e0", string(rune('a'+i)), "a", "A", "one", "/", ":", "NaN", "true")
		for _, other := range others {
			changed := slices.Clone(numbers)
			changed[i] = other
			rests = append(rests, strings.Join(changed, " "))
		}
	}
	return rests
}

// Rests of numbers with another text, with more or fewer numbers than told, or empty.
func TestCommandRestsOfNumbers(t *testing.T) {
	for _, f := range forms {
		if f.rest == noRest || f.rest == textRest {
			continue
		}
		for _, rest := range restsWritten(f.example) {
			wantKeptDesk(t, four(), f.word+" "+rest, "no")
		}
	}
	for _, d := range someDesks() {
		for _, line := range []string{"cut", "next", "swap", "put", "winds", "far", "part", "runs", "free", "sum"} {
			for _, rest := range []string{"", " ", "0 1", "0 0", "0 ", " 0", "0000", "-0", "+0", "00 0", "0\r", "x"} {
				wantKeptDesk(t, d, line+" "+rest, "no")
			}
		}
	}
}

// Numbers of one, two and three digits are the same number, whatever zeros they begin with.
func TestCommandLeadingZeros(t *testing.T) {
	for _, f := range forms {
		if f.rest == noRest || f.rest == textRest {
			continue
		}
		for _, digits := range []string{"%01d", "%02d", "%03d"} {
			texts := []string{}
			for _, number := range strings.Fields(f.example) {
				x, _ := strconv.Atoi(number)
				texts = append(texts, fmt.Sprintf(digits, x))
			}
			start := placed(four().ring, four().aside)
			wantOutput(t, start+f.word+" "+strings.Join(texts, " ")+"\n"+asking, impl.Execute(start+f.line()+"\n"+asking))
			wantOutput(t, start+f.word+" "+strings.Replace(f.example, " ", " 00", 1)+"\n"+asking, impl.Execute(start+f.line()+"\n"+asking))
			wantTold(t, start+f.word+" "+strings.Join(texts, " ")+"\n"+asking)
		}
	}
	wantOutput(t, "cut 2\ncut 02\ncut 002\ncut 0002\ncut 00002\n", "2 3 4 0 1\n2 3 4 0 1\n2 3 4 0 1\nno\nno\npoints 5\n")
	wantOutput(t, "steps 00 3\nsteps 0 003\nsteps 0000 3\nsteps 0 0003\n", "3\n3\nno\nno\npoints 5\n")
	wantOutput(t, "by 7 99\nby 7 099\nby 7 100\nby 7 0100\nnumber\nby 7 719\nnumber\nby 7 720\nnumber\n", "ok\nok\nok\nno\n100\nok\n719\nno\n719\npoints 7\n")
}

// otherLines are lines that have no word of the chapter, or not as it is told.
func otherLines() []string {
	lines := []string{
		"", " ", "  ", "     ", "\t", "\r", "\x00", "\xff", "\xff\xfe", ".", ",", "ok", "no", "what", "yes", "not", "points", "points 5", "zzz", "zzz ", "zzz 0", "too long", "0", "0 1 2", "0 1 2 3 4", "(abc)", "-",
		"far\t", "far\t4", "far\r", "far4", "Far", "FAR", "Far 4", "FAR 4", "fa", "farr", "far4 4", " far", " far 4", "\tfar", "put0", "cut2", "ring0 1 2", "ring,0 1 2", "tidy(abc)", "by4 3",
		"swapss", "wind2", "arc", "arcs,", "run", "number.", "a", "b", "s", "t", "as as", "at at", "show show", "showshow", "\u00a0show", "show\u00a0", "\ufeffshow", "show\x00", "\x00show", "s how", "sh ow", "ringing 0 1 2", "ring\u00a00 1 2", "\u0455how",
		strings.Repeat("x", 200), strings.Repeat(" ", 200), strings.Repeat("show", 40), strings.Repeat("show ", 40),
	}
	for _, f := range forms {
		w := f.word
		lines = append(lines, " "+f.line(), "  "+f.line(), "\t"+f.line(), "x"+f.line(), strings.ToUpper(f.line()), strings.ToUpper(w[:1])+f.line()[1:], strings.ToUpper(w), w+"x", w+"\r", w+"\t", w+"\x00", w+".", w+"x "+f.example, w+"x", w+"\t"+f.example+"x", w[1:]+"q", w+w, w+w+" "+f.example, strings.Replace(f.line(), " ", "\t", 1)+"\t")
		if f.rest == noRest && w != "far" {
			for _, rest := range []string{"", " ", "0", "x", "0 1", "4", "0 1 2", "(abc)", "\r", "\x00", w} {
				lines = append(lines, w+" "+rest)
			}
		}
		if f.rest != noRest && w != "far" {
			lines = append(lines, w)
		}
	}
	return lines
}

func TestCommandOtherLines(t *testing.T) {
	for _, line := range otherLines() {
		for _, d := range []desk{four(), {[]int{0, 6, 5, 4, 3, 2, 1}, []int{0, 1, 2}}} {
			wantKeptDesk(t, d, line, "what")
		}
	}
}

// Lines with a rest and without one, for each word.
func TestCommandRests(t *testing.T) {
	for _, f := range forms {
		alone, spaced := "what", "no"
		if f.rest == noRest {
			alone, spaced = written(mustResult(t, f)), "what"
		}
		if f.word == "far" {
			alone, spaced = "1", "no"
		}
		start := placed(four().ring, four().aside)
		// The one put aside is the ring itself, which this has as a pattern.
		if f.word == "first" || f.word == "at" {
			start = placed(four().ring, four().ring)
		}
		end := func(line string) string {
			lines := strings.Split(impl.Execute(start+line+"\n"), "\n")
			if len(lines) != 6 || !strings.HasPrefix(lines[4], "points ") || lines[5] != "" {
				t.Fatalf("Execute of %q returned %q", start+line+"\n", lines)
			}
			return lines[3]
		}
		wantText(t, end(f.word), true, alone, "the line", f.word)
		wantText(t, end(f.word+" "), true, spaced, "the line with a space", f.word)
		wantBool(t, end(f.line()) != "no" && end(f.line()) != "what", true, "the line of the example succeeds", f.line())
	}
	wantOutput(t, "far\nfar \nfar 4\nfar  4\nfar x\nfar 4 4\nfar\t\n", "0\nno\n1 4 1\nno\nno\nno\nwhat\npoints 5\n")
	wantOutput(t, "tidy\ntidy \nflat\nflat \nsets\nsets \nterm\nterm \n", "what\nno\nwhat\nno\nwhat\nno\nwhat\nno\npoints 5\n")
	wantOutput(t, "show\nshow \nshow 0\nback\nback \nback 0\ncut\ncut \ncut 0\n", "0 1 2 3 4\nwhat\nwhat\nok\nwhat\nwhat\nwhat\nno\n0 4 3 2 1\npoints 5\n")
}

// mustResult returns the result of the example of a form.
func mustResult(t *testing.T, f form) any {
	t.Helper()
	d := four()
	if f.word == "first" || f.word == "at" {
		d.aside = d.ring
	}
	result, ok := f.does(&d, nil, f.example)
	if !ok {
		t.Fatalf("the example of %q fails", f.word)
	}
	return result
}

// Lines and what is behind the last one.
func TestCommandNewlines(t *testing.T) {
	wantOutput(t, "", "points 5\n")
	wantOutput(t, "\n", "what\npoints 5\n")
	wantOutput(t, "\n\n\n", "what\nwhat\nwhat\npoints 5\n")
	wantOutput(t, "show", "points 5\n")
	wantOutput(t, "show\n", "0 1 2 3 4\npoints 5\n")
	wantOutput(t, "show\nshow", "0 1 2 3 4\npoints 5\n")
	wantOutput(t, "\nshow\n", "what\n0 1 2 3 4\npoints 5\n")
	wantOutput(t, "show\n\n", "0 1 2 3 4\nwhat\npoints 5\n")
	wantOutput(t, "show\n ", "0 1 2 3 4\npoints 5\n")
	wantOutput(t, "drop", "points 5\n")
	wantOutput(t, "drop\n", "ok\npoints 4\n")
	wantOutput(t, "drop\ndrop", "ok\npoints 4\n")
	wantOutput(t, "drop\ndrop\n", "ok\nok\npoints 3\n")
	wantOutput(t, "drop\ndrop\ndrop\n", "ok\nok\nno\npoints 3\n")
	wantOutput(t, "put 0\nput 0\nput 0\n", "ok\nok\nno\npoints 7\n")
	wantOutput(t, "show\r\n", "what\npoints 5\n")
	wantOutput(t, "show\r\nshow\rshow\n", "what\nwhat\npoints 5\n")
	wantOutput(t, "cut 2\r\ncut 2\n", "no\n2 3 4 0 1\npoints 5\n")
	wantOutput(t, "tidy (abc)\r\ntidy (abc)\n", "no\n(abc)\npoints 5\n")
	wantOutput(t, "show\n\rshow\n", "0 1 2 3 4\nwhat\npoints 5\n")
	wantOutput(t, "show\vshow\fshow\u2028show\u0085show\n", "what\npoints 5\n")
	wantOutput(t, "show\x00\nshow\n", "what\n0 1 2 3 4\npoints 5\n")
	wantOutput(t, "ring 0 1 2\nnumber", "ok\npoints 3\n")
}

// The start: the ring 0 1 2 3 4, and the same one put aside.
func TestCommandStart(t *testing.T) {
	wantOutput(t, asking, askingOutput([]int{0, 1, 2, 3, 4}, []int{0, 1, 2, 3, 4}))
	wantOutput(t, "show\nnumber\nas\nfalls\nwind\npath\ndiffer\nfar\nway\nswaps\nfirst\nat\n", "0 1 2 3 4\n0\n(abcde)\n1\n1\n1 1 1 1 1\n0\n0\n.\nswaps\n31\nat 0 1 2 3 4\npoints 5\n")
	// What is put aside stays as it was when the ring becomes another one.
	wantOutput(t, "swap 0\naside\nback\nswap 1\n"+asking, "ok\nok\nok\nok\n"+askingOutput([]int{0, 4, 1, 3, 2}, []int{0, 2, 3, 4, 1}))
	wantOutput(t, "swap 0\nway\naside\nway\nswap 1\nway\nswap 0\nway\n", "ok\n1\nok\n.\nok\n0\nok\n.\npoints 5\n")
}

// Scripts of MaxScript bytes, and of more.
func TestCommandMaxScript(t *testing.T) {
	wantNumber(t, impl.MaxScript, true, 600, "MaxScript")
	shows := strings.Repeat("show\n", 120)
	wantOutput(t, shows, strings.Repeat("0 1 2 3 4\n", 120)+"points 5\n")
	wantOutput(t, shows[:599], strings.Repeat("0 1 2 3 4\n", 119)+"points 5\n")
	wantOutput(t, strings.Repeat("\n", 600), strings.Repeat("what\n", 600)+"points 5\n")
	wantOutput(t, strings.Repeat("x", 600), "points 5\n")
	wantOutput(t, strings.Repeat("x", 599)+"\n", "what\npoints 5\n")
	wantOutput(t, "drop\n"+strings.Repeat(" ", 595), "ok\npoints 4\n")
	wantOutput(t, "tidy "+strings.Repeat("-", 594)+"\n", "no\npoints 5\n")
	wantOutput(t, "ring "+strings.Repeat("0 ", 297)+"\n", "no\npoints 5\n")
	wantOutput(t, strings.Repeat("\u00e4", 299)+"x\n", "what\npoints 5\n")
	for _, long := range []string{
		"\n" + shows, shows + "\n", shows + "x", shows + " ", "drop\n" + shows, strings.Repeat("x", 601), strings.Repeat("\n", 601), strings.Repeat("\x00", 601), strings.Repeat("\u00e4", 301), strings.Repeat("\u00e4", 300) + "\n", "drop\n" + strings.Repeat(" ", 596),
		strings.Repeat("show\n", 121), strings.Repeat("show\n", 100000), strings.Repeat("\n", 1000000), strings.Repeat("x", 1000000), strings.Repeat("(", 1000000),
	} {
		wantOutput(t, long, "too long\n")
	}
	for size := 590; size <= 610; size++ {
		wantTold(t, "drop\n"+strings.Repeat("x", size-5))
		wantTold(t, "drop\n"+strings.Repeat("x", size-6)+"\n")
	}
}

// One byte left out, put in or changed at each place of a line, for each word: most lines become others, and a newline makes two of them.
func TestCommandBytes(t *testing.T) {
	start := placed(four().ring, four().aside)
	for _, f := range forms {
		for _, line := range bytesWritten(f.line()) {
			wantTold(t, start+line+"\nshow\npath\n")
		}
	}
}

// outputForm is what the output of a script looks like.
var outputForm = regexp.MustCompile(`\A(too long\n|((ok|no|what|yes|not|\.|\d{1,3}( \d{1,3})*|\d(,\d){2,6}( \d(,\d){2,6})*|[()a-g]{5,}|swaps( \d)*|at( \d){3,7})\n)*points [3-7]\n)\z`)

// randomLine returns a line of a word with a rest, most often as told.
func randomLine(random *rand.Rand) string {
	f := forms[random.Intn(len(forms))]
	most := []int{7, 7, 7, 7, 7, 7, 20, 130, 1001}[random.Intn(9)]
	numbers := func(many int) string {
		rest := ""
		for range many {
			rest += " " + strconv.Itoa(random.Intn(most))
		}
		return rest
	}
	switch random.Intn(12) {
	case 0:
		return f.word + numbers(random.Intn(5))
	case 1:
		return otherLines()[random.Intn(40)]
	case 2:
		return failingLines[random.Intn(len(failingLines))]
	case 3:
		return f.line()
	}
	switch {
	case f.word == "ring":
		list := random.Perm(3 + random.Intn(5))
		return "ring " + numbersWith(list)
	case f.word == "by":
		n := 3 + random.Intn(5)
		return fmt.Sprintf("by %d %d", n, random.Intn([]int{3: 2, 4: 6, 5: 24, 6: 120, 7: 720}[n]))
	case f.rest == textRest:
		return f.word + " " + knownTerms()[random.Intn(len(knownTerms()))]
	}
	return f.word + numbers(f.rest)
}

// knownScripts returns scripts of complete lines; they are listed once, as many tests go over them.
var knownScripts = sync.OnceValue(listScripts)

// listScripts returns scripts of complete lines of all numbers of bytes up to 600.
func listScripts() []string {
	random := rand.New(rand.NewSource(11))
	scripts := []string{"", "\n", "\n\n", " \n", "show\n", strings.Repeat("\n", 600), strings.Repeat("show\n", 120), strings.Repeat("x", 599) + "\n", asking}
	for i := range 601 {
		lines := ""
		for len(lines) < i {
			lines += randomLine(random) + "\n"
		}
		if len(lines) <= 600 {
			scripts = append(scripts, lines)
		}
		// A line that is none of the chapter's makes up for what is left.
		if cut := strings.LastIndex(lines[:i], "\n") + 1; i > cut {
			scripts = append(scripts, lines[:cut]+strings.Repeat("x", i-cut-1)+"\n")
		}
	}
	return scripts
}

// everyScript runs a check for scripts of complete lines.
func everyScript(check func(script string)) {
	for _, script := range knownScripts() {
		check(script)
	}
}

func TestCommandScripts(t *testing.T) {
	sizesSeen, ends := map[int]bool{}, map[string]int{}
	everyScript(func(script string) {
		wantTold(t, script)
		output := impl.Execute(script)
		wantBool(t, outputForm.MatchString(output), true, "the form of the output", script, output)
		wantNumber(t, strings.Count(output, "\n"), true, strings.Count(script, "\n")+1, "the number of lines of the output", script)
		sizesSeen[len(script)] = true
		for _, line := range strings.Split(output, "\n") {
			ends[line]++
		}
	})
	if len(sizesSeen) != 601 || ends["no"] < 500 || ends["what"] < 500 || ends["ok"] < 500 || ends["yes"] < 50 || ends["not"] < 50 || ends["."] < 50 || ends["points 7"] < 50 || ends["points 3"] < 50 {
		t.Errorf("the scripts have too little: %d sizes, and %v", len(sizesSeen), ends)
	}
}

// Lines that fail, and lines that are none of the chapter's, are as if they were not there but for their outputs.
func TestCommandLinesLeftOut(t *testing.T) {
	everyScript(func(script string) {
		kept, outputs := "", ""
		lines := strings.SplitAfter(script, "\n")
		for i, output := range strings.SplitAfter(impl.Execute(script), "\n") {
			if output != "no\n" && output != "what\n" {
				outputs += output
				if i < len(lines) {
					kept += lines[i]
				}
			}
		}
		wantOutput(t, kept, outputs)
	})
}

// Texts of any bytes do not end the program.
func TestCommandAnyBytes(t *testing.T) {
	random := rand.New(rand.NewSource(111))
	for i := range 3000 {
		bytes := make([]byte, random.Intn(620))
		random.Read(bytes)
		if i%2 == 0 {
			for at := range bytes {
				bytes[at] = "ring termbyackswputdoasidehofl 0123456789\n \n\n(abcdefg)-"[random.Intn(55)]
			}
		}
		wantTold(t, string(bytes))
	}
	everyScript(func(script string) {
		bytes := []byte(script)
		for range min(4, len(bytes)) {
			bytes[random.Intn(len(bytes))] = byte(random.Intn(256))
		}
		wantTold(t, string(bytes))
	})
	everyNoTerm(func(s string) {
		wantTold(t, "term "+s+"\nshow\ntidy "+s+"\nflat "+s+"\nsets "+s+"\n")
	})
}
