package tests

import (
	"math/rand"
	"regexp"
	"slices"
	"strconv"
	"strings"
	"sync"
	"testing"

	"loop.example/ringorders/impl"
)

// The functions below tell again, in the plainest way, what chapter 10 says; the tests hold the program against them.

// clashForm, swapsForm and atForm are what the texts of proofs look like.
var (
	clashForm = regexp.MustCompile(`\Aclash( [0-9]){3}\z`)
	swapsForm = regexp.MustCompile(`\Aswaps( [0-9])*\z`)
	atForm    = regexp.MustCompile(`\Aat( [0-9])+\z`)
)

// digitsIn returns the digits of a text that looks like a proof, and true.
func digitsIn(form *regexp.Regexp, text string) ([]int, bool) {
	if !form.MatchString(text) {
		return nil, false
	}
	digits := []int{}
	for _, digit := range strings.Fields(text)[1:] {
		digits = append(digits, int(digit[0])-'0')
	}
	return digits, true
}

// proofWith returns the text of a word and points, each one behind a space.
func proofWith(word string, points []int) string {
	for _, x := range points {
		word += " " + strconv.Itoa(x)
	}
	return word
}

// clashesOf returns, in the order of lists, the threes of the closing of a telling that it also has with the last two points exchanged.
func clashesOf(n int, list [][]int) [][]int {
	var in [6][6][6]bool
	closing := closingOf(n, list)
	for _, t := range closing {
		in[t[0]][t[1]][t[2]] = true
	}
	return slices.DeleteFunc(closing, func(t []int) bool { return !in[t[0]][t[2]][t[1]] })
}

// isClash reports whether a text is a proof of a clash of a telling with these clashes.
func isClash(clashes [][]int, text string) bool {
	points, ok := digitsIn(clashForm, text)
	return ok && slices.ContainsFunc(clashes, func(t []int) bool { return slices.Equal(t, points) })
}

// ledTo returns the ring to which the swaps of a text lead from a ring, and their number, and true.
func ledTo(a []int, text string) ([]int, int, bool) {
	points, ok := digitsIn(swapsForm, text)
	for _, x := range points {
		if !slices.Contains(a, x) {
			return nil, 0, false
		}
		a = swappedAt(a, x)
	}
	return a, len(points), ok
}

// isPlaced reports whether a text is a proof of a pattern of a ring: one meets its points in their order going round from the first one, and calling each one by its place among them in ascending order gives the pattern itself.
func isPlaced(a []int, p []int, text string) bool {
	points, ok := digitsIn(atForm, text)
	if !ok || !slices.Contains(a, points[0]) {
		return false
	}
	met := slices.DeleteFunc(turned(a, points[0]), func(x int) bool { return !slices.Contains(points, x) })
	sorted := slices.Sorted(slices.Values(points))
	called := []int{}
	for _, x := range points {
		called = append(called, slices.Index(sorted, x))
	}
	return slices.Equal(met, points) && slices.Equal(called, p)
}

// toldClash is a telling with its clashes.
type toldClash struct {
	n             int
	list, clashes [][]int
}

// knownClashes returns the tellings of all sizes with their clashes; they are listed once, as many tests go over them.
var knownClashes = sync.OnceValue(func() []toldClash {
	known := []toldClash{}
	everyTelling(func(n int, list [][]int) {
		known = append(known, toldClash{n, list, clashesOf(n, list)})
	})
	return known
})

// everyClash runs a check for tellings of all sizes, with their clashes.
func everyClash(check func(n int, list [][]int, clashes [][]int)) {
	for _, c := range knownClashes() {
		check(c.n, c.list, c.clashes)
	}
}

// namedTellings returns some tellings with their clashes: of no three, of threes that a ring has, of threes that clash at once, and of threes from which a clash follows.
func namedTellings() []toldClash {
	tellings := []toldClash{
		{3, nil, nil}, {6, [][]int{}, nil}, {3, [][]int{{0, 1, 2}}, nil}, {5, [][]int{{0, 1, 2}, {0, 2, 3}, {0, 3, 4}}, nil},
		{3, [][]int{{0, 1, 2}, {0, 2, 1}}, nil}, {4, [][]int{{3, 1, 2}, {1, 3, 2}}, nil}, {6, [][]int{{5, 4, 3}, {0, 1, 2}, {3, 5, 4}, {5, 3, 4}}, nil},
		{4, [][]int{{0, 1, 2}, {0, 2, 3}, {0, 3, 1}}, nil}, {5, [][]int{{1, 2, 3}, {1, 3, 4}, {1, 4, 2}}, nil}, {6, [][]int{{2, 3, 4}, {2, 4, 5}, {2, 5, 3}, {0, 1, 2}}, nil},
	}
	for i, c := range tellings {
		tellings[i].clashes = clashesOf(c.n, c.list)
	}
	return tellings
}

// everyPlace returns texts with something done to each digit of a text.
func everyPlace(text string, change func(digit string) string) []string {
	texts := []string{}
	for at, c := range text {
		if c >= '0' && c <= '9' {
			texts = append(texts, text[:at]+change(text[at:at+1])+text[at+1:])
		}
	}
	return texts
}

// digitsWritten returns texts in which a digit of a text is written in another way than as one digit.
func digitsWritten(text string) []string {
	texts := []string{}
	for _, ahead := range []string{"0", "1", "9", "+", "-", "0x", ".", "\"", "(", ",", "\x00"} {
		texts = append(texts, everyPlace(text, func(digit string) string { return ahead + digit })...)
	}
	for _, behind := range []string{"0", "7", ",", ".", ".0", "e0", ";", ")", "-", "\t", "\n"} {
		texts = append(texts, everyPlace(text, func(digit string) string { return digit + behind })...)
	}
	for _, zero := range []rune{'a', 'A', 0x2080, 0xff10, 0x0660, 0x1d7ce, 0, 0x80, 0x100, 0x130} {
		texts = append(texts, everyPlace(text, func(digit string) string { return string(zero + rune(digit[0]-'0')) })...)
	}
	return append(texts, everyPlace(text, func(string) string { return "" })...)
}

// spacesWritten returns texts in which the spaces of a text are written in another way: more or fewer of them, or others.
func spacesWritten(text string) []string {
	texts := []string{text + " ", text + "  ", " " + text, "  " + text, " " + text + " "}
	for _, space := range []string{"", "  ", "   ", "\t", "\n", "\r", ",", ", ", " ,", "_", "-", "\x00", "\v", "\u00a0", "\u2003", " \t"} {
		texts = append(texts, strings.ReplaceAll(text, " ", space), strings.Replace(text, " ", space, 1), text+space+"0", text+space)
		if at := strings.LastIndex(text, " "); at >= 0 {
			texts = append(texts, text[:at]+space+text[at+1:])
		}
	}
	return texts
}

// wordsWritten returns texts with another word, or with more around the text.
func wordsWritten(text string) []string {
	word, rest, _ := strings.Cut(text, " ")
	texts := []string{strings.ToUpper(text), strings.ToUpper(text[:1]) + text[1:], rest, " " + rest}
	for _, other := range []string{"clash", "swaps", "at", "Clash", "SWAPS", "clas", "swap", "a", "t", "clashes", "swapss", "att", "clash:", "swaps0", "-at", "no", "", word + word, word + " " + word, "x" + word, "\xff" + word, word + "\xff", "\ufeff" + word} {
		texts = append(texts, other, other+" ", other+" "+rest, other+" "+text)
	}
	for _, more := range []string{" ", "0", " 0", " 1 2", "\n", "\r\n", ".", "\x00", " " + rest, "\n" + text, text, " " + text} {
		texts = append(texts, text+more, more+text)
	}
	return texts
}

// bytesWritten returns texts that come from a text by one byte: by leaving out each one, and by putting in, or in its place, each of all bytes.
func bytesWritten(text string) []string {
	texts := []string{}
	for at := range len(text) + 1 {
		if at < len(text) {
			texts = append(texts, text[:at]+text[at+1:])
		}
		for c := range 256 {
			one := string([]byte{byte(c)})
			texts = append(texts, text[:at]+one+text[at:])
			if at < len(text) {
				texts = append(texts, text[:at]+one+text[at+1:])
			}
		}
	}
	return texts
}

// textsNear returns texts that come from a proof: most of them are none.
func textsNear(text string) []string {
	texts := slices.Concat([]string{text, "", " "}, digitsWritten(text), spacesWritten(text), wordsWritten(text), bytesWritten(text))
	slices.Sort(texts)
	return slices.Compact(texts)
}

// wantNoSwaps fails the test if ProofSwapsIs did not return 0 and false.
func wantNoSwaps(t *testing.T, a []int, b []int, text string) {
	t.Helper()
	swaps, ok := impl.ProofSwapsIs(a, b, text)
	wantNoNumber(t, swaps, ok, "ProofSwapsIs", a, b, text)
}

func TestProofClash(t *testing.T) {
	clashing, following := 0, 0
	everyClash(func(n int, list [][]int, clashes [][]int) {
		text, ok := impl.ProofClash(n, list)
		if len(clashes) == 0 {
			wantNoText(t, text, ok, "ProofClash", n, list)
			return
		}
		wantText(t, text, ok, proofWith("clash", clashes[0]), "ProofClash", n, list)
		clashing++
		if !slices.ContainsFunc(list, func(x []int) bool { return slices.Equal(x, clashes[0]) }) {
			following++
		}
	})
	if clashing < 100 || following < 100 {
		t.Errorf("only %d tellings clash, and %d at a three that they do not have", clashing, following)
	}
	everyNoTelling(func(n int, list [][]int) {
		text, ok := impl.ProofClash(n, list)
		wantNoText(t, text, ok, "ProofClash", n, list)
	})
}

func TestProofClashIs(t *testing.T) {
	random := rand.New(rand.NewSource(10))
	proofs, others := 0, 0
	count := 0
	everyClash(func(n int, list [][]int, clashes [][]int) {
		threes := allThrees(n)
		count++
		asked := [][]int{threes[random.Intn(len(threes))], threes[random.Intn(len(threes))]}
		if count%41 == 0 {
			asked = threes
		}
		if len(clashes) > 0 {
			asked = slices.Concat(asked, clashes[:1], clashes[len(clashes)-1:])
		}
		if len(list) > 0 {
			asked = append(asked, list[0], crossed(list[0]))
		}
		for _, x := range asked {
			text := proofWith("clash", x)
			want := isClash(clashes, text)
			wantBool(t, impl.ProofClashIs(n, list, text), want, "ProofClashIs", n, list, text)
			if want {
				proofs++
			} else if len(clashes) > 0 {
				others++
			}
		}
	})
	if proofs < 1000 || others < 1000 {
		t.Errorf("only %d texts are proofs, and %d of tellings that clash are none", proofs, others)
	}
}

func TestProofClashIsOfNoTelling(t *testing.T) {
	everyNoTelling(func(n int, list [][]int) {
		for _, text := range []string{"clash 0 1 2", "clash 2 1 0", "clash 0 2 1", "clash 1 2 3", "clash", ""} {
			wantBool(t, impl.ProofClashIs(n, list, text), false, "ProofClashIs", n, list, text)
		}
	})
	// Those that clash at once are none if one three is none, or if they are too many.
	clash := [][]int{{0, 1, 2}, {0, 2, 1}}
	wantBool(t, impl.ProofClashIs(3, clash, "clash 0 1 2"), true, "ProofClashIs", clash)
	for _, no := range noThrees(3) {
		wantBool(t, impl.ProofClashIs(3, append(clash, no), "clash 0 1 2"), false, "ProofClashIs", no)
	}
	wantBool(t, impl.ProofClashIs(6, longTelling(6, 41), "clash 0 1 2"), false, "ProofClashIs", 6, 41)
	for _, n := range notAskedSizes() {
		wantBool(t, impl.ProofClashIs(n, clash, "clash 0 1 2"), false, "ProofClashIs", n, clash)
	}
}

func TestProofClashIsOfAllDigits(t *testing.T) {
	for _, c := range namedTellings() {
		for i := range 1000 {
			text := proofWith("clash", []int{i / 100, i / 10 % 10, i % 10})
			wantBool(t, impl.ProofClashIs(c.n, c.list, text), isClash(c.clashes, text), "ProofClashIs", c.n, c.list, text)
		}
	}
}

func TestProofClashTexts(t *testing.T) {
	for _, c := range namedTellings() {
		text := "clash 0 1 2"
		if len(c.clashes) > 0 {
			text = proofWith("clash", c.clashes[len(c.clashes)-1])
		}
		proofs := 0
		for _, near := range textsNear(text) {
			want := isClash(c.clashes, near)
			wantBool(t, impl.ProofClashIs(c.n, c.list, near), want, "ProofClashIs", c.n, c.list, near)
			if want {
				proofs++
			}
		}
		wantBool(t, proofs > 0, len(c.clashes) > 0, "a text is a proof", c.n, c.list)
	}
}

func TestProofSwaps(t *testing.T) {
	for _, n := range askedSizes {
		rings := allRings(n)
		for i := 0; i < len(rings); i += 1 + len(rings)/20 {
			for j, way := range waysFrom(rings[i]) {
				text, ok := impl.ProofSwaps(rings[i], rings[j])
				wantText(t, text, ok, proofWith("swaps", way), "ProofSwaps", rings[i], rings[j])
			}
		}
	}
	everyNoTwoAsked(func(a, b []int) {
		text, ok := impl.ProofSwaps(a, b)
		wantNoText(t, text, ok, "ProofSwaps", a, b)
	})
}

// wantSwaps fails the test if ProofSwapsIs is not as it must be for a text and each one of some rings that it leads to or not.
func wantSwaps(t *testing.T, a []int, text string, rings [][]int) {
	t.Helper()
	end, many, ok := ledTo(a, text)
	for _, b := range rings {
		if ok && slices.Equal(b, end) {
			got, ok := impl.ProofSwapsIs(a, b, text)
			wantNumber(t, got, ok, many, "ProofSwapsIs", a, b, text)
		} else {
			wantNoSwaps(t, a, b, text)
		}
	}
}

// digitLists returns all lists of at most so many numbers from 0 on up to one.
func digitLists(most int, size int) [][]int {
	lists := [][]int{nil}
	for i := 0; len(lists[i]) < size; i++ {
		for x := range most + 1 {
			lists = append(lists, append(slices.Clone(lists[i]), x))
		}
	}
	return lists
}

// All lists of a few points, and of the number that is just no point any more, on rings of at most 5 points.
func TestProofSwapsIsOfShortLists(t *testing.T) {
	for _, n := range []int{3, 4, 5} {
		rings := allRings(n)
		for _, points := range digitLists(n, 8-n) {
			text := proofWith("swaps", points)
			for _, a := range rings {
				asked := append(slices.Clone(rings[:min(6, len(rings))]), a)
				if end, _, ok := ledTo(a, text); ok {
					asked = append(asked, end)
				}
				wantSwaps(t, a, text, asked)
			}
		}
	}
}

// everyWalk runs a check for long lists of points whose swaps lead from one ring to another one.
func everyWalk(check func(a, b []int, points []int)) {
	random := rand.New(rand.NewSource(101))
	for _, n := range sizes {
		rings := allRings(n)
		for i := range 1500 {
			a, points := rings[random.Intn(len(rings))], []int{}
			for range i % 40 {
				points = append(points, random.Intn(n))
			}
			end, _, _ := ledTo(a, proofWith("swaps", points))
			check(a, end, points)
		}
	}
}

func TestProofSwapsIsOfLongLists(t *testing.T) {
	everyWalk(func(a, b []int, points []int) {
		rings := [][]int{b, a, backwards(b), swappedAt(b, 0), swappedAt(b, 2), firstRing(3 + len(a)%5)}
		wantSwaps(t, a, proofWith("swaps", points), rings)
		for x := len(a); x <= 9; x++ {
			at := x % (len(points) + 1)
			wantSwaps(t, a, proofWith("swaps", slices.Insert(slices.Clone(points), at, x)), rings)
		}
	})
	// A swap is undone by that of the same point on three points only, and by those of both points on all rings.
	got, ok := impl.ProofSwapsIs([]int{0, 1, 2}, []int{0, 1, 2}, "swaps"+strings.Repeat(" 0", 100000))
	wantNumber(t, got, ok, 100000, "ProofSwapsIs", 100000)
	got, ok = impl.ProofSwapsIs([]int{0, 1, 2}, []int{0, 2, 1}, "swaps"+strings.Repeat(" 2", 100001))
	wantNumber(t, got, ok, 100001, "ProofSwapsIs", 100001)
	got, ok = impl.ProofSwapsIs(firstRing(7), firstRing(7), "swaps"+strings.Repeat(" 3 4", 50000))
	wantNumber(t, got, ok, 100000, "ProofSwapsIs", 100000)
	wantNoSwaps(t, firstRing(7), firstRing(7), "swaps"+strings.Repeat(" 3 4", 50000)+" ")
	wantNoSwaps(t, firstRing(7), firstRing(7), "swaps"+strings.Repeat(" 3 4", 50000)+" 7")
}

func TestProofSwapsIsOfNoTwoRings(t *testing.T) {
	everyNoTwoRings(func(a, b []int) {
		for _, text := range []string{"swaps", "swaps 0", "swaps 1", "swaps 0 1", "swaps 1 0 2", "swaps 0 0", "swaps ", ""} {
			wantNoSwaps(t, a, b, text)
		}
	})
}

func TestProofSwapsTexts(t *testing.T) {
	for _, c := range []struct {
		a    []int
		text string
	}{
		{[]int{0, 1, 2}, "swaps"},
		{[]int{0, 2, 1}, "swaps 1"},
		{[]int{0, 1, 2, 3}, "swaps 0 2"},
		{[]int{0, 3, 1, 4, 2}, "swaps 4 4 1"},
		{[]int{0, 1, 2, 3, 4, 5, 6}, "swaps 6"},
	} {
		end, many, _ := ledTo(c.a, c.text)
		got, ok := impl.ProofSwapsIs(c.a, end, c.text)
		wantNumber(t, got, ok, many, "ProofSwapsIs", c.a, end, c.text)
		for _, near := range textsNear(c.text) {
			wantSwaps(t, c.a, near, [][]int{end, c.a})
		}
	}
}

func TestProofAt(t *testing.T) {
	none := 0
	everyPattern(func(a, p []int) {
		text, ok := impl.ProofAt(a, p)
		sets := setsHaving(a, p)
		if len(sets) == 0 {
			none++
			wantNoText(t, text, ok, "ProofAt", a, p)
			return
		}
		wantText(t, text, ok, proofWith("at", keptOf(a, pointsOf(sets[0]))), "ProofAt", a, p)
	})
	if none < 1000 {
		t.Errorf("only %d rings do not have a pattern", none)
	}
	everyNoPattern(func(a, p []int) {
		text, ok := impl.ProofAt(a, p)
		wantNoText(t, text, ok, "ProofAt", a, p)
	})
}

// All lists of points, with none of them twice, on rings of at most 5 points.
func TestProofAtIsOfAllLists(t *testing.T) {
	proofs := 0
	for _, n := range []int{3, 4, 5} {
		lists := [][]int{}
		for _, list := range allTellings(n) {
			for size := range n + 1 {
				lists = append(lists, list[:size])
			}
		}
		slices.SortFunc(lists, slices.Compare)
		lists = slices.CompactFunc(lists, slices.Equal)
		for _, a := range allRings(n) {
			for m := 3; m <= n; m++ {
				for _, p := range allRings(m) {
					for _, points := range lists {
						text := proofWith("at", points)
						want := isPlaced(a, p, text)
						wantBool(t, impl.ProofAtIs(a, p, text), want, "ProofAtIs", a, p, text)
						if want {
							proofs++
						}
					}
				}
			}
		}
	}
	if proofs < 300 {
		t.Errorf("only %d texts are proofs", proofs)
	}
}

// All lists of three and four numbers, points twice among them, on some rings.
func TestProofAtIsOfAllDigits(t *testing.T) {
	for _, a := range [][]int{{0, 1, 2}, {0, 2, 1, 3}, {0, 3, 1, 4, 2}, {0, 6, 1, 5, 2, 4, 3}} {
		for _, points := range digitLists(7, 4) {
			text := proofWith("at", points)
			for _, p := range [][]int{{0, 1, 2}, {0, 2, 1}, {0, 2, 1, 3}} {
				if len(p) <= len(a) {
					wantBool(t, impl.ProofAtIs(a, p, text), isPlaced(a, p, text), "ProofAtIs", a, p, text)
				}
			}
		}
	}
}

// listsNear returns lists that come from the points of a proof: beginning with each one, gone round the other way, with each two beside each other exchanged, with one left out, twice, or in place of another one.
func listsNear(points []int, n int) [][]int {
	back := slices.Clone(points)
	slices.Reverse(back)
	lists := [][]int{back, append([]int{points[0]}, back[:len(back)-1]...), append(slices.Clone(points), points[0])}
	for i, x := range points {
		lists = append(lists, turned(points, x), turned(back, x), slices.Delete(slices.Clone(points), i, i+1), slices.Insert(slices.Clone(points), i, x))
		if i > 0 {
			other := slices.Clone(points)
			other[i-1], other[i] = other[i], other[i-1]
			lists = append(lists, other)
		}
		for y := range n + 1 {
			other := slices.Clone(points)
			other[i] = y
			lists = append(lists, other)
		}
	}
	return lists
}

func TestProofAtIs(t *testing.T) {
	count, proofs := 0, 0
	everyPattern(func(a, p []int) {
		count++
		for i, set := range setsHaving(a, p) {
			points := keptOf(a, pointsOf(set))
			text := proofWith("at", points)
			wantBool(t, impl.ProofAtIs(a, p, text), true, "ProofAtIs", a, p, text)
			wantBool(t, impl.ProofAtIs(a, backwards(p), text), false, "ProofAtIs", a, backwards(p), text)
			proofs++
			if (count+i)%23 > 0 {
				continue
			}
			for _, near := range listsNear(points, len(a)) {
				text := proofWith("at", near)
				wantBool(t, impl.ProofAtIs(a, p, text), isPlaced(a, p, text), "ProofAtIs", a, p, text)
			}
		}
	})
	if proofs < 10000 {
		t.Errorf("only %d texts are proofs", proofs)
	}
	everyNoPattern(func(a, p []int) {
		for _, text := range []string{"at 0 1 2", "at 0 2 1", "at 0 1 2 3", "at 0 1 2 3 4 5 6", "at", ""} {
			wantBool(t, impl.ProofAtIs(a, p, text), false, "ProofAtIs", a, p, text)
		}
		if len(p) <= 9 {
			wantBool(t, impl.ProofAtIs(a, p, proofWith("at", p)), false, "ProofAtIs", a, p)
		}
	})
}

func TestProofAtTexts(t *testing.T) {
	for _, c := range []struct {
		a, p []int
		text string
	}{
		{[]int{0, 1, 2}, []int{0, 1, 2}, "at 0 1 2"},
		{[]int{0, 2, 1, 3}, []int{0, 2, 1}, "at 0 2 1"},
		{[]int{0, 2, 4, 1, 3}, []int{0, 2, 3, 1}, "at 0 2 4 1"},
		{[]int{0, 2, 4, 1, 3}, []int{0, 1, 2}, "at 1 2 4"},
		{[]int{0, 6, 5, 4, 3, 2, 1}, []int{0, 6, 5, 4, 3, 2, 1}, "at 0 6 5 4 3 2 1"},
	} {
		wantBool(t, impl.ProofAtIs(c.a, c.p, c.text), true, "ProofAtIs", c.a, c.p, c.text)
		for _, near := range textsNear(c.text) {
			wantBool(t, impl.ProofAtIs(c.a, c.p, near), isPlaced(c.a, c.p, near), "ProofAtIs", c.a, c.p, near)
		}
	}
	wantBool(t, impl.ProofAtIs(firstRing(7), []int{0, 1, 2}, "at 0 1 2"+strings.Repeat(" 3", 100000)), false, "ProofAtIs", 100000)
}

func TestProofsOfClashesByHand(t *testing.T) {
	for _, c := range []struct {
		n     int
		list  [][]int
		first string
		proof string
		no    string
	}{
		{3, [][]int{{0, 1, 2}, {0, 2, 1}}, "clash 0 1 2", "clash 2 1 0", "clash 0 1 3"},
		{3, [][]int{{2, 1, 0}, {1, 2, 0}}, "clash 0 1 2", "clash 1 2 0", "clash 0 1 1"},
		{4, [][]int{{1, 2, 3}, {1, 3, 2}}, "clash 1 2 3", "clash 3 2 1", "clash 0 1 2"},
		{6, [][]int{{0, 1, 2}, {4, 5, 3}, {4, 3, 5}}, "clash 3 4 5", "clash 5 4 3", "clash 0 1 2"},
		{4, [][]int{{0, 1, 2}, {0, 2, 3}, {0, 3, 1}}, "clash 0 1 2", "clash 1 3 2", "clash 0 1 4"},
		{5, [][]int{{1, 2, 3}, {1, 3, 4}, {1, 4, 2}}, "clash 1 2 3", "clash 4 2 3", "clash 0 2 3"},
		{3, nil, "", "", "clash 0 1 2"},
		{4, [][]int{{0, 1, 2}, {0, 2, 3}}, "", "", "clash 0 1 2"},
	} {
		text, ok := impl.ProofClash(c.n, c.list)
		if c.first == "" {
			wantNoText(t, text, ok, "ProofClash", c.n, c.list)
		} else {
			wantText(t, text, ok, c.first, "ProofClash", c.n, c.list)
			wantBool(t, impl.ProofClashIs(c.n, c.list, c.proof), true, "ProofClashIs", c.n, c.list, c.proof)
		}
		wantBool(t, impl.ProofClashIs(c.n, c.list, c.no), false, "ProofClashIs", c.n, c.list, c.no)
	}
	for _, no := range []string{
		"", "clash", "clash ", "clash 0", "clash 0 1", "clash 0 1 2 ", " clash 0 1 2", "clash  0 1 2", "clash 0  1 2", "clash 0 1  2", "clash0 1 2", "clash 01 2", "clash 0 1 2 0", "clash 0 1 2\n",
		"Clash 0 1 2", "CLASH 0 1 2", "clashes 0 1 2", "clashs 0 1 2", "swaps 0 1 2", "at 0 1 2", "clash a b c", "clash -0 1 2", "clash +0 1 2", "clash 00 1 2", "clash 0 1 02", "clash 0 -1 2", "clash 0 1 3", "clash 0 0 1", "clash 1 1 1", "clash 0 10 2", "clash 0,1,2", "0 1 2",
	} {
		wantBool(t, impl.ProofClashIs(3, [][]int{{0, 1, 2}, {0, 2, 1}}, no), false, "ProofClashIs", no)
	}
}

func TestProofsOfSwapsByHand(t *testing.T) {
	for _, c := range []struct {
		a, b  []int
		proof string
		other string
		many  int
	}{
		{[]int{0, 1, 2}, []int{0, 1, 2}, "swaps", "swaps 0 1", 2},
		{[]int{0, 1, 2}, []int{0, 2, 1}, "swaps 0", "swaps 2", 1},
		{[]int{0, 1, 2, 3}, []int{0, 3, 1, 2}, "swaps 3", "swaps 3 0 3", 3},
		{[]int{0, 1, 2, 3}, []int{0, 3, 2, 1}, "swaps 0 2", "swaps 3 1", 2},
		{[]int{0, 1, 2, 3, 4}, []int{0, 2, 3, 1, 4}, "swaps 0 4", "swaps 1 1 1 4", 4},
		{[]int{0, 1, 2, 3, 4}, []int{0, 2, 1, 4, 3}, "swaps 1 3", "swaps 3 1", 2},
		{[]int{0, 1, 2, 3, 4, 5}, []int{0, 1, 2, 3, 4, 5}, "swaps", "swaps 5 0", 2},
	} {
		text, ok := impl.ProofSwaps(c.a, c.b)
		wantText(t, text, ok, c.proof, "ProofSwaps", c.a, c.b)
		many, ok := impl.ProofSwapsIs(c.a, c.b, c.proof)
		wantNumber(t, many, ok, strings.Count(c.proof, " "), "ProofSwapsIs", c.a, c.b, c.proof)
		many, ok = impl.ProofSwapsIs(c.a, c.b, c.other)
		wantNumber(t, many, ok, c.many, "ProofSwapsIs", c.a, c.b, c.other)
		wantNoSwaps(t, c.a, c.b, c.proof+" ")
		wantNoSwaps(t, c.a, c.b, c.proof+" 1")
		wantNoSwaps(t, c.a, swappedAt(c.b, 0), c.proof)
	}
	// Rings of 7 points have proofs of swaps, but none is made for them.
	many, ok := impl.ProofSwapsIs(firstRing(7), firstRing(7), "swaps")
	wantNumber(t, many, ok, 0, "ProofSwapsIs", 7)
	many, ok = impl.ProofSwapsIs(firstRing(7), []int{0, 2, 3, 4, 5, 6, 1}, "swaps 0")
	wantNumber(t, many, ok, 1, "ProofSwapsIs", 7)
	text, ok := impl.ProofSwaps(firstRing(7), firstRing(7))
	wantNoText(t, text, ok, "ProofSwaps", 7)
	for _, no := range []string{
		"", "swap", "swaps ", " swaps", "swaps  ", "swaps\n", "Swaps", "SWAPS", "swapss", "clash", "at", "swaps 0", "swaps 0 1 ", " swaps 0 1", "swaps  0 1", "swaps 0  1", "swaps0 1", "swaps 01", "swaps 00 1", "swaps 0 01", "swaps 3", "swaps 0 3", "swaps 9 9",
		"swaps a b", "swaps -0 1", "swaps 0 -1", "swaps +0 1", "swaps 10 1", "swaps 0,1", "swaps 0\t1", "at 0 1", "clash 0 1", "0 1", "\x00", "swaps \xff",
	} {
		wantNoSwaps(t, []int{0, 1, 2}, []int{0, 1, 2}, no)
	}
}

func TestProofsOfPatternsByHand(t *testing.T) {
	star := []int{0, 2, 4, 1, 3}
	for _, c := range []struct {
		a, p  []int
		first string
		proof string
		no    string
	}{
		{[]int{0, 1, 2}, []int{0, 1, 2}, "at 0 1 2", "at 0 1 2", "at 1 2 0"},
		{[]int{0, 1, 2, 3}, []int{0, 1, 2}, "at 0 1 2", "at 1 2 3", "at 3 0 1"},
		{[]int{0, 1, 2, 3}, []int{0, 2, 1}, "", "", "at 0 2 1"},
		{[]int{0, 1, 2, 3}, []int{0, 2, 1, 3}, "", "", "at 0 1 2 3"},
		{star, []int{0, 1, 2}, "at 0 1 3", "at 1 2 4", "at 0 1 2"},
		{star, []int{0, 2, 1}, "at 0 2 1", "at 2 4 3", "at 0 1 2"},
		{star, []int{0, 2, 1, 3}, "at 0 2 1 3", "at 1 3 2 4", "at 2 4 1 3"},
		{star, star, "at 0 2 4 1 3", "at 0 2 4 1 3", "at 1 3 0 2 4"},
		{[]int{0, 6, 5, 4, 3, 2, 1}, []int{0, 2, 1}, "at 0 2 1", "at 4 6 5", "at 6 5 4"},
	} {
		text, ok := impl.ProofAt(c.a, c.p)
		if c.first == "" {
			wantNoText(t, text, ok, "ProofAt", c.a, c.p)
		} else {
			wantText(t, text, ok, c.first, "ProofAt", c.a, c.p)
			wantBool(t, impl.ProofAtIs(c.a, c.p, c.proof), true, "ProofAtIs", c.a, c.p, c.proof)
			wantBool(t, impl.ProofAtIs(c.a, c.p, c.proof+" "), false, "ProofAtIs", c.a, c.p, c.proof+" ")
		}
		wantBool(t, impl.ProofAtIs(c.a, c.p, c.no), false, "ProofAtIs", c.a, c.p, c.no)
	}
	for _, no := range []string{
		"", "at", "at ", "at 0", "at 0 1", "at 0 1 2 ", " at 0 1 2", "at  0 1 2", "at 0  1 2", "at 0 1  2", "at0 1 2", "at 01 2", "at 0 1 2 3", "at 0 1 2 0", "at 0 1 2\n", "At 0 1 2", "AT 0 1 2", "att 0 1 2", "a 0 1 2", "clash 0 1 2", "swaps 0 1 2",
		"at a b c", "at -0 1 2", "at 0 -1 2", "at +0 1 2", "at 00 1 2", "at 0 1 02", "at 0 10 2", "at 0 1 4", "at 0 1 9", "at 0 0 1", "at 0 1 1", "at 1 1 1", "at 0 2 1", "at 1 2 0", "at 2 0 1", "at 3 0 1", "at 0,1,2", "0 1 2",
	} {
		wantBool(t, impl.ProofAtIs([]int{0, 1, 2, 3}, []int{0, 1, 2}, no), false, "ProofAtIs", no)
	}
}
