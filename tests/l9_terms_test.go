package tests

import (
	"math/rand"
	"regexp"
	"slices"
	"strings"
	"sync"
	"testing"

	"loop.example/ringorders/impl"
)

// The functions below tell again, in the plainest way, what chapter 9 says; the tests hold the program against them.
// They put texts in place of parts of a text until no more can be done, so that nothing of it is kept but the text.

// allLetters are the letters of all points that a ring may have.
const allLetters = "abcdefg"

var (
	oneLetter  = regexp.MustCompile(`[a-g]`)
	signedRow  = regexp.MustCompile(`-<[a-g]+>`)
	rowsWithin = regexp.MustCompile(`\((<[a-g]+>){2,}\)`)
	onlyRow    = regexp.MustCompile(`^<[a-g]+>$`)
	allMarks   = strings.NewReplacer("(", "", ")", "", "<", "", ">", "")
)

// reversed returns a text backwards, byte by byte.
func reversed(s string) string {
	bytes := []byte(s)
	slices.Reverse(bytes)
	return string(bytes)
}

// rowTold returns the row that a term tells, and true: each letter is a row between < and >, and what tells a row of rows is put in their place until one row is all that is left.
func rowTold(s string) (string, bool) {
	if len(s) > 60 || strings.Trim(s, allLetters+"-()") != "" {
		return "", false
	}
	text, was := oneLetter.ReplaceAllString(s, "<$0>"), ""
	for text != was {
		was = text
		text = rowsWithin.ReplaceAllStringFunc(text, func(rows string) string {
			return "<" + allMarks.Replace(rows) + ">"
		})
		text = signedRow.ReplaceAllStringFunc(text, func(row string) string {
			return "<" + reversed(strings.Trim(row, "-<>")) + ">"
		})
	}
	return strings.Trim(text, "<>"), onlyRow.MatchString(text)
}

// isRow reports whether a row has each of the first three to seven letters once, and no other one.
func isRow(row string) bool {
	letters := []byte(row)
	slices.Sort(letters)
	return len(row) >= 3 && strings.HasPrefix(allLetters, string(letters))
}

// isRingTerm reports whether a text is a ring term.
func isRingTerm(s string) bool {
	row, ok := rowTold(s)
	return ok && isRow(row)
}

// pointsIn returns the points of the letters of a text, in the order in which they stand.
func pointsIn(s string) []int {
	points := []int{}
	for _, c := range s {
		if x := strings.IndexRune(allLetters, c); x >= 0 {
			points = append(points, x)
		}
	}
	return points
}

// rowWith returns the row of the letters of points.
func rowWith(points []int) string {
	row := ""
	for _, x := range points {
		row += allLetters[x : x+1]
	}
	return row
}

// ringTold returns the ring that a row tells.
func ringTold(row string) []int {
	return turned(pointsIn(row), 0)
}

// endOf returns the place behind the term that begins at a place of a text: behind the letter or the ) at which no more brackets are open.
func endOf(s string, at int) int {
	open := 0
	for {
		switch s[at] {
		case '(':
			open++
		case ')':
			open--
		}
		if s[at] != '-' && open == 0 {
			return at + 1
		}
		at++
	}
}

// tidyTold returns a term from which the signs are moved inwards, the first one first, until none is left.
func tidyTold(s string) string {
	at := strings.Index(s, "-")
	for ; at >= 0; at = strings.Index(s, "-") {
		end := endOf(s, at)
		inner := s[at+1 : end]
		switch inner[0] {
		case '-':
			inner = inner[1:]
		case '(':
			within := ""
			for from := 1; from < len(inner)-1; from = endOf(inner, from) {
				within = "-" + inner[from:endOf(inner, from)] + within
			}
			inner = "(" + within + ")"
		}
		s = s[:at] + inner + s[end:]
	}
	return s
}

// arcsTold returns, in ascending order, the sets of the letters between each ( and the ) that closes it, but for the set of all letters.
func arcsTold(s string) []int {
	sets := []int{}
	for at := range len(s) {
		if s[at] == '(' {
			sets = append(sets, setWith(pointsIn(s[at:endOf(s, at)])))
		}
	}
	slices.Sort(sets)
	whole := setWith(pointsIn(s))
	return slices.Compact(slices.DeleteFunc(sets, func(set int) bool { return set == whole }))
}

// deepTold returns the greatest number of brackets that are open at a letter.
func deepTold(s string) int {
	deepest := 0
	for at, c := range s {
		if strings.ContainsRune(allLetters, c) {
			deepest = max(deepest, strings.Count(s[:at], "(")-strings.Count(s[:at], ")"))
		}
	}
	return deepest
}

// shapesOf returns all terms without signs that tell a row.
func shapesOf(row string) []string {
	if len(row) == 1 {
		return []string{row}
	}
	shapes := []string{}
	for end := 1; end < len(row); end++ {
		for _, first := range shapesOf(row[:end]) {
			for _, rest := range shapesOf(row[end:]) {
				shapes = append(shapes, "("+first+rest+")")
				// The terms behind the first one are the one told by the rest, or those in its brackets.
				if len(rest) > 1 {
					shapes = append(shapes, "("+first+rest[1:len(rest)-1]+")")
				}
			}
		}
	}
	return shapes
}

// relettered returns a text with the letters of points, in the order of a list, in place of a, b and so on.
func relettered(s string, list []int) string {
	return strings.Map(func(c rune) rune {
		if x := strings.IndexRune(allLetters, c); x >= 0 {
			return rune(allLetters[list[x]])
		}
		return c
	}, s)
}

// signPlaces returns the number of places of a term at which signs may be put: ahead of all but signs and ).
func signPlaces(s string) int {
	return len(s) - strings.Count(s, "-") - strings.Count(s, ")")
}

// withSigns returns a term with so many more signs at each place at which they may be put.
func withSigns(s string, many func(place int) int) string {
	text := ""
	place := 0
	for _, c := range s {
		if c != ')' && c != '-' {
			text += strings.Repeat("-", many(place))
			place++
		}
		text += string(c)
	}
	return text
}

// filled returns terms of a number of bytes that come from a shorter one by more signs: all at one place, for each one, and at all places in turn.
func filled(s string, size int) []string {
	more, places := size-len(s), signPlaces(s)
	texts := []string{withSigns(s, func(place int) int { return (more + place) / places })}
	for at := range places {
		texts = append(texts, withSigns(s, func(place int) int {
			if place == at {
				return more
			}
			return 0
		}))
	}
	return texts
}

// longTerms returns terms of a number of bytes that would be ring terms but for this number.
func longTerms(size int) []string {
	texts := []string{}
	for _, s := range []string{"(abc)", "((cb)a)", "(a(db)c)", "((ab)-(cd)e)", "(fa(b(ce))d)", "(abcdefg)", "((((((ab)c)d)e)f)g)", "-(g-(f-(ed)c)b-a)"} {
		texts = append(texts, filled(s, size)...)
	}
	return texts
}

// knownTerms returns ring terms of all numbers of letters; they are listed once, as most tests go over them.
var knownTerms = sync.OnceValue(listTerms)

// listTerms returns all ring terms of three letters with at most two signs at each place, ring terms of all shapes of brackets with some rows each, with and without signs, and long ones.
func listTerms() []string {
	terms := append(longTerms(59), longTerms(60)...)
	random := rand.New(rand.NewSource(9))
	for _, n := range sizes {
		rows := allTellings(n)
		for _, shape := range shapesOf(allLetters[:n]) {
			for range []int{3: 6, 4: 24, 5: 120, 6: 20, 7: 6}[n] {
				s := relettered(shape, rows[random.Intn(len(rows))])
				terms = append(terms, s, "-"+s, withSigns(s, func(int) int { return random.Intn(4) }))
			}
		}
	}
	for _, row := range allTellings(3) {
		for _, shape := range shapesOf("abc") {
			s := relettered(shape, row)
			for signs := 0; signs < []int{4: 81, 5: 243}[signPlaces(s)]; signs++ {
				terms = append(terms, withSigns(s, func(place int) int { return signs / []int{1, 3, 9, 27, 81}[place] % 3 }))
			}
		}
	}
	slices.Sort(terms)
	return slices.Compact(terms)
}

// knownRows has the rows of these terms.
var knownRows = sync.OnceValue(func() map[string]string {
	rows := map[string]string{}
	for _, s := range knownTerms() {
		rows[s], _ = rowTold(s)
	}
	return rows
})

// everyTerm runs a check for ring terms, with the rows that they tell.
func everyTerm(check func(s string, row string)) {
	rows := knownRows()
	for _, s := range knownTerms() {
		check(s, rows[s])
	}
}

// namedNoTerms returns texts that are no ring terms, each one for a reason that the chapter names.
func namedNoTerms() []string {
	texts := []string{
		// The empty text, signs alone, brackets that are empty or have one term, and fewer than three letters.
		"", "-", "--", "()", "-()", "(-)", "(())", "(()())", "(--)", "a", "b", "-a", "--a", "(a)", "-(a)", "(-a)", "((a))", "(ab)", "-(ab)", "(-a-b)", "(-(ab))", "((ab))", "((a)b)",
		"((abc))", "-((abc))", "(-(abc))", "(a(b)c)", "((a)bc)", "(ab(c))", "(a(-b)c)", "((abcdefg))", "(()abc)", "(a()bc)", "(abc())",
		// Letters without brackets, and text behind a term or ahead of it.
		"ab", "abc", "-abc", "a-bc", "a(bc)", "(ab)c", "(ab)(cd)", "(abc)d", "(abc)-d", "(abc)a", "(abc)-", "(abc)--", "(abc)(", "(abc))", "(abc)()", "(abc)(abc)", "(abc)-(abc)", "(abc)(de)", "d(abc)", "(abcdefg)a", "(abcdefg)h",
		// Brackets that are not closed or not opened, and signs with no term.
		"(", ")", ")(", "(abc", "-(abc", "((abc)", "((ab)c", "(a(bc)", "(abcdefg", "abc)", "-abc)", "ab)c)", "(ab))c", ")abc(", "(a)b(c)", "(abc-)", "(ab-)c", "(a-)bc", "((ab-)c)", "(ab)-c)", "-)abc(",
		// Rows without one of the first letters, with one twice, and with letters behind those that the term may have.
		"(abd)", "(acd)", "(bcd)", "(abe)", "(abg)", "(efg)", "(abce)", "(abcg)", "(bcde)", "(abcdf)", "(abcdeg)", "(bcdefg)", "(acdefg)", "(a(bd))", "-(a-(bd))",
		"(aab)", "(aba)", "(abb)", "(aaa)", "(abca)", "(a(ab)c)", "(a(bc)c)", "-(ab-(ca))", "(abcdefga)", "(abcdefgg)", "(abcdefgabcdefg)",
		"(abh)", "(abch)", "(abcdefh)", "(abcdefgh)", "(abz)", "(hij)", "h",
		// Spaces, capital letters and other bytes.
		" ", " (abc)", "(abc) ", "( abc)", "(abc )", "(a b c)", "- (abc)", "\t(abc)", "(abc)\n", "\n", "(a\nbc)", "(ABC)", "(Abc)", "(abC)", "A", "(012)", "(0 1 2)", "(a,b,c)", "[abc]", "{abc}", "<abc>", "(<abc>)", "(<a>bc)", "\"(abc)\"",
		"+(abc)", "_(abc)", "~(abc)", "(ab`)", "\x00", "\x00(abc)", "(abc)\x00", "(ab\x00c)", "(ab\xe3)", "(ab\xff)", "\xff", "(a\u00e4bc)", "(\u0430bc)", "\u2212(abc)", "(abc\uff09", "\uff08abc)",
	}
	for _, size := range []int{61, 62, 100, 256 + 8, 5000} {
		texts = append(texts, longTerms(size)...)
	}
	for _, s := range []string{"-", "(", ")", "a", "()", "(-", "(ab", "(abc)"} {
		texts = append(texts, strings.Repeat(s, 30), strings.Repeat(s, 60), strings.Repeat(s, 61), strings.Repeat(s, 100000))
	}
	return texts
}

// shortTexts returns all texts of at most 6 of the letters a to d, signs and brackets, and those of 7 of these without d that begin with a sign or a bracket that opens.
func shortTexts() []string {
	texts := []string{""}
	for i := 0; i < len(texts); i++ {
		s := texts[i]
		if len(s) < 6 {
			for _, c := range "abcd-()" {
				texts = append(texts, s+string(c))
			}
		} else if len(s) == 6 && (s[0] == '-' || s[0] == '(') && !strings.Contains(s, "d") {
			for _, c := range "abc-()" {
				texts = append(texts, s+string(c))
			}
		}
	}
	return texts
}

// changedTexts returns texts that come from ring terms by one byte: for short ones, by leaving out each one, and by putting in, or in its place, each of all bytes; for others by some.
func changedTexts() []string {
	texts := []string{}
	change := func(s string, at int, c string) {
		texts = append(texts, s[:at]+c+s[at:])
		if at < len(s) {
			texts = append(texts, s[:at]+s[at+1:], s[:at]+c+s[at+1:])
		}
	}
	for _, s := range []string{"(abc)", "-(abcd)", "((ab)-c)", "-(a(bc)d)", "(abcdefg)"} {
		for at := range len(s) + 1 {
			for c := range 256 {
				change(s, at, string([]byte{byte(c)}))
			}
		}
	}
	random := rand.New(rand.NewSource(90))
	for _, s := range knownTerms() {
		change(s, random.Intn(len(s)+1), []string{"a", "b", "c", "d", "e", "f", "g", "h", "-", "(", ")", " ", "A"}[random.Intn(13)])
	}
	return texts
}

// knownNoTerms returns texts that are no ring terms; they are listed once, as many tests go over them.
var knownNoTerms = sync.OnceValue(func() []string {
	texts := slices.Concat(namedNoTerms(), shortTexts(), changedTexts())
	return slices.DeleteFunc(texts, isRingTerm)
})

// everyNoTerm runs a check for texts that are no ring terms.
func everyNoTerm(check func(s string)) {
	for _, s := range knownNoTerms() {
		check(s)
	}
}

// wantText fails the test if a text is not as it must be.
func wantText(t *testing.T, got string, ok bool, want string, what string, args ...any) {
	t.Helper()
	if !ok || got != want {
		t.Fatalf("%s of %q returned %q, %v; want %q, true", what, args, got, ok, want)
	}
}

// wantNoText fails the test if a call did not return the empty text and false.
func wantNoText(t *testing.T, got string, ok bool, what string, args ...any) {
	t.Helper()
	if ok || got != "" {
		t.Fatalf("%s of %q returned %q, %v; want the empty text and false", what, args, got, ok)
	}
}

func TestTermsAreTerms(t *testing.T) {
	for _, s := range knownTerms() {
		wantBool(t, isRingTerm(s), true, "isRingTerm", s)
	}
	for _, s := range namedNoTerms() {
		wantBool(t, isRingTerm(s), false, "isRingTerm", s)
	}
	for n, shapes := range []int{3: 3, 4: 11, 5: 45, 6: 197, 7: 903} {
		if shapes > 0 {
			wantNumber(t, len(slices.Compact(slices.Sorted(slices.Values(shapesOf(allLetters[:n]))))), true, shapes, "the number of shapes", n)
		}
	}
}

func TestTermIn(t *testing.T) {
	everyTerm(func(s, row string) { wantBool(t, impl.TermIn(s), true, "TermIn", s) })
	everyNoTerm(func(s string) { wantBool(t, impl.TermIn(s), false, "TermIn", s) })
	terms := 0
	for _, s := range slices.Concat(shortTexts(), changedTexts()) {
		want := isRingTerm(s)
		wantBool(t, impl.TermIn(s), want, "TermIn", s)
		if want {
			terms++
		}
	}
	if terms < 1000 {
		t.Errorf("only %d of the short and the changed texts are ring terms", terms)
	}
}

func TestTermRow(t *testing.T) {
	everyTerm(func(s, row string) {
		got, ok := impl.TermRow(s)
		wantText(t, got, ok, row, "TermRow", s)
	})
	everyNoTerm(func(s string) {
		row, ok := impl.TermRow(s)
		wantNoText(t, row, ok, "TermRow", s)
	})
}

func TestTermRing(t *testing.T) {
	everyTerm(func(s, row string) {
		ring, ok := impl.TermRing(s)
		wantList(t, ring, ok, ringTold(row), "TermRing", s)
	})
	everyNoTerm(func(s string) {
		ring, ok := impl.TermRing(s)
		wantNoList(t, ring, ok, "TermRing", s)
	})
}

func TestTermTidy(t *testing.T) {
	everyTerm(func(s, row string) {
		tidy, ok := impl.TermTidy(s)
		wantText(t, tidy, ok, tidyTold(s), "TermTidy", s)
	})
	everyNoTerm(func(s string) {
		tidy, ok := impl.TermTidy(s)
		wantNoText(t, tidy, ok, "TermTidy", s)
	})
}

func TestTermFlat(t *testing.T) {
	everyTerm(func(s, row string) {
		flat, ok := impl.TermFlat(s)
		wantText(t, flat, ok, "("+row+")", "TermFlat", s)
	})
	everyNoTerm(func(s string) {
		flat, ok := impl.TermFlat(s)
		wantNoText(t, flat, ok, "TermFlat", s)
	})
}

func TestTermArcs(t *testing.T) {
	everyTerm(func(s, row string) {
		sets, ok := impl.TermArcs(s)
		wantList(t, sets, ok, arcsTold(s), "TermArcs", s)
	})
	everyNoTerm(func(s string) {
		sets, ok := impl.TermArcs(s)
		wantNoList(t, sets, ok, "TermArcs", s)
	})
}

func TestTermDeep(t *testing.T) {
	everyTerm(func(s, row string) {
		deep, ok := impl.TermDeep(s)
		wantNumber(t, deep, ok, deepTold(s), "TermDeep", s)
	})
	everyNoTerm(func(s string) {
		deep, ok := impl.TermDeep(s)
		wantNoNumber(t, deep, ok, "TermDeep", s)
	})
}

// everyTwoTerms runs a check for two ring terms of as many letters and of unlike many, with the rings that they tell.
func everyTwoTerms(check func(s, r string, a, b []int)) {
	random := rand.New(rand.NewSource(99))
	terms, rows := knownTerms(), knownRows()
	told := func(s string) []int { return ringTold(rows[s]) }
	short := slices.DeleteFunc(slices.Clone(terms), func(s string) bool { return strings.Count(s, "-") > 1 || len(pointsIn(s)) > 4 })
	for _, s := range terms {
		for _, r := range []string{s, "(abc)", "-(abc)", short[random.Intn(len(short))], terms[random.Intn(len(terms))]} {
			check(s, r, told(s), told(r))
		}
	}
	for range 50000 {
		s, r := short[random.Intn(len(short))], short[random.Intn(len(short))]
		check(s, r, told(s), told(r))
	}
}

func TestTermSame(t *testing.T) {
	same, other := 0, 0
	everyTwoTerms(func(s, r string, a, b []int) {
		want := slices.Equal(a, b)
		wantBool(t, impl.TermSame(s, r), want, "TermSame", s, r)
		if want {
			same++
		} else if len(a) == len(b) {
			other++
		}
	})
	if same < 10000 || other < 10000 {
		t.Errorf("only %d two terms tell the same ring, and %d of as many letters do not", same, other)
	}
	everyNoTerm(func(s string) {
		wantBool(t, impl.TermSame(s, s) || impl.TermSame(s, "(abc)") || impl.TermSame("(abc)", s) || impl.TermSame("", s), false, "TermSame", s)
	})
}

func TestTermOf(t *testing.T) {
	everyRing(func(a []int) {
		s, ok := impl.TermOf(a)
		wantText(t, s, ok, "("+rowWith(a)+")", "TermOf", a)
	})
	for _, no := range noRings() {
		s, ok := impl.TermOf(no)
		wantNoText(t, s, ok, "TermOf", no)
	}
}

func TestTermsByHand(t *testing.T) {
	for _, c := range []struct {
		text, row string
		ring      []int
		tidy      string
		arcs      []int
		deep      int
	}{
		{"(abc)", "abc", []int{0, 1, 2}, "(abc)", nil, 1},
		{"(cab)", "cab", []int{0, 1, 2}, "(cab)", nil, 1},
		{"(acb)", "acb", []int{0, 2, 1}, "(acb)", nil, 1},
		{"-(abc)", "cba", []int{0, 2, 1}, "(cba)", nil, 1},
		{"--(abc)", "abc", []int{0, 1, 2}, "(abc)", nil, 1},
		{"---(abc)", "cba", []int{0, 2, 1}, "(cba)", nil, 1},
		{"(-abc)", "abc", []int{0, 1, 2}, "(abc)", nil, 1},
		{"(-a--b---c)", "abc", []int{0, 1, 2}, "(abc)", nil, 1},
		{"-(a-b--c)", "cba", []int{0, 2, 1}, "(cba)", nil, 1},
		{"((ab)c)", "abc", []int{0, 1, 2}, "((ab)c)", []int{3}, 2},
		{"-((ab)c)", "cba", []int{0, 2, 1}, "(c(ba))", []int{3}, 2},
		{"(-(ab)c)", "bac", []int{0, 2, 1}, "((ba)c)", []int{3}, 2},
		{"-(-(ab)c)", "cab", []int{0, 1, 2}, "(c(ab))", []int{3}, 2},
		{"(b(ca))", "bca", []int{0, 1, 2}, "(b(ca))", []int{5}, 2},
		{"(a(bc)d)", "abcd", []int{0, 1, 2, 3}, "(a(bc)d)", []int{6}, 2},
		{"(a(cb)d)", "acbd", []int{0, 2, 1, 3}, "(a(cb)d)", []int{6}, 2},
		{"-(a(bc)d)", "dcba", []int{0, 3, 2, 1}, "(d(cb)a)", []int{6}, 2},
		{"-(a-(bc)d)", "dbca", []int{0, 3, 1, 2}, "(d(bc)a)", []int{6}, 2},
		{"-(a--(bc)d)", "dcba", []int{0, 3, 2, 1}, "(d(cb)a)", []int{6}, 2},
		{"(-(ab)-(cd))", "badc", []int{0, 3, 2, 1}, "((ba)(dc))", []int{3, 12}, 2},
		{"-(-(ab)-(cd))", "cdab", []int{0, 1, 2, 3}, "((cd)(ab))", []int{3, 12}, 2},
		{"(((ab)c)d)", "abcd", []int{0, 1, 2, 3}, "(((ab)c)d)", []int{3, 7}, 3},
		{"-(((ab)c)d)", "dcba", []int{0, 3, 2, 1}, "(d(c(ba)))", []int{3, 7}, 3},
		{"-(-(-(ab)c)d)", "dbac", []int{0, 2, 3, 1}, "(d((ba)c))", []int{3, 7}, 3},
		{"(ca(db)e)", "cadbe", []int{0, 3, 1, 4, 2}, "(ca(db)e)", []int{10}, 2},
		{"((ab)(cd)(ef))", "abcdef", []int{0, 1, 2, 3, 4, 5}, "((ab)(cd)(ef))", []int{3, 12, 48}, 2},
		{"(abcdefg)", "abcdefg", []int{0, 1, 2, 3, 4, 5, 6}, "(abcdefg)", nil, 1},
		{"((((((ab)c)d)e)f)g)", "abcdefg", []int{0, 1, 2, 3, 4, 5, 6}, "((((((ab)c)d)e)f)g)", []int{3, 7, 15, 31, 63}, 6},
		{"(g(f(e(d(cb))))a)", "gfedcba", []int{0, 6, 5, 4, 3, 2, 1}, "(g(f(e(d(cb))))a)", []int{6, 14, 30, 62}, 5},
		{"-(-(ab)c-(d-(ef)g))", "dfegcab", []int{0, 1, 3, 5, 4, 6, 2}, "((d(fe)g)c(ab))", []int{3, 48, 120}, 3},
		{strings.Repeat("-", 55) + "(abc)", "cba", []int{0, 2, 1}, "(cba)", nil, 1},
		{strings.Repeat("-", 54) + "(abc)", "abc", []int{0, 1, 2}, "(abc)", nil, 1},
	} {
		wantBool(t, impl.TermIn(c.text), true, "TermIn", c.text)
		row, ok := impl.TermRow(c.text)
		wantText(t, row, ok, c.row, "TermRow", c.text)
		ring, ok := impl.TermRing(c.text)
		wantList(t, ring, ok, c.ring, "TermRing", c.text)
		tidy, ok := impl.TermTidy(c.text)
		wantText(t, tidy, ok, c.tidy, "TermTidy", c.text)
		flat, ok := impl.TermFlat(c.text)
		wantText(t, flat, ok, "("+c.row+")", "TermFlat", c.text)
		arcs, ok := impl.TermArcs(c.text)
		wantList(t, arcs, ok, c.arcs, "TermArcs", c.text)
		deep, ok := impl.TermDeep(c.text)
		wantNumber(t, deep, ok, c.deep, "TermDeep", c.text)
	}
	wantBool(t, impl.TermIn(strings.Repeat("-", 56)+"(abc)"), false, "TermIn", 61)
}

func TestTermOfAndSameByHand(t *testing.T) {
	for _, c := range []struct {
		a    []int
		want string
	}{
		{[]int{0, 1, 2}, "(abc)"},
		{[]int{0, 2, 1}, "(acb)"},
		{[]int{0, 2, 1, 3}, "(acbd)"},
		{[]int{0, 6, 5, 4, 3, 2, 1}, "(agfedcb)"},
	} {
		s, ok := impl.TermOf(c.a)
		wantText(t, s, ok, c.want, "TermOf", c.a)
	}
	for _, c := range []struct {
		s, r string
		want bool
	}{
		{"(abc)", "(abc)", true},
		{"(abc)", "(bca)", true},
		{"(abc)", "((ca)b)", true},
		{"(abc)", "-(cba)", true},
		{"(abc)", "(acb)", false},
		{"(abc)", "-(abc)", false},
		{"(abc)", "(abcd)", false},
		{"(abcdefg)", "(abcdef)", false},
		{"(a(bc)d)", "-(-(bc)ad)", true},
		{"(a(bc)d)", "(-(bc)ad)", false},
		{"(a(bc)d)", "-(a-(bc)d)", false},
		{"(a(bc)d)", "-((cb)ad)", true},
		{"(abc)", "", false},
		{"", "(abc)", false},
		{"", "", false},
		{"(abd)", "(abd)", false},
		{"(ab)", "(ab)", false},
	} {
		wantBool(t, impl.TermSame(c.s, c.r), c.want, "TermSame", c.s, c.r)
	}
}
