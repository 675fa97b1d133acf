package tests

import (
	"slices"
	"strings"
	"testing"

	"loop.example/ringorders/impl"
)

// mustText returns a text that a call returned with true.
func mustText(t *testing.T, s string, ok bool) string {
	t.Helper()
	if !ok {
		t.Fatal("a call failed for valid arguments")
	}
	return s
}

// mustRow returns TermRow of a ring term.
func mustRow(t *testing.T, s string) string {
	t.Helper()
	row, ok := impl.TermRow(s)
	return mustText(t, row, ok)
}

// mustRing returns TermRing of a ring term.
func mustRing(t *testing.T, s string) []int {
	t.Helper()
	a, ok := impl.TermRing(s)
	return mustList(t, a, ok)
}

// mustTidy returns TermTidy of a ring term.
func mustTidy(t *testing.T, s string) string {
	t.Helper()
	tidy, ok := impl.TermTidy(s)
	return mustText(t, tidy, ok)
}

// mustSets returns TermArcs of a ring term.
func mustSets(t *testing.T, s string) []int {
	t.Helper()
	sets, ok := impl.TermArcs(s)
	return mustList(t, sets, ok)
}

// mustDeep returns TermDeep of a ring term.
func mustDeep(t *testing.T, s string) int {
	t.Helper()
	deep, ok := impl.TermDeep(s)
	return mustNumber(t, deep, ok)
}

func TestP88(t *testing.T) {
	everyTerm(func(s, row string) {
		wantBool(t, impl.TermIn(s), true, "TermIn", s)
		wantBool(t, impl.TermIn("-"+s), len(s) < 60, "TermIn with - in front", s)
		for _, behind := range []string{"(", ")", "a", "-", "d", "(abc)"} {
			wantBool(t, impl.TermIn(s+behind), false, "TermIn with more behind", s, behind)
		}
	})
	for _, n := range []int{54, 55, 56} {
		wantBool(t, impl.TermIn(strings.Repeat("-", n)+"(abc)"), n <= 55, "TermIn with signs", n)
		wantBool(t, impl.TermIn("(a"+strings.Repeat("-", n)+"bc)"), n <= 55, "TermIn with signs", n)
	}
	everyNoTerm(func(s string) { wantBool(t, impl.TermIn(s), false, "TermIn", s) })
}

func TestP89(t *testing.T) {
	everyTerm(func(s, _ string) {
		row := mustRow(t, s)
		wantNumber(t, len(row), true, len(mustRing(t, s)), "the length of TermRow", s)
		wantText(t, mustRow(t, "("+row+")"), true, row, "TermRow of it in brackets", s)
	})
	everyNoTerm(func(s string) {
		row, ok := impl.TermRow(s)
		wantNoText(t, row, ok, "TermRow", s)
	})
}

func TestP90(t *testing.T) {
	everyTerm(func(s, row string) {
		a := mustRing(t, s)
		wantBool(t, impl.RingIn(a), true, "RingIn of TermRing", s)
		if len(s) < 60 {
			wantList(t, mustBack(t, mustRing(t, "-"+s)), true, a, "RingBack of TermRing with - in front", s)
		}
		if len(s) < 59 {
			wantList(t, mustRing(t, "--"+s), true, a, "TermRing with -- in front", s)
		}
	})
	everyNoTerm(func(s string) {
		a, ok := impl.TermRing(s)
		wantNoList(t, a, ok, "TermRing", s)
	})
}

func TestP91(t *testing.T) {
	everyTerm(func(s, row string) {
		tidy := mustTidy(t, s)
		wantBool(t, strings.Contains(tidy, "-"), false, "TermTidy has a sign", s)
		wantNumber(t, len(tidy), true, len(s)-strings.Count(s, "-"), "the length of TermTidy", s)
		wantText(t, mustTidy(t, tidy), true, tidy, "TermTidy of itself", s)
		wantText(t, mustRow(t, tidy), true, mustRow(t, s), "TermRow of TermTidy", s)
		wantNumber(t, mustDeep(t, tidy), true, mustDeep(t, s), "TermDeep of TermTidy", s)
		if tidy != s {
			wantBool(t, strings.Contains(s, "-"), true, "TermTidy is another term", s)
		}
	})
	everyNoTerm(func(s string) {
		tidy, ok := impl.TermTidy(s)
		wantNoText(t, tidy, ok, "TermTidy", s)
	})
}

func TestP92(t *testing.T) {
	everyTerm(func(s, row string) {
		got, ok := impl.TermFlat(s)
		flat := mustText(t, got, ok)
		wantNumber(t, len(flat), true, len(mustRow(t, s))+2, "the length of TermFlat", s)
		wantNumber(t, mustDeep(t, flat), true, 1, "TermDeep of TermFlat", s)
		wantList(t, mustSets(t, flat), true, nil, "TermArcs of TermFlat", s)
		wantBool(t, impl.TermSame(flat, s), true, "TermSame of TermFlat", s)
		wantList(t, mustRing(t, flat), true, mustRing(t, s), "TermRing of TermFlat", s)
	})
	everyNoTerm(func(s string) {
		flat, ok := impl.TermFlat(s)
		wantNoText(t, flat, ok, "TermFlat", s)
	})
}

func TestP93(t *testing.T) {
	nested := 0
	everyTerm(func(s, row string) {
		sets, a := mustSets(t, s), mustRing(t, s)
		wantAscending(t, sets, "TermArcs", s)
		for _, set := range sets {
			wantBool(t, impl.ArcIs(a, set), true, "ArcIs of TermArcs", s, set)
		}
		wantList(t, mustSets(t, mustTidy(t, s)), true, sets, "TermArcs of TermTidy", s)
		wantNumber(t, len(sets), true, strings.Count(s, "(")-1, "the length of TermArcs", s)
		if len(sets) >= 2 {
			nested++
		}
	})
	if nested < 1000 {
		t.Errorf("only %d terms have two sets at least", nested)
	}
	everyNoTerm(func(s string) {
		sets, ok := impl.TermArcs(s)
		wantNoList(t, sets, ok, "TermArcs", s)
	})
}

func TestP94(t *testing.T) {
	everyTwoTerms(func(s, r string, _, _ []int) {
		same := impl.TermSame(s, r)
		wantBool(t, impl.TermSame(r, s), same, "TermSame exchanged", s, r)
		wantBool(t, slices.Equal(mustRing(t, s), mustRing(t, r)), same, "TermRing is the same", s, r)
		if same && len(r) < 60 {
			wantBool(t, impl.TermSame(s, "-"+r), false, "TermSame with - in front", s, r)
		}
	})
	everyTerm(func(s, row string) {
		wantBool(t, impl.TermSame(s, s), true, "TermSame of itself", s)
		wantBool(t, impl.TermSame(s, "-"+mustTidy(t, s)), false, "TermSame of TermTidy with - in front", s)
		if len(s) < 59 {
			wantBool(t, impl.TermSame("--"+s, s), true, "TermSame with -- in front", s)
		}
	})
	everyNoTerm(func(s string) {
		wantBool(t, impl.TermSame(s, s) || impl.TermSame(s, "(abc)") || impl.TermSame("(abc)", s), false, "TermSame", s)
	})
}

func TestP95(t *testing.T) {
	everyRing(func(a []int) {
		got, ok := impl.TermOf(a)
		s := mustText(t, got, ok)
		wantList(t, mustRing(t, s), true, a, "TermRing of TermOf", a)
		flat, ok := impl.TermFlat(s)
		wantText(t, flat, ok, s, "TermFlat of TermOf", a)
		wantBool(t, strings.HasPrefix(s, "(a"), true, "TermOf begins with a", a)
	})
	for _, no := range noRings() {
		s, ok := impl.TermOf(no)
		wantNoText(t, s, ok, "TermOf", no)
	}
}

func TestP96(t *testing.T) {
	most := 0
	everyTerm(func(s, row string) {
		deep := mustDeep(t, s)
		if deep < 1 || deep > len(mustRow(t, s))-1 {
			t.Fatalf("TermDeep of %q is %d", s, deep)
		}
		most = max(most, deep)
	})
	wantNumber(t, most, true, impl.PointsMax-1, "the greatest TermDeep")
	everyNoTerm(func(s string) {
		deep, ok := impl.TermDeep(s)
		wantNoNumber(t, deep, ok, "TermDeep", s)
	})
}
