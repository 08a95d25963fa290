package hedge_test

import (
	"boskage/api"
	"boskage/hedge"
	"math/rand"
	"strings"
	"testing"
)

// badNames are not names of two labels.
func badNames() [][]string {
	return [][]string{
		nil,
		{},
		{"a"},
		{"a", "b", "c"},
		{"a", "a"},
		{"a", ""},
		{"a", "1"},
		{"a", "b "},
		{"a", "b-"},
		{"(", "b"},
		{"a", "abcdefghijklm"},
		{"\u00e9", "b"},
		make([]string, 100000),
	}
}

// P2.6
func TestPrint(t *testing.T) {
	long := []string{"abcdefghijkl", "B9"}
	tests := []struct{ text, want string }{
		{"", ""},
		{"a", "abcdefghijkl"},
		{"b a", "B9 abcdefghijkl"},
		{"b(b)", "B9(B9)"},
		{"a(b b) b", "abcdefghijkl(B9 B9) B9"},
		{"b(b(b a) b) b(b(b))", "B9(B9(B9 abcdefghijkl) B9) B9(B9(B9))"},
	}
	for _, test := range tests {
		if got, e := hedge.Print(2, long, read(test.text)); e != api.OK || got != test.want {
			t.Errorf("%s: got %q, error %d", test.text, got, e)
		}
		if got, e := hedge.Print(2, ab, read(test.text)); e != api.OK || got != test.text {
			t.Errorf("%s: got %q, error %d", test.text, got, e)
		}
	}
	if got, e := hedge.Print(1, []string{"a"}, row(api.MaxSize)); e != api.OK || got != strings.Repeat("a ", api.MaxSize-1)+"a" {
		t.Errorf("row: %q, error %d", got, e)
	}
}

// P2.6: ErrArg comes before ErrForm.
func TestPrintErrors(t *testing.T) {
	for i, names := range badNames() {
		for _, h := range [][]api.Node{nil, read("a")} {
			if got, e := hedge.Print(2, names, h); e != api.ErrForm || got != "" {
				t.Errorf("names %d: %q, error %d", i, got, e)
			}
		}
		for j, h := range badHedges() {
			if got, e := hedge.Print(2, names, h); e != api.ErrArg || got != "" {
				t.Errorf("names %d, hedge %d: %q, error %d", i, j, got, e)
			}
		}
	}
	for i, h := range badHedges() {
		if got, e := hedge.Print(2, ab, h); e != api.ErrArg || got != "" {
			t.Errorf("hedge %d: %q, error %d", i, got, e)
		}
	}
	for _, n := range badLabels {
		if got, e := hedge.Print(n, nil, nil); e != api.ErrArg || got != "" {
			t.Errorf("%d labels: %q, error %d", n, got, e)
		}
	}
}

// P2.6
func TestParse(t *testing.T) {
	tests := []struct{ text, want string }{
		{"", ""},
		{"a", "a"},
		{"  b  ", "b"},
		{"a b", "a b"},
		{"a    b", "a b"},
		{"a(b b) b", "a(b b) b"},
		{" a ( b   b ) b ", "a(b b) b"},
		{"a(b)b", "a(b) b"},
		{"a(b)b(a)", "a(b) b(a)"},
		{"a b(a)", "a b(a)"},
		{"a()", "a"},
		{"a( )", "a"},
		{" b ( ) ", "b"},
		{"a(b()b( )a)", "a(b b a)"},
		{"a()b", "a b"},
		{"a(b(a(b(a))))", "a(b(a(b(a))))"},
	}
	for _, test := range tests {
		got, e := hedge.Parse(2, ab, test.text)
		checkHedge(t, test.text, got, e, read(test.want), api.OK)
		if shared(got, map[*api.Node]bool{}) {
			t.Errorf("%s: memory is shared", test.text)
		}
	}
	names := []string{"a", "aa", "a1", "A", "abcdefghijkl"}
	got, e := hedge.Parse(5, names, "A(aa abcdefghijkl a(a1)) a1")
	checkHedge(t, "long names", got, e, read("d(b e a(c)) c"), api.OK)
}

// P2.6
func TestParseBadForm(t *testing.T) {
	texts := []string{
		"c", "A", "ab", "a1", "1", "a ab", "a, b", "a,b", ",", "(", ")", "()", "(a)", "a)", "a(", "a(b", "a(b))", "a((b))", "a(b)(b)", "a() ()", "a ) b",
		"a (b", "((", "))", ")(", "a(b c)", "a[b]", "a{b}", "a/b", "a\tb", "a\nb", "\ta", "a\n", "a(\t)", "a\x00", "\x00", "\u00e9", "a\u00a0b", "a-", "#", "\xff",
		strings.Repeat("a(", 8000), strings.Repeat("(", api.MaxText), strings.Repeat("a", api.MaxText), strings.Repeat(")", api.MaxText),
	}
	for _, text := range texts {
		got, e := hedge.Parse(2, ab, text)
		checkHedge(t, text, got, e, nil, api.ErrForm)
	}
}

// chainText is the printed form of chain(n).
func chainText(n int) string {
	return strings.Repeat("a(", n-1) + "a" + strings.Repeat(")", n-1)
}

// P2.6: the limits, and the order of the errors.
func TestParseLimits(t *testing.T) {
	parse := func(what, text string, want []api.Node, wantE api.Errno) {
		t.Helper()
		got, e := hedge.Parse(2, ab, text)
		checkHedge(t, what, got, e, want, wantE)
	}
	blanks := strings.Repeat(" ", api.MaxText)
	parse("MaxText bytes", "a"+blanks[1:], read("a"), api.OK)
	parse("MaxText + 1 bytes", "a"+blanks, nil, api.ErrFull)
	parse("too many bytes, and no hedge", "("+blanks, nil, api.ErrFull)
	parse("far too many bytes", strings.Repeat("a(", 1<<20), nil, api.ErrFull)
	parse("MaxSize nodes", chainText(api.MaxSize), forest(chain(api.MaxSize)), api.OK)
	parse("MaxSize + 1 nodes", chainText(api.MaxSize+1), nil, api.ErrFull)
	parse("MaxSize trees", strings.Repeat("a ", api.MaxSize), row(api.MaxSize), api.OK)
	parse("MaxSize + 1 trees", strings.Repeat("a ", api.MaxSize+1), nil, api.ErrFull)
	parse("two chains", chainText(150)+chainText(150), forest(chain(150), chain(150)), api.OK)
	parse("two longer chains", chainText(150)+chainText(151), nil, api.ErrFull)
	parse("many nodes", strings.Repeat("a ", api.MaxText/2), nil, api.ErrFull)
	parse("many nodes, and no hedge", strings.Repeat("a ", 8000)+")", nil, api.ErrForm)
	parse("many nodes without an end", strings.Repeat("a(", 400)+"a", nil, api.ErrForm)
}

// P2.6: ErrRange, ErrForm for the names, ErrFull for the length, in this order.
func TestParseErrors(t *testing.T) {
	long := strings.Repeat("a", api.MaxText+1)
	for _, text := range []string{"", "a", "a(b)", "(", long} {
		for _, n := range badLabels {
			for _, names := range [][]string{nil, {"a"}, ab} {
				got, e := hedge.Parse(n, names, text)
				checkHedge(t, "bad number of labels", got, e, nil, api.ErrRange)
			}
		}
		for _, names := range badNames() {
			got, e := hedge.Parse(2, names, text)
			checkHedge(t, "bad names", got, e, nil, api.ErrForm)
		}
	}
	got, e := hedge.Parse(2, ab, long)
	checkHedge(t, "long text", got, e, nil, api.ErrFull)
}

// randomHedge makes a hedge over eight labels with exactly n nodes.
func randomHedge(r *rand.Rand, n int) []api.Node {
	var h []api.Node
	for n > 0 {
		below := r.Intn(n)
		h = append(h, node(r.Intn(api.MaxLabels), randomHedge(r, below)...))
		n -= below + 1
	}
	return h
}

// P2.8, P10
func TestRoundTrip(t *testing.T) {
	hedges := upto(5)
	r := rand.New(rand.NewSource(2))
	for range 300 {
		hedges = append(hedges, randomHedge(r, r.Intn(api.MaxSize+1)))
	}
	hedges = append(hedges, row(api.MaxSize), forest(chain(api.MaxSize)))
	short := []string{"a", "b", "c", "d", "e", "f", "g", "h"}
	long := []string{"abcdefghijkl", "abcdefghijkm", "Z", "z", "zz9", "Aa", "aA", "x012345678"}
	for _, h := range hedges {
		for _, names := range [][]string{short, long} {
			text, e := hedge.Print(api.MaxLabels, names, h)
			if e != api.OK {
				t.Fatalf("error %d", e)
			}
			got, e := hedge.Parse(api.MaxLabels, names, text)
			checkHedge(t, text, got, e, h, api.OK)
		}
		if text, _ := hedge.Print(api.MaxLabels, short, h); text != show(h) {
			t.Errorf("got %s, want %s", text, show(h))
		}
	}
}
