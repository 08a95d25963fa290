package tree_test

import (
	"boskage/api"
	"boskage/tree"
	"math/rand"
	"strings"
	"testing"
)

// P1.7
func TestName(t *testing.T) {
	for _, s := range []string{"a", "z", "A", "Z", "a0", "b9", "Ab1c", "aaaaaaaaaaaa", "Z23456789012"} {
		if !tree.Name(s) {
			t.Errorf("%q is a name", s)
		}
	}
	for _, s := range []string{
		"", "0", "9a", "_", "a_", "_a", "a b", " a", "a ", "a-b", "a.b", "aaaaaaaaaaaaa", "\u00e9", "a\u00e9", "a\x00",
		"a(", ",", "@", "[", "`", "{", "a@", "a[", "a`", "a{", "a/", "a:", "\xff", strings.Repeat("a", 100000),
	} {
		if tree.Name(s) {
			t.Errorf("%q is not a name", s)
		}
	}
}

// badNames are not names of small.
func badNames() [][]string {
	return [][]string{
		nil,
		{},
		{"a", "b", "g", "f"},
		{"a", "b", "g", "f", "h", "i"},
		{"a", "b", "g", "f", "a"},
		{"a", "b", "b", "f", "h"},
		{"a", "b", "g", "f", ""},
		{"a", "b", "g", "f", "1"},
		{"a", "b", "g", "f", "h "},
		{"a", "b", "g", "f", "abcdefghijklm"},
		{"(", "b", "g", "f", "h"},
		make([]string, 100000),
	}
}

// P1.6
func TestPrint(t *testing.T) {
	names := []string{"A0", "abcdefghijkl", "g", "f", "h"}
	tests := []struct{ text, want string }{
		{"a", "A0"},
		{"b", "abcdefghijkl"},
		{"g(a)", "g(A0)"},
		{"f(a, b)", "f(A0, abcdefghijkl)"},
		{"h(g(a), f(b, a), a)", "h(g(A0), f(abcdefghijkl, A0), A0)"},
	}
	for _, test := range tests {
		if got, e := tree.Print(small, names, read(test.text)); e != api.OK || got != test.want {
			t.Errorf("%s: got %q, error %d, want %q", test.text, got, e, test.want)
		}
	}
	long := strings.Repeat("g(", api.MaxSize-1) + "a" + strings.Repeat(")", api.MaxSize-1)
	if got, e := tree.Print(small, smallNames, chain(api.MaxSize)); e != api.OK || got != long {
		t.Errorf("chain: %q, error %d", got, e)
	}
}

// P1.6: ErrArg comes before ErrForm.
func TestPrintErrors(t *testing.T) {
	for i, names := range badNames() {
		if got, e := tree.Print(small, names, read("a")); e != api.ErrForm || got != "" {
			t.Errorf("names %d: %q, error %d", i, got, e)
		}
		for j, x := range badTrees() {
			if got, e := tree.Print(small, names, x); e != api.ErrArg || got != "" {
				t.Errorf("names %d, tree %d: %q, error %d", i, j, got, e)
			}
		}
	}
	for _, x := range badTrees() {
		if got, e := tree.Print(small, smallNames, x); e != api.ErrArg || got != "" {
			t.Errorf("%q, error %d", got, e)
		}
	}
	for _, a := range badAlphabets() {
		if got, e := tree.Print(a, smallNames, read("a")); e != api.ErrArg || got != "" {
			t.Errorf("%v: %q, error %d", a, got, e)
		}
	}
}

// P1.6
func TestParse(t *testing.T) {
	tests := []struct{ text, want string }{
		{"a", "a"},
		{"  b  ", "b"},
		{"g(a)", "g(a)"},
		{"g  (  a  )  ", "g(a)"},
		{"f(a, b)", "f(a, b)"},
		{"f(a,b)", "f(a, b)"},
		{"f(a ,   b)", "f(a, b)"},
		{" f ( a , f(g(b), a) ) ", "f(a, f(g(b), a))"},
		{"h(a, g(b), f(a, b))", "h(a, g(b), f(a, b))"},
		{"h(h(a,a,b),a,a)", "h(h(a, a, b), a, a)"},
	}
	for _, test := range tests {
		got, e := tree.Parse(small, smallNames, test.text)
		checkTree(t, test.text, got, e, read(test.want), api.OK)
		checkFresh(t, test.text, got)
	}
	names := []string{"a", "aa", "a1", "A", "abcdefghijkl"}
	got, e := tree.Parse(small, names, "A(aa, abcdefghijkl(a, a1(a), aa))")
	checkTree(t, "long names", got, e, read("f(b, h(a, g(a), b))"), api.OK)
}

// P1.6
func TestParseBadForm(t *testing.T) {
	texts := []string{
		"", " ", "   ", "c", "A", "ab", "a1", "1", "a a", "a b", "a,", ",a", ",", "(", ")", "()", "(a)", "a)", "a(", "a()", "a( )", "a(a)",
		"g", "g a", "g(", "g()", "g(a", "g(a,", "g(a,)", "g(a, b)", "g(,a)", "g((a))", "g(a))", "g(a)a", "g(a) a", "g(a)(a)", "g[a]", "g{a}",
		"f", "f(a)", "f(a b)", "f(a,)", "f(a,,b)", "f(a, b", "f(a, b,)", "f(a, b, a)", "f(a; b)", "f(a)(b)", "f(a, b), a", "f(a, (b))",
		"h(a, b)", "h(a, b, a, b)", "h(a, b a)", "f(a, g)", "f(g, a)", "g(c)",
		"\ta", "a\n", "g(\ta)", "f(a,\nb)", "a\x00", "\x00", "a\u00a0", "\u00e9", "g\u00e9(a)", "\xff", "-", "a-", "g-(a)", "#", "f(a. b)",
		strings.Repeat("g(", 8000), strings.Repeat("(", api.MaxText), strings.Repeat("a", api.MaxText), strings.Repeat(" ", api.MaxText),
	}
	for _, text := range texts {
		got, e := tree.Parse(small, smallNames, text)
		checkTree(t, text, got, e, none, api.ErrForm)
	}
	if got, e := tree.Parse(api.Alphabet{}, nil, "a"); e != api.ErrForm || !same(got, none) {
		t.Errorf("no symbols: %v, error %d", got, e)
	}
}

// chainText is the printed form of chain(n).
func chainText(n int) string {
	return strings.Repeat("g(", n-1) + "a" + strings.Repeat(")", n-1)
}

// P1.6: the limits, and the order of the errors.
func TestParseLimits(t *testing.T) {
	parse := func(what, text string, want api.Tree, wantE api.Errno) {
		t.Helper()
		got, e := tree.Parse(small, smallNames, text)
		checkTree(t, what, got, e, want, wantE)
	}
	blanks := strings.Repeat(" ", api.MaxText)
	parse("MaxText bytes", "a"+blanks[1:], read("a"), api.OK)
	parse("MaxText + 1 bytes", "a"+blanks, none, api.ErrFull)
	parse("too many bytes, and no tree", "("+blanks, none, api.ErrFull)
	parse("far too many bytes", strings.Repeat("g(", 1<<20), none, api.ErrFull)
	parse("MaxSize nodes", chainText(api.MaxSize), chain(api.MaxSize), api.OK)
	parse("MaxSize + 1 nodes", chainText(api.MaxSize+1), none, api.ErrFull)
	parse("many nodes", chainText(5000), none, api.ErrFull)
	parse("many nodes, and no tree", chainText(5000)+")", none, api.ErrForm)
	parse("many nodes without an end", strings.Repeat("g(", 400)+"a", none, api.ErrForm)
	parse("many nodes in two subtrees", "f("+chainText(150)+","+chainText(150)+")", none, api.ErrFull)
	parse("as many as possible", "f("+chainText(150)+","+chainText(149)+")", node(3, chain(150), chain(149)), api.OK)
}

// P1.6: ErrArg, ErrForm for the names, ErrFull for the length, in this order.
func TestParseErrors(t *testing.T) {
	long := strings.Repeat("a", api.MaxText+1)
	for _, text := range []string{"", "a", "g(a)", "(", long} {
		for _, a := range badAlphabets() {
			for _, names := range [][]string{nil, {"a"}, smallNames} {
				got, e := tree.Parse(a, names, text)
				checkTree(t, "bad alphabet", got, e, none, api.ErrArg)
			}
		}
		for _, names := range badNames() {
			got, e := tree.Parse(small, names, text)
			checkTree(t, "bad names", got, e, none, api.ErrForm)
		}
	}
	got, e := tree.Parse(small, smallNames, long)
	checkTree(t, "long text", got, e, none, api.ErrFull)
}

// randomTree makes a tree over small with at most the given number of nodes.
func randomTree(r *rand.Rand, most int) api.Tree {
	sym := r.Intn(len(small.Ranks))
	if small.Ranks[sym] >= most {
		return node(r.Intn(2))
	}
	t := node(sym)
	rest := most - 1
	for i := range small.Ranks[sym] {
		later := small.Ranks[sym] - 1 - i
		kid := randomTree(r, 1+r.Intn(rest-later))
		rest -= nodes(kid)
		t.Kids = append(t.Kids, kid)
	}
	return t
}

// P1.10, P10
func TestRoundTrip(t *testing.T) {
	var trees []api.Tree
	for n := 1; n <= 5; n++ {
		trees = append(trees, everyOver(small, n)...)
	}
	r := rand.New(rand.NewSource(1))
	for range 300 {
		trees = append(trees, randomTree(r, api.MaxSize))
	}
	trees = append(trees, chain(api.MaxSize))
	long := []string{"abcdefghijkl", "abcdefghijkm", "Z", "z", "zz9"}
	for _, x := range trees {
		for _, names := range [][]string{smallNames, long} {
			text, e := tree.Print(small, names, x)
			if e != api.OK {
				t.Fatalf("error %d", e)
			}
			got, e := tree.Parse(small, names, text)
			checkTree(t, text, got, e, x, api.OK)
			if again, e := tree.Print(small, names, got); e != api.OK || again != text {
				t.Errorf("%s: printed as %s, error %d", text, again, e)
			}
		}
		if text, _ := tree.Print(small, smallNames, x); text != show(x) {
			t.Errorf("got %s, want %s", text, show(x))
		}
	}
}
