package regex_test

import (
	"boskage/api"
	"boskage/regex"
	"boskage/sample"
	"strings"
	"testing"
)

// badNames are not names of two letters.
func badNames() [][]string {
	return [][]string{
		nil, {}, {"a"}, {"a", "b", "c"}, {"a", "a"}, {"a", ""}, {"", "b"}, {"a", "1"}, {"a", "b "}, {"a", "b*"}, {"(", "b"}, {"[]", "b"},
		{"a", "abcdefghijklm"}, {"\u00e9", "b"}, make([]string, 100000),
	}
}

func letter(l int) api.Expr         { return sample.Letter(l) }
func concat(x, y api.Expr) api.Expr { return sample.Op(api.Concat, x, y) }
func either(x, y api.Expr) api.Expr { return sample.Op(api.Either, x, y) }
func star(x api.Expr) api.Expr      { return sample.Op(api.Star, x) }

// texts are expressions with their printed forms.
func texts() []struct {
	e    api.Expr
	text string
} {
	a, b, nothing, empty := letter(0), letter(1), sample.Op(api.Nothing), sample.Op(api.Empty)
	return []struct {
		e    api.Expr
		text string
	}{
		{nothing, "[]"},
		{empty, "()"},
		{a, "a"},
		{b, "b"},
		{star(a), "a*"},
		{star(star(a)), "a**"},
		{star(nothing), "[]*"},
		{star(empty), "()*"},
		{star(concat(a, b)), "(a b)*"},
		{star(either(a, b)), "(a | b)*"},
		{star(star(either(a, b))), "(a | b)**"},
		{concat(a, b), "a b"},
		{concat(concat(a, b), a), "a b a"},
		{concat(a, concat(b, a)), "a (b a)"},
		{concat(either(a, b), a), "(a | b) a"},
		{concat(a, either(a, b)), "a (a | b)"},
		{concat(star(a), star(b)), "a* b*"},
		{concat(a, star(concat(a, b))), "a (a b)*"},
		{concat(a, concat(b, concat(a, b))), "a (b (a b))"},
		{concat(concat(a, b), concat(a, b)), "a b (a b)"},
		{concat(empty, nothing), "() []"},
		{either(a, b), "a | b"},
		{either(either(a, b), a), "a | b | a"},
		{either(a, either(b, a)), "a | (b | a)"},
		{either(concat(a, b), concat(b, a)), "a b | b a"},
		{either(a, concat(b, either(a, b))), "a | b (a | b)"},
		{either(concat(a, star(b)), empty), "a b* | ()"},
		{either(star(a), either(star(b), nothing)), "a* | (b* | [])"},
		{either(either(a, b), either(a, b)), "a | b | (a | b)"},
		{concat(either(a, b), either(b, a)), "(a | b) (b | a)"},
	}
}

func checkParse(t *testing.T, what string, got api.Expr, err api.Errno, want api.Expr, wantErr api.Errno) {
	t.Helper()
	if err != wantErr || !sample.EqualExpressions(got, want) {
		t.Errorf("%s: got %s, error %d, want %s, error %d", what, sample.ShowExpression(got), err, sample.ShowExpression(want), wantErr)
	}
}

// P11.7
func TestPrint(t *testing.T) {
	long := []string{"abcdefghijkl", "B9"}
	for _, test := range texts() {
		if got, err := regex.Print(2, letters[:2], test.e); err != api.OK || got != test.text {
			t.Errorf("%s: got %q, error %d, want %q", sample.ShowExpression(test.e), got, err, test.text)
		}
		want := strings.NewReplacer("a", long[0], "b", long[1]).Replace(test.text)
		if got, err := regex.Print(2, long, test.e); err != api.OK || got != want {
			t.Errorf("%s: got %q, error %d, want %q", sample.ShowExpression(test.e), got, err, want)
		}
	}
	for _, e := range []api.Expr{sample.Op(api.Nothing), sample.Op(api.Empty)} {
		if got, err := regex.Print(0, nil, e); err != api.OK || len(got) != 2 {
			t.Errorf("no letters: %q, error %d", got, err)
		}
	}
}

// P11.7: ErrArg comes before ErrForm.
func TestPrintErrors(t *testing.T) {
	for i, names := range badNames() {
		if got, err := regex.Print(2, names, letter(0)); err != api.ErrForm || got != "" {
			t.Errorf("names %d: %q, error %d", i, got, err)
		}
		if got, err := regex.Print(2, names, letter(2)); err != api.ErrArg || got != "" {
			t.Errorf("names %d: %q, error %d", i, got, err)
		}
	}
	for _, n := range badNumbers {
		if got, err := regex.Print(n, nil, sample.Op(api.Empty)); err != api.ErrArg || got != "" {
			t.Errorf("%d letters: %q, error %d", n, got, err)
		}
	}
}

// P11.7: the printed forms, with and without blanks.
func TestParse(t *testing.T) {
	for _, test := range texts() {
		loose := strings.NewReplacer("(", " ( ", ")", " )  ", "[", "[  ", "*", "  * ", "|", "  |").Replace(test.text) + "   "
		tight := strings.NewReplacer(" | ", "|", ") ", ")", " (", "(", "* ", "*", "] ", "]", " [", "[").Replace(test.text)
		for _, text := range []string{test.text, loose, tight, "(" + test.text + ")", "((  " + test.text + "))"} {
			got, err := regex.Parse(2, letters[:2], text)
			checkParse(t, text, got, err, test.e, api.OK)
		}
	}
	for _, text := range []string{"[]", "()", "( )", " [ ] "} {
		got, err := regex.Parse(0, nil, text)
		want := sample.Op(api.Empty)
		if strings.Contains(text, "[") {
			want = sample.Op(api.Nothing)
		}
		checkParse(t, text, got, err, want, api.OK)
	}
}

// P11.7: what is not a printed form, and yet follows the syntax.
func TestParseSyntax(t *testing.T) {
	a, b, empty := letter(0), letter(1), sample.Op(api.Empty)
	tests := []struct {
		text string
		want api.Expr
	}{
		{"(a)", a},
		{"(a)*", star(a)},
		{"(a*)*", star(star(a))},
		{"((a))b", concat(a, b)},
		{"a(b)", concat(a, b)},
		{"a()b", concat(concat(a, empty), b)},
		{"a*b", concat(star(a), b)},
		{"a*b*", concat(star(a), star(b))},
		{"a*(b)*", concat(star(a), star(b))},
		{"a|b a", either(a, concat(b, a))},
		{"a b|a", either(concat(a, b), a)},
		{"a|b*", either(a, star(b))},
		{"a b*", concat(a, star(b))},
		{"(a b)|(b a)", either(concat(a, b), concat(b, a))},
		{"(a|b)|a", either(either(a, b), a)},
		{"(a b) a", concat(concat(a, b), a)},
		{"()()", concat(empty, empty)},
		{"[][]", concat(sample.Op(api.Nothing), sample.Op(api.Nothing))},
		{"()*[]|()", either(concat(star(empty), sample.Op(api.Nothing)), empty)},
	}
	for _, test := range tests {
		got, err := regex.Parse(2, letters[:2], test.text)
		checkParse(t, test.text, got, err, test.want, api.OK)
	}
	names := []string{"a", "aa", "a1", "A", "abcdefghijkl"}
	got, err := regex.Parse(5, names, "aa a|A a1*abcdefghijkl")
	checkParse(t, "long names", got, err, either(concat(letter(1), a), concat(concat(letter(3), star(letter(2))), letter(4))), api.OK)
}

// P11.7
func TestParseBadForm(t *testing.T) {
	texts := []string{
		"", " ", "c", "A", "ab", "a1", "1", "*", "*a", "|", "|a", "a|", "a||b", "a | | b", "a|*", "(", ")", "(a", "a)", "(a))", "((a)", "(|a)", "(a|)", "(*)", "[", "]", "[a]", "[()]", "[", "a[", "a]",
		"[ ", "] [", "[)", "(]", ")(", "a+", "a?", "a.b", "a,b", "a\tb", "a\nb", "a\n", "\x00", "a\x00", "\u00e9", "a\u00a0b", "\xff", "a-", "#", "{}", "a \\ b", "a*|", "a* | *", "(a b", "a b)", "() )",
		strings.Repeat("(", api.MaxText), strings.Repeat("a", api.MaxText), strings.Repeat(")", api.MaxText), strings.Repeat("a|", api.MaxText/2), strings.Repeat("(a ", 5000), strings.Repeat("*", api.MaxText),
	}
	for _, text := range texts {
		got, err := regex.Parse(2, letters[:2], text)
		checkParse(t, text, got, err, api.Expr{}, api.ErrForm)
	}
	got, err := regex.Parse(0, nil, "a")
	checkParse(t, "no letters", got, err, api.Expr{}, api.ErrForm)
}

// P11.7: the limits, and the order of the errors.
func TestParseLimits(t *testing.T) {
	parse := func(what, text string, want api.Expr, wantErr api.Errno) {
		t.Helper()
		got, err := regex.Parse(2, letters[:2], text)
		checkParse(t, what, got, err, want, wantErr)
	}
	blanks := strings.Repeat(" ", api.MaxText)
	parse("MaxText bytes", "a"+blanks[1:], letter(0), api.OK)
	parse("MaxText + 1 bytes", "a"+blanks, api.Expr{}, api.ErrFull)
	parse("too many bytes, and no expression", "|"+blanks, api.Expr{}, api.ErrFull)
	parse("far too many bytes", strings.Repeat("(", 1<<20), api.Expr{}, api.ErrFull)
	stars := letter(0)
	for range api.MaxExpr - 1 {
		stars = star(stars)
	}
	parse("MaxExpr nodes", "a"+strings.Repeat("*", api.MaxExpr-1), stars, api.OK)
	parse("MaxExpr + 1 nodes", "a"+strings.Repeat("*", api.MaxExpr), api.Expr{}, api.ErrFull)
	parse("20 letters", strings.Repeat("a ", 20), repeat(letter(0), 20), api.OK)
	parse("21 letters", strings.Repeat("a ", 21), api.Expr{}, api.ErrFull)
	parse("MaxExpr nodes of all kinds", strings.Repeat("b ", 20)+"*", concat(repeat(letter(1), 19), star(letter(1))), api.OK)
	parse("many stars", "a"+strings.Repeat("*", api.MaxText-1), api.Expr{}, api.ErrFull)
	parse("many nodes, and no expression", strings.Repeat("a ", 8000)+")", api.Expr{}, api.ErrForm)
	parse("many parentheses", strings.Repeat("(", 8000)+"b"+strings.Repeat(")", 8000), letter(1), api.OK)
	parse("many parentheses, one too many", strings.Repeat("(", 8000)+"b"+strings.Repeat(")", 8001), api.Expr{}, api.ErrForm)
}

// P11.7: ErrArg, ErrForm for the names, ErrFull for the length, in this order.
func TestParseErrors(t *testing.T) {
	long := strings.Repeat("a", api.MaxText+1)
	for _, text := range []string{"", "a", "()", "|", long} {
		for _, n := range badNumbers {
			for _, names := range [][]string{nil, {"a"}, letters[:2]} {
				got, err := regex.Parse(n, names, text)
				checkParse(t, "bad number of letters", got, err, api.Expr{}, api.ErrArg)
			}
		}
		for _, names := range badNames() {
			got, err := regex.Parse(2, names, text)
			checkParse(t, "bad names", got, err, api.Expr{}, api.ErrForm)
		}
	}
	got, err := regex.Parse(2, letters[:2], long)
	checkParse(t, "long text", got, err, api.Expr{}, api.ErrFull)
}

// P11.9, P10
func TestRoundTrip(t *testing.T) {
	check := func(n int, names []string, e api.Expr) {
		t.Helper()
		text, err := regex.Print(n, names, e)
		if err != api.OK {
			t.Fatalf("%s: error %d", sample.ShowExpression(e), err)
		}
		got, err := regex.Parse(n, names, text)
		checkParse(t, text, got, err, e, api.OK)
	}
	for _, e := range sample.Expressions(2, 6) {
		check(2, letters[:2], e)
	}
	long := []string{"abcdefghijkl", "abcdefghijkm", "Z", "z", "zz9", "Aa", "aA", "x012345678", "x", "x0", "x00", "y"}
	for _, e := range random(12, 2000, api.MaxExpr) {
		check(12, long, e)
	}
}
