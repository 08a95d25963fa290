package regex_test

import (
	"boskage/api"
	"boskage/regex"
	"boskage/sample"
	"testing"
)

// P11.5
func TestWords(t *testing.T) {
	check := func(n int, e api.Expr, most int) {
		t.Helper()
		got, err := regex.Words(n, e, most)
		if want := language(n, e, most); err != api.OK || !equalLists(got, want) {
			t.Errorf("%s, %d letters: got %v, error %d, want %v", sample.ShowExpression(e), most, got, err, want)
		}
	}
	for _, e := range sample.Expressions(2, 4) {
		for most := range 7 {
			check(2, e, most)
		}
	}
	for i, e := range random(3, 300, api.MaxExpr) {
		check(3, e, i%6)
	}
	for most := range 7 {
		check(0, sample.Op(api.Empty), most)
		check(0, sample.Op(api.Nothing), most)
	}
	check(2, read(t, 2, "a b* | ()"), 3)
}

// P11.5: ErrRange.
func TestWordsRange(t *testing.T) {
	for _, e := range []api.Expr{sample.Op(api.Nothing), sample.Op(api.Empty), sample.Op(api.Star, anyOf(12))} {
		for _, most := range []int{-1, 7, 1 << 40, -1 << 63, 1<<63 - 1} {
			if got, err := regex.Words(12, e, most); err != api.ErrRange || len(got) > 0 {
				t.Errorf("%d: %d words, error %d", most, len(got), err)
			}
		}
	}
}

// P11.5: 4096 words are not too many, and 4097 are.
func TestWordsLimit(t *testing.T) {
	tests := []struct {
		text  string
		most  int
		words int // 0 if there are too many
	}{
		{"(a | b | c | d)* (a | b | c) | ()", 6, 4096},
		{"(a | b | c | d)* (a | b | c) | () | d", 6, 0},
		{"(a | b | c | d)* (a | b | c) | d", 6, 4096},
		{"(a | b | c | d)*", 5, 1365},
		{"(a | b | c | d)*", 6, 0},
		{"(a | b)*", 6, 127},
		{"(a | b | c | d | e | f | g | h | i | j | k | l)*", 3, 1885},
		{"(a | b | c | d | e | f | g | h | i | j | k | l)*", 4, 0},
		{"(a | b | c | d | e | f | g | h | i | j | k | l)*", 6, 0},
	}
	for _, test := range tests {
		e := read(t, 12, test.text)
		got, err := regex.Words(12, e, test.most)
		if test.words == 0 && (err != api.ErrFull || len(got) > 0) || test.words > 0 && (err != api.OK || len(got) != test.words) {
			t.Errorf("%s: %d words, error %d, want %d", test.text, len(got), err, test.words)
		}
	}
	want := language(4, read(t, 4, tests[0].text), 6)
	if got, _ := regex.Words(12, read(t, 12, tests[0].text), 6); !equalLists(got, want) {
		t.Error("the words are other ones")
	}
}

// P11.5: short words are found also where there are many long ones, or many
// beginnings of them.
func TestWordsWithManyBeginnings(t *testing.T) {
	all := anyOf(12)
	long := sample.Op(api.Concat, sample.Op(api.Star, all), repeat(sample.Letter(0), 7))
	if got, err := regex.Words(12, long, 6); err != api.OK || len(got) > 0 {
		t.Errorf("%d words, error %d", len(got), err)
	}
	six := sample.Op(api.Concat, sample.Op(api.Star, all), repeat(sample.Letter(0), 6))
	if got, err := regex.Words(12, six, 6); err != api.OK || !equalLists(got, [][]int{make([]int, 6)}) {
		t.Errorf("%v, error %d", got, err)
	}
	short := sample.Op(api.Either, sample.Op(api.Star, sample.Op(api.Concat, sample.Letter(3), sample.Letter(3))), sample.Letter(7))
	if got, err := regex.Words(12, short, 2); err != api.OK || !equalLists(got, [][]int{{}, {7}, {3, 3}}) {
		t.Errorf("%v, error %d", got, err)
	}
}
