package regex_test

import (
	"boskage/api"
	"boskage/regex"
	"boskage/sample"
	"slices"
	"testing"
)

// checkMinimal checks that the minimal automaton of e over n letters is one, and
// that words with at most so many letters lead to a final state if and only if
// they are in the language.
func checkMinimal(t *testing.T, n int, e api.Expr, most int) {
	t.Helper()
	d, err := regex.Minimal(n, e)
	if err == api.ErrFull && !few(e) && zero(d) {
		return
	}
	if err != api.OK || !wellFormed(n, d) || !reduced(d) {
		t.Errorf("%s: %v, error %d", sample.ShowExpression(e), d, err)
		return
	}
	for _, w := range sample.Words(n, most) {
		if leads(d, 0, w) != sample.Has(e, w) {
			t.Errorf("%s: %v for the word %v", sample.ShowExpression(e), d, w)
		}
	}
}

// P11.3
func TestMinimal(t *testing.T) {
	for _, e := range sample.Expressions(2, 5) {
		checkMinimal(t, 2, e, 6)
	}
	for _, e := range random(1, 500, 20) {
		checkMinimal(t, 1, e, 30)
	}
	for _, e := range random(3, 600, api.MaxExpr) {
		checkMinimal(t, 3, e, 4)
	}
	for _, e := range random(api.MaxTypes, 300, api.MaxExpr) {
		checkMinimal(t, api.MaxTypes, e, 2)
	}
}

// P11.3: the numbers of the states.
func TestMinimalStates(t *testing.T) {
	tests := []struct {
		n    int
		text string
		want regex.Dfa
	}{
		{0, "[]", regex.Dfa{States: 1, Final: []bool{false}, Next: [][]int{{}}}},
		{0, "()", regex.Dfa{States: 1, Final: []bool{true}, Next: [][]int{{}}}},
		{0, "[]*", regex.Dfa{States: 1, Final: []bool{true}, Next: [][]int{{}}}},
		{1, "[]", regex.Dfa{States: 1, Final: []bool{false}, Next: [][]int{{0}}}},
		{1, "()", regex.Dfa{States: 2, Final: []bool{true, false}, Next: [][]int{{1}, {1}}}},
		{1, "a*", regex.Dfa{States: 1, Final: []bool{true}, Next: [][]int{{0}}}},
		{1, "a []", regex.Dfa{States: 1, Final: []bool{false}, Next: [][]int{{0}}}},
		{2, "a b* | ()", regex.Dfa{States: 3, Final: []bool{true, true, false}, Next: [][]int{{1, 2}, {2, 1}, {2, 2}}}},
		{2, "b", regex.Dfa{States: 3, Final: []bool{false, false, true}, Next: [][]int{{1, 2}, {1, 1}, {1, 1}}}},
		{2, "b a | a b", regex.Dfa{States: 5, Final: []bool{false, false, false, false, true}, Next: [][]int{{1, 2}, {3, 4}, {4, 3}, {3, 3}, {3, 3}}}},
		{2, "(a | b)* a (a | b)", regex.Dfa{States: 4, Final: []bool{false, false, true, true}, Next: [][]int{{1, 0}, {2, 3}, {2, 3}, {1, 0}}}},
		{3, "(a | b | c)*", regex.Dfa{States: 1, Final: []bool{true}, Next: [][]int{{0, 0, 0}}}},
	}
	for _, test := range tests {
		got, e := regex.Minimal(test.n, read(t, test.n, test.text))
		if e != api.OK || !same(got, test.want) {
			t.Errorf("%s: got %v, error %d, want %v", test.text, got, e, test.want)
		}
	}
}

// P11.3: there is no error for expressions with at most 8 nodes for letters.
func TestMinimalOfFewLetters(t *testing.T) {
	states := func(n int, e api.Expr, want int) {
		t.Helper()
		if d, err := regex.Minimal(n, e); err != api.OK || d.States != want {
			t.Errorf("%s: %d states, error %d, want %d", sample.ShowExpression(e), d.States, err, want)
		}
	}
	states(2, read(t, 2, "(a a a)* | (a a a a a)*"), 16)
	states(1, read(t, 1, "(a a a)* | (a a a a a)*"), 15)
	states(2, read(t, 2, "(a | b) (a | b) (a | b) (a | b)"), 6)
	states(2, fromEnd(2), 8)
	for _, e := range random(2, 3000, api.MaxExpr) {
		if few(e) {
			if d, err := regex.Minimal(2, e); err != api.OK || d.States > 257 {
				t.Errorf("%s: %d states, error %d", sample.ShowExpression(e), d.States, err)
			}
		}
	}
}

// P11.3: ErrFull if there are more than MaxStates states, and permitted for many
// letters.
func TestMinimalLimits(t *testing.T) {
	for k := range 9 {
		d, err := regex.Minimal(2, fromEnd(k))
		switch states := 2 << k; {
		case err == api.ErrFull && zero(d) && (!few(fromEnd(k)) || states > api.MaxStates):
		case err != api.OK || states > api.MaxStates || d.States != states || !wellFormed(2, d) || !reduced(d):
			t.Errorf("letter %d from the end: %d states, error %d", k, d.States, err)
		}
	}
	// The sets of nodes are as many as above, and are soon one state.
	all := sample.Op(api.Either, sample.Op(api.Star, anyOf(2)), fromEnd(5))
	d, err := regex.Minimal(2, all)
	if err != api.ErrFull && (err != api.OK || !same(d, regex.Dfa{States: 1, Final: []bool{true}, Next: [][]int{{0, 0}}})) {
		t.Errorf("all words: %v, error %d", d, err)
	}
}

// P11.8, P4
func TestMinimalIsUnique(t *testing.T) {
	list := sample.Expressions(2, 4)
	var languages [][][]int
	var minimal []regex.Dfa
	for _, e := range list {
		d, _ := regex.Minimal(2, e)
		minimal = append(minimal, d)
		languages = append(languages, language(2, e, 6))
	}
	for i := range list {
		for j := range list {
			if want := equalLists(languages[i], languages[j]); same(minimal[i], minimal[j]) != want {
				t.Errorf("%s and %s: the same language is %t", sample.ShowExpression(list[i]), sample.ShowExpression(list[j]), want)
			}
		}
	}
}

// P11.8: the same words, written in another way.
func TestMinimalOfRewritten(t *testing.T) {
	for _, e := range random(2, 300, 12) {
		d, err := regex.Minimal(2, e)
		for _, f := range []api.Expr{
			sample.Op(api.Either, e, e), sample.Op(api.Either, sample.Op(api.Nothing), e), sample.Op(api.Concat, sample.Op(api.Empty), e),
			sample.Op(api.Concat, e, sample.Op(api.Star, sample.Op(api.Nothing))),
		} {
			same1, err1 := regex.Minimal(2, f)
			if err == api.OK && err1 == api.OK && !same(d, same1) {
				t.Errorf("%s and %s: %v and %v", sample.ShowExpression(e), sample.ShowExpression(f), d, same1)
			}
		}
		once, err1 := regex.Minimal(2, sample.Op(api.Star, e))
		twice, err2 := regex.Minimal(2, sample.Op(api.Star, sample.Op(api.Star, e)))
		if err1 == api.OK && err2 == api.OK && !same(once, twice) {
			t.Errorf("%s: a star of a star", sample.ShowExpression(e))
		}
	}
}

// firstDifference returns the first word that is in one of two sorted lists.
func firstDifference(words, x, y [][]int) []int {
	for _, w := range words {
		is := func(v []int) bool { return slices.Equal(v, w) }
		if slices.ContainsFunc(x, is) != slices.ContainsFunc(y, is) {
			return w
		}
	}
	return nil
}

func checkSame(t *testing.T, n int, e, f api.Expr, want bool, word []int) {
	t.Helper()
	got, w, err := regex.Same(n, e, f)
	if err == api.ErrFull && !few(e, f) && !got && len(w) == 0 {
		return
	}
	if err != api.OK || got != want || !slices.Equal(w, word) {
		t.Errorf("%s and %s: got %t, %v, error %d, want %t, %v", sample.ShowExpression(e), sample.ShowExpression(f), got, w, err, want, word)
	}
}

// P11.4: all pairs of small expressions.
func TestSame(t *testing.T) {
	list, words := sample.Expressions(2, 4), sample.Words(2, 6)
	var languages [][][]int
	for _, e := range list {
		languages = append(languages, language(2, e, 6))
	}
	for i, e := range list {
		for j, f := range list {
			x, y := languages[i], languages[j]
			checkSame(t, 2, e, f, equalLists(x, y), firstDifference(words, x, y))
		}
	}
}

// P11.4
func TestSameExamples(t *testing.T) {
	tests := []struct {
		e, f string
		same bool
		word []int
	}{
		{"(a | b)*", "(a* b*)*", true, nil},
		{"a (b a)*", "(a b)* a", true, nil},
		{"a b [] | ()", "[]*", true, nil},
		{"[]", "()", false, nil},
		{"a*", "a a*", false, nil},
		{"(a a a)*", "(a a a a a)*", false, []int{0, 0, 0}},
		{"(a | b)* a b", "(a | b)* b", false, []int{1}},
		{"a b | b a", "b b | b a", false, []int{0, 1}},
		{"a b | b a a", "a b | b a b", false, []int{1, 0, 0}},
		{"b | a a", "b | a b", false, []int{0, 0}},
		{"a*", "() | a | a a | a a a", false, []int{0, 0, 0, 0}},
		{"(a a)* (a a a a)* | b", "(a a)*", false, []int{1}},
		{"(a a a)* | (a a a)* a", "(a a)*", false, []int{0}},
		{"(a a a)* (() | a)", "a* a*", false, []int{0, 0}},
		{"((() | a) (() | a) (() | a)) ((() | a) (() | a) (() | a) (() | a))", "a*", false, make([]int, 8)},
	}
	for _, test := range tests {
		checkSame(t, 2, read(t, 2, test.e), read(t, 2, test.f), test.same, test.word)
		checkSame(t, 2, read(t, 2, test.f), read(t, 2, test.e), test.same, test.word)
	}
	for n, word := range [][]int{nil, {0}, {0}} {
		empty, all := sample.Op(api.Empty), sample.Op(api.Star, sample.Op(api.Nothing))
		if n > 0 {
			all = sample.Op(api.Star, anyOf(n))
		}
		checkSame(t, n, empty, all, n == 0, word)
	}
}

// P11.4: longer expressions, with the permitted error for many letters.
func TestSameOfLongExpressions(t *testing.T) {
	list, words := random(3, 120, 16), sample.Words(3, 4)
	for i, e := range list {
		f := list[(i*7+1)%len(list)]
		is, w, err := regex.Same(3, e, f)
		if err == api.ErrFull && !few(e, f) {
			continue
		}
		first := firstDifference(words, language(3, e, 4), language(3, f, 4))
		switch {
		case err != api.OK || is && len(w) > 0 || !is && sample.Has(e, w) == sample.Has(f, w):
			t.Errorf("%s and %s: %t, %v, error %d", sample.ShowExpression(e), sample.ShowExpression(f), is, w, err)
		case (is || len(w) > 4) && first != nil, !is && len(w) <= 4 && !slices.Equal(w, first):
			t.Errorf("%s and %s: got %t, %v, but the first word is %v", sample.ShowExpression(e), sample.ShowExpression(f), is, w, first)
		}
	}
	for k := range 9 {
		e := fromEnd(k)
		checkSame(t, 2, e, e, true, nil)
		checkSame(t, 2, e, sample.Op(api.Either, sample.Op(api.Nothing), fromEnd(min(k, 7))), k < 8, make([]int, k/8*8))
	}
}

// P11.4: the same minimal automata belong to the same languages.
func TestSameIsMinimal(t *testing.T) {
	list := random(2, 200, 9)
	for i, e := range list {
		for _, f := range list[:i] {
			x, err1 := regex.Minimal(2, e)
			y, err2 := regex.Minimal(2, f)
			is, _, err3 := regex.Same(2, e, f)
			if err1 == api.OK && err2 == api.OK && err3 == api.OK && is != same(x, y) {
				t.Errorf("%s and %s: %t", sample.ShowExpression(e), sample.ShowExpression(f), is)
			}
		}
	}
}
