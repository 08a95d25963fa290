package regex_test

import (
	"boskage/api"
	"boskage/regex"
	"boskage/sample"
	"reflect"
	"slices"
	"strings"
	"testing"
)

// outcome is what a call of each function returns.
type outcome struct {
	valid, nullable, has, same bool
	dfa                        regex.Dfa
	word, first, last          []int
	words                      [][]int
	follow                     [][2]int
	text                       string
	expr                       api.Expr
	errors                     [8]api.Errno
}

// callAll calls all functions.
func callAll(n int, e, f api.Expr, w []int, most int, names []string, text string) outcome {
	var o outcome
	o.valid = regex.Valid(n, e)
	o.nullable, o.errors[0] = regex.Nullable(n, e)
	o.has, o.errors[1] = regex.Has(n, e, w)
	o.dfa, o.errors[2] = regex.Minimal(n, e)
	o.same, o.word, o.errors[3] = regex.Same(n, e, f)
	o.words, o.errors[4] = regex.Words(n, e, most)
	o.first, o.last, o.follow, o.errors[5] = regex.Positions(n, e)
	o.text, o.errors[6] = regex.Print(n, names, e)
	o.expr, o.errors[7] = regex.Parse(n, names, text)
	return o
}

// checkZero checks that what is returned with an error is zero.
func (o outcome) checkZero(t *testing.T, what string) {
	t.Helper()
	isZero := [8]bool{
		!o.nullable, !o.has, zero(o.dfa), !o.same && len(o.word) == 0, len(o.words) == 0, len(o.first)+len(o.last)+len(o.follow) == 0,
		o.text == "", sample.EqualExpressions(o.expr, api.Expr{}),
	}
	for i, e := range o.errors {
		if e < api.OK || e > api.ErrState || e != api.OK && !isZero[i] {
			t.Errorf("%s: error %d of call %d, with a result", what, e, i)
		}
	}
	if o.same && len(o.word) > 0 {
		t.Errorf("%s: the same language, and the word %v", what, o.word)
	}
}

// P11.1 to P11.7: expressions that are not valid are refused before all else.
func TestBadArguments(t *testing.T) {
	good := sample.Op(api.Empty)
	for _, n := range append([]int{0, 1, 2, api.MaxTypes}, badNumbers...) {
		bad := sample.BadExpressions(n)
		if slices.Contains(badNumbers, n) {
			bad = append(bad, good)
		}
		for i, e := range bad {
			o := callAll(n, e, good, []int{n}, 7, nil, "()")
			o.checkZero(t, "a bad expression")
			for call, err := range o.errors[:7] {
				if err != api.ErrArg {
					t.Errorf("%d letters, expression %d: error %d of call %d", n, i, err, call)
				}
			}
			if is, w, err := regex.Same(n, good, e); is || len(w) > 0 || err != api.ErrArg {
				t.Errorf("%d letters, expression %d: Same returns %t, %v, error %d", n, i, is, w, err)
			}
		}
	}
}

// P1, P2: all arguments are accepted, equal calls have equal results, and with
// an error they are zero.
func TestAnyArguments(t *testing.T) {
	names := append(badNames(), letters[:2], letters)
	texts := []string{"", "a", "a b* | ()", "(", "[]*", "|", "\xff\x00", strings.Repeat("a(", 8000), strings.Repeat("a*", 1<<17)}
	words := [][]int{nil, {0}, {0, 1, 1}, {-1}, {11}, make([]int, 5000)}
	for _, n := range append([]int{0, 1, 2, api.MaxTypes}, badNumbers...) {
		list := slices.Concat(sample.BadExpressions(2), sample.Expressions(2, 3), random(12, 60, api.MaxExpr), []api.Expr{{}, fromEnd(8)})
		for i, e := range list {
			f := list[(i*5+2)%len(list)]
			call := func() outcome {
				return callAll(n, e, f, words[i%len(words)], i%9-1, names[i%len(names)], texts[i%len(texts)])
			}
			o := call()
			o.checkZero(t, "any arguments")
			if !reflect.DeepEqual(o, call()) {
				t.Errorf("%d letters, expression %d: equal calls have different results", n, i)
			}
		}
	}
}

// P2: arguments are not changed, and results share no memory with them or with
// each other.
func TestNoSharing(t *testing.T) {
	for _, e := range append(sample.Expressions(2, 4), random(2, 100, 20)...) {
		before, word, names := sample.CopyExpression(e), []int{0, 1, 0}, slices.Clone(letters[:2])
		text, _ := regex.Print(2, names, e)
		first := callAll(2, e, sample.Op(api.Empty), word, 4, names, text)
		second := callAll(2, e, sample.Op(api.Empty), word, 4, names, text)
		if sample.ShareExpressions(e, first.expr, second.expr) {
			t.Errorf("%s: expressions share memory", text)
		}
		if shareLists(append(first.words, first.word, first.first, first.last)...) || shareLists(first.dfa.Next...) {
			t.Errorf("%s: a result shares memory with itself", text)
		}
		if shareLists(slices.Concat(first.words, second.words, first.dfa.Next, second.dfa.Next, [][]int{word, first.word, second.word, first.first, second.first, first.last, second.last})...) {
			t.Errorf("%s: lists share memory", text)
		}
		spoil(&first)
		if third := callAll(2, e, sample.Op(api.Empty), word, 4, names, text); !reflect.DeepEqual(second, third) {
			t.Errorf("%s: results share memory", text)
		}
		if !sample.EqualExpressions(e, before) || !slices.Equal(word, []int{0, 1, 0}) || !slices.Equal(names, letters[:2]) {
			t.Errorf("%s: an argument was changed", text)
		}
	}
}

// shareLists reports whether two lists share memory, up to their capacities.
func shareLists(lists ...[]int) bool {
	known := map[*int]bool{}
	for _, list := range lists {
		list = list[:cap(list)]
		for i := range list {
			if known[&list[i]] {
				return true
			}
			known[&list[i]] = true
		}
	}
	return false
}

// spoil changes all lists of an outcome.
func spoil(o *outcome) {
	for _, row := range append(o.dfa.Next, o.word, o.first, o.last) {
		for i := range row {
			row[i] = 77
		}
	}
	for i := range o.dfa.Final {
		o.dfa.Final[i] = !o.dfa.Final[i]
	}
	for i := range o.follow {
		o.follow[i] = [2]int{77, 77}
	}
	for _, word := range o.words {
		for i := range word {
			word[i] = 77
		}
	}
}
