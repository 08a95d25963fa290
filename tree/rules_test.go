package tree_test

import (
	"boskage/api"
	"boskage/tree"
	"reflect"
	"slices"
	"strings"
	"testing"
)

// outcome is what one round of calls returns.
type outcome struct {
	values []any
}

// add keeps the result of a call. With an error, the result must be zero.
func (o *outcome) add(t *testing.T, what string, value any, e api.Errno) {
	t.Helper()
	v := reflect.ValueOf(value)
	zero := v.IsZero() || v.Kind() == reflect.Slice && v.Len() == 0
	if e != api.OK && !zero {
		t.Errorf("%s: %v beside error %d", what, value, e)
	}
	if e < api.OK || e > api.ErrState {
		t.Errorf("%s: there is no error %d", what, e)
	}
	o.values = append(o.values, value, e)
}

// callAll calls all functions with all combinations of odd arguments.
func callAll(t *testing.T) outcome {
	t.Helper()
	var o outcome
	alphabets := append(badAlphabets(), api.Alphabet{}, small, api.Alphabet{Ranks: []int{2, 2, 2, 0}})
	trees := append(badTrees(), none, read("a"), read("f(a, g(b))"), chain(api.MaxSize))
	positions := [][]int{nil, {}, {0}, {1, 0}, {-1}, {3}, {1 << 62}, make([]int, 1<<16)}
	names := append(badNames(), smallNames)
	texts := []string{"", "a", "g(a)", "(", "g(", "\xff\x00", strings.Repeat("g(", 8000), strings.Repeat("h(", 1<<17)}
	for _, a := range alphabets {
		o.add(t, "ValidAlphabet", tree.ValidAlphabet(a), api.OK)
		for _, n := range []int{-1 << 63, -1, 0, 1, 2, 12, 13, 1<<63 - 1} {
			l, e := tree.All(a, n)
			o.add(t, "All", l, e)
		}
		for _, x := range trees {
			callTree(t, &o, a, x, positions, names)
		}
		for _, list := range names {
			for _, text := range texts {
				x, e := tree.Parse(a, list, text)
				o.add(t, "Parse", x, e)
			}
		}
	}
	for _, x := range trees {
		o.add(t, "Size", tree.Size(x), api.OK)
		o.add(t, "Depth", tree.Depth(x), api.OK)
		for _, y := range trees {
			o.add(t, "Compare", tree.Compare(x, y), api.OK)
		}
	}
	for _, text := range texts {
		o.add(t, "Name", tree.Name(text), api.OK)
	}
	return o
}

func callTree(t *testing.T, o *outcome, a api.Alphabet, x api.Tree, positions [][]int, names [][]string) {
	t.Helper()
	o.add(t, "Valid", tree.Valid(a, x), api.OK)
	l, e := tree.Positions(a, x)
	o.add(t, "Positions", l, e)
	for _, pos := range positions {
		y, e := tree.At(a, x, pos)
		o.add(t, "At", y, e)
		y, e = tree.Put(a, x, pos, read("g(a)"))
		o.add(t, "Put", y, e)
		y, e = tree.Put(a, read("g(a)"), pos, x)
		o.add(t, "Put", y, e)
	}
	for _, list := range names {
		s, e := tree.Print(a, list, x)
		o.add(t, "Print", s, e)
	}
}

// P1, P2: all arguments are accepted, and equal calls have equal results.
func TestAnyArguments(t *testing.T) {
	if !reflect.DeepEqual(callAll(t), callAll(t)) {
		t.Error("equal calls have different results")
	}
}

// P2: results share no memory with arguments or other results, and arguments
// are not changed.
func TestNoSharing(t *testing.T) {
	x, y := read("f(g(a), h(a, b, a))"), read("g(f(a, b))")
	ranks, names, pos := slices.Clone(small.Ranks), slices.Clone(smallNames), []int{1, 2}
	at1, _ := tree.At(small, x, pos[:1])
	at2, _ := tree.At(small, x, pos[:1])
	put1, _ := tree.Put(small, x, pos, y)
	put2, _ := tree.Put(small, x, pos, y)
	text, _ := tree.Print(small, names, x)
	parsed1, _ := tree.Parse(small, names, text)
	parsed2, _ := tree.Parse(small, names, text)
	all1, _ := tree.All(small, 4)
	all2, _ := tree.All(small, 4)
	results := []api.Tree{x, y, at1, at2, put1, put2, parsed1, parsed2}
	checkFresh(t, "results", slices.Concat(results, all1, all2)...)
	checkTree(t, "first argument", x, api.OK, read("f(g(a), h(a, b, a))"), api.OK)
	checkTree(t, "second argument", y, api.OK, read("g(f(a, b))"), api.OK)
	if !slices.Equal(ranks, small.Ranks) || !slices.Equal(names, smallNames) || !slices.Equal(pos, []int{1, 2}) {
		t.Error("an argument was changed")
	}
}
