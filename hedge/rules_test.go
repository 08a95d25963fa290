package hedge_test

import (
	"boskage/api"
	"boskage/hedge"
	"reflect"
	"slices"
	"strings"
	"testing"
)

// outcome is what one round of calls returns.
type outcome struct {
	values []any
}

// add keeps the result of a call. With an error, the result must be zero.
func (o *outcome) add(t *testing.T, what string, value any, e api.Errno) {
	t.Helper()
	v := reflect.ValueOf(value)
	zero := v.IsZero() || v.Kind() == reflect.Slice && v.Len() == 0
	if e != api.OK && !zero {
		t.Errorf("%s: %v beside error %d", what, value, e)
	}
	if e < api.OK || e > api.ErrState {
		t.Errorf("%s: there is no error %d", what, e)
	}
	o.values = append(o.values, value, e)
}

// callAll calls all functions with all combinations of odd arguments.
func callAll(t *testing.T) outcome {
	t.Helper()
	var o outcome
	numbers := append([]int{1, 2, api.MaxLabels}, badLabels...)
	hedges := append(badHedges(), nil, forest(), read("a"), read("a(b b) b"), row(api.MaxSize))
	codes := []api.Tree{{}, {Sym: -1}, leaf, pair(0, leaf, leaf), pair(1, leaf, pair(0, leaf, leaf)), encoding(2, row(1<<15))}
	names := append(badNames(), ab)
	texts := []string{"", "a", "a(b)", "(", "a(", "\xff\x00", strings.Repeat("a(", 8000), strings.Repeat("a(", 1<<17)}
	for _, n := range numbers {
		al, e := hedge.Binary(n)
		o.add(t, "Binary", al, e)
		for _, x := range codes {
			h, e := hedge.Decode(n, x)
			o.add(t, "Decode", h, e)
		}
		for _, h := range hedges {
			callHedge(t, &o, n, h, names)
		}
		for _, list := range names {
			for _, text := range texts {
				h, e := hedge.Parse(n, list, text)
				o.add(t, "Parse", h, e)
			}
		}
	}
	for _, h := range hedges {
		o.add(t, "Size", hedge.Size(h), api.OK)
		for _, g := range hedges {
			o.add(t, "Compare", hedge.Compare(node(0, g...), node(0, h...)), api.OK)
		}
	}
	return o
}

func callHedge(t *testing.T, o *outcome, n int, h []api.Node, names [][]string) {
	t.Helper()
	o.add(t, "ValidHedge", hedge.ValidHedge(n, h), api.OK)
	o.add(t, "Valid", hedge.Valid(n, node(0, h...)), api.OK)
	x, e := hedge.Encode(n, h)
	o.add(t, "Encode", x, e)
	infos, e := hedge.Nodes(n, node(0, h...))
	o.add(t, "Nodes", infos, e)
	for _, list := range names {
		s, e := hedge.Print(n, list, h)
		o.add(t, "Print", s, e)
	}
}

// P1, P2: all arguments are accepted, and equal calls have equal results.
func TestAnyArguments(t *testing.T) {
	if !reflect.DeepEqual(callAll(t), callAll(t)) {
		t.Error("equal calls have different results")
	}
}

// P2: results share no memory with arguments or other results, and arguments
// are not changed.
func TestNoSharing(t *testing.T) {
	h, names := read("a(b(a) b) b(a a)"), slices.Clone(ab)
	code1, _ := hedge.Encode(2, h)
	code2, _ := hedge.Encode(2, h)
	back1, _ := hedge.Decode(2, code1)
	back2, _ := hedge.Decode(2, code1)
	text, _ := hedge.Print(2, names, h)
	parsed1, _ := hedge.Parse(2, names, text)
	parsed2, _ := hedge.Parse(2, names, text)
	seen := map[*api.Node]bool{}
	for _, g := range [][]api.Node{h, back1, back2, parsed1, parsed2} {
		if shared(g, seen) {
			t.Error("hedges share memory")
		}
	}
	seenTrees := map[*api.Tree]bool{}
	for _, x := range []api.Tree{code1, code2} {
		if sharedTree(x, seenTrees) {
			t.Error("encodings share memory")
		}
	}
	infos1, _ := hedge.Nodes(2, h[0])
	infos1[0].Label = 77
	if infos2, _ := hedge.Nodes(2, h[0]); infos2[0].Label != 0 {
		t.Error("infos share memory")
	}
	if !same(h, read("a(b(a) b) b(a a)")) || !slices.Equal(names, ab) || !sameTree(code1, code2) {
		t.Error("an argument was changed")
	}
}
