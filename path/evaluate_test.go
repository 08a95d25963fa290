package path_test

import (
	"boskage/api"
	"boskage/path"
	"boskage/sample"
	"boskage/samplepath"
	"slices"
	"testing"
)

// P13.2, P13.3: all paths of few steps in all small trees.
func TestSelectSmall(t *testing.T) {
	for _, p := range samplepath.Upto(2, 2) {
		for _, x := range small {
			checkSelect(t, 2, p, x)
		}
	}
	trees := sample.Documents(1, 5)
	for _, p := range samplepath.All(1, 3) {
		for i := 0; i < len(trees); i += 3 {
			checkSelect(t, 1, p, trees[i])
		}
	}
}

// P13.2, P13.3: paths of many steps.
func TestSelectRandom(t *testing.T) {
	var s sample.Source
	for n := 1; n <= 4; n++ {
		for _, p := range samplepath.RandomList(n, 400, api.MaxSteps) {
			for range 4 {
				checkSelect(t, n, p, sample.RandomNode(&s, n, 1+s.Below(12)))
			}
		}
	}
}

// P13.2
func TestSelectExamples(t *testing.T) {
	tests := []struct {
		text, tree string
		want       []int
	}{
		{"child::a/child::b", "a(b(a) b)", []int{1, 3}},
		{"child::*/child::b[child::a]", "a(b(a) b)", []int{1}},
		{"child::*/child::b[!child::a]", "a(b(a) b)", []int{3}},
		{"desc::a", "a(b(a) b)", []int{0, 2}},
		{"desc::b/next::*", "a(b(a) b)", []int{3}},
		{"child::a", "a(a a)", []int{0}},
		{"child::b", "a(b b)", nil},
		{"child::*/child::*", "a(b(a) b)", []int{1, 3}},
		{"child::*/desc::*", "a(b(a) b)", []int{1, 2, 3}},
		{"next::*", "a(b(a) b)", nil},
		{"next::a", "a", nil},
		{"child::*/next::*", "a(b(a) b)", nil},
		{"desc::*/next::*", "a(b c(d e) f)", []int{2, 4, 5}},
		{"desc::b/next::*/next::*", "a(b c(d e) f)", []int{5}},
		{"desc::e/next::*", "a(b c(d e) f)", nil},
		{"desc::*[next::e]", "a(b c(d e) f)", []int{3}},
		{"desc::*[!next::*]", "a(b c(d e) f)", []int{0, 4, 5}},
		{"desc::*[!child::*]", "a(b c(d e) f)", []int{1, 3, 4, 5}},
		{"desc::*[child::*][next::*]", "a(b c(d e) f)", []int{2}},
		{"desc::*[child::*/next::f]", "a(b c(d e) f)", []int{0}},
		{"desc::*[!child::*[!child::*]]", "a(a(b) a(b))", []int{0, 2, 4}},
		{"desc::a[desc::b]/desc::a", "a(a(a(b) a))", []int{1, 2, 4}},
		{"desc::a[desc::a[desc::b]]", "a(a(a(b) a))", []int{0, 1}},
		{"desc::a/desc::a/desc::a", "a(a(a(a) a))", []int{2, 3, 4}},
		{"child::a[child::b][!child::b]", "a(b)", nil},
		{"child::*/child::b/next::b/next::b", "a(b b b b)", []int{3, 4}},
	}
	for _, test := range tests {
		got, e := path.Select(api.MaxLabels, read(t, test.text), readNode(t, test.tree))
		checkNodes(t, test.text+" in "+test.tree, got, e, test.want)
	}
}

// P13.2, P13.3: from nodes that are not the document node.
func TestFromExamples(t *testing.T) {
	x := readNode(t, "a(b(a(b) b) b(a) a)")
	tests := []struct {
		text   string
		node   int
		want   []int
		passes bool
	}{
		{"child::*", 0, []int{1, 5, 7}, true},
		{"child::b", 0, []int{1, 5}, false},
		{"child::*", 3, nil, true},
		{"desc::b", 0, []int{1, 3, 4, 5}, false},
		{"desc::b", 1, []int{3, 4}, true},
		{"next::*", 0, nil, true},
		{"next::*", 1, []int{5, 7}, true},
		{"next::a", 1, []int{7}, false},
		{"next::*", 7, nil, true},
		{"next::*", 4, nil, true},
		{"next::*/child::*", 1, []int{6}, true},
		{"child::a[child::b]", 1, []int{2}, false},
		{"child::b[next::b]", 0, []int{1}, false},
		{"child::b[next::b]", 1, nil, true},
		{"child::b[!next::b]", 1, []int{4}, false},
		{"child::a/desc::*[child::b]", 4, nil, false},
		{"child::a/desc::*[child::b]", 1, nil, true},
	}
	for _, test := range tests {
		p := read(t, test.text)
		got, e := path.From(2, p, x, test.node)
		checkNodes(t, test.text, got, e, test.want)
		if is, e := path.Passes(2, p, x, test.node); e != api.OK || is != test.passes {
			t.Errorf("%s: Passes of %d is %t, error %d", test.text, test.node, is, e)
		}
	}
}

// upFrom returns the numbers from first to last.
func upFrom(first, last int) []int {
	var list []int
	for v := first; v <= last; v++ {
		list = append(list, v)
	}
	return list
}

// P13.2, P13.8: as many nodes and steps as there can be.
func TestSelectLarge(t *testing.T) {
	chain, row := sample.ChainNode(api.MaxSize, 0), sample.Node(0, sample.Row(api.MaxSize-1, 0)...)
	step := samplepath.Step(path.Desc, 0)
	tests := []struct {
		p    path.Path
		x    api.Node
		want []int
	}{
		{samplepath.Of(slices.Repeat([]path.Step{step}, 6)...), chain, upFrom(5, 299)},
		{samplepath.Nested(6, step), chain, upFrom(0, 294)},
		{samplepath.Nested(6, step), row, nil},
		{samplepath.Nested(2, step), row, []int{0}},
		{read(t, "child::*/child::*/next::*/next::*/next::*/next::*"), row, upFrom(5, 299)},
		{read(t, "desc::*[next::*[next::*[next::*[next::*]]]]"), row, upFrom(1, 295)},
		{read(t, "desc::*[!next::*[next::*]]"), row, []int{0, 298, 299}},
		{read(t, "child::*[!desc::*[!desc::*[!desc::*]]]"), chain, nil},
		{read(t, "desc::*"), chain, upFrom(0, 299)},
		{read(t, "child::*"), row, []int{0}},
	}
	for _, test := range tests {
		got, e := path.Select(1, test.p, test.x)
		checkNodes(t, samplepath.Show(test.p), got, e, test.want)
	}
	var s sample.Source
	for _, p := range samplepath.RandomList(api.MaxLabels, 30, 3) {
		x := sample.RandomNode(&s, api.MaxLabels, 60)
		got, e := path.Select(api.MaxLabels, p, x)
		checkNodes(t, samplepath.Show(p), got, e, samplepath.Select(p, x))
	}
}

// P13.2, P13.3: ErrArg for paths and for trees, before ErrRange.
func TestSelectErrors(t *testing.T) {
	check := func(what string, n int, p path.Path, x api.Node, v int, want api.Errno) {
		t.Helper()
		got, e := path.From(n, p, x, v)
		checkError(t, what+", From", len(got) == 0, e, want)
		is, e := path.Passes(n, p, x, v)
		checkError(t, what+", Passes", !is, e, want)
		if want == api.ErrArg {
			got, e = path.Select(n, p, x)
			checkError(t, what+", Select", len(got) == 0, e, want)
		}
	}
	p, x := read(t, "desc::*"), readNode(t, "a(b b)")
	for _, v := range append(far, 0, 3) {
		for _, bad := range samplepath.Bad(2) {
			check("a bad path", 2, bad, x, v, api.ErrArg)
			check("a bad path and a bad tree", 2, bad, sample.Node(2), v, api.ErrArg)
		}
		for _, bad := range sample.BadNodes(2) {
			check("a bad tree", 2, p, bad, v, api.ErrArg)
		}
		for _, n := range badLabels {
			check("a bad number of labels", n, p, x, v, api.ErrArg)
		}
		check("one label", 1, p, x, v, api.ErrArg)
		check("one label", 1, read(t, "child::b"), sample.Node(0), v, api.ErrArg)
	}
	for _, v := range append(far, 3) {
		check("no node", 2, p, x, v, api.ErrRange)
	}
	check("no node", 2, p, sample.Node(0), 1, api.ErrRange)
}

// P13.6: the steps of a path are followed by those of another one.
func TestSteps(t *testing.T) {
	var s sample.Source
	list := append(samplepath.Upto(2, 1), samplepath.RandomList(2, 60, 3)...)
	for i, p := range list {
		for j := i % 3; j < len(list); j += 3 {
			q, x := list[j], sample.RandomNode(&s, 2, 1+s.Below(9))
			both, e := path.Append(2, p, q)
			if e != api.OK {
				t.Fatalf("error %d", e)
			}
			for v := range sample.NodeSize(x) {
				middle, _ := path.From(2, p, x, v)
				var union []int
				for _, w := range middle {
					nodes, _ := path.From(2, q, x, w)
					union = append(union, nodes...)
				}
				slices.Sort(union)
				got, e := path.From(2, both, x, v)
				checkNodes(t, samplepath.Show(both)+" in "+sample.ShowNode(x), got, e, slices.Compact(union))
			}
		}
	}
}

// withTest returns p with another test in its last step.
func withTest(p path.Path, test path.Test) path.Path {
	p = samplepath.Copy(p)
	last := &p.Steps[len(p.Steps)-1]
	last.Tests = append(last.Tests, test)
	return p
}

// P13.7: a test removes the nodes that fail it, and its negation the others.
func TestTests(t *testing.T) {
	var s sample.Source
	plain := samplepath.Step(path.Child, -1)
	list := append(samplepath.Upto(2, 1), samplepath.RandomList(2, 60, 3)...)
	for i, p := range list {
		for j := i % 3; j < len(list); j += 3 {
			x := sample.RandomNode(&s, 2, 1+s.Below(9))
			test := path.Test{Path: list[j]}
			opposite := path.Test{Not: true, Path: list[j]}
			selected, _ := path.Select(2, p, x)
			var pass, fail []int
			for _, v := range selected {
				if nodes, _ := path.From(2, test.Path, x, v); len(nodes) > 0 {
					pass = append(pass, v)
				} else {
					fail = append(fail, v)
				}
			}
			got, e := path.Select(2, withTest(p, test), x)
			checkNodes(t, samplepath.Show(withTest(p, test)), got, e, pass)
			got, e = path.Select(2, withTest(p, opposite), x)
			checkNodes(t, samplepath.Show(withTest(p, opposite)), got, e, fail)
			for v := range sample.NodeSize(x) {
				one, _ := path.Passes(2, withTest(samplepath.Of(plain), test), x, v)
				two, _ := path.Passes(2, withTest(samplepath.Of(plain), opposite), x, v)
				if one == two {
					t.Errorf("%s: both are %t", samplepath.Show(test.Path), one)
				}
			}
		}
	}
}

// P13.8
func TestAxes(t *testing.T) {
	var s sample.Source
	trees := slices.Clone(small)
	for range 100 {
		trees = append(trees, sample.RandomNode(&s, 2, 1+s.Below(api.MaxSize)))
	}
	for _, x := range trees {
		got, e := path.Select(2, read(t, "desc::*"), x)
		checkNodes(t, "desc::*", got, e, upFrom(0, sample.NodeSize(x)-1))
		got, e = path.Select(2, read(t, "child::*"), x)
		checkNodes(t, "child::*", got, e, []int{0})
	}
}
