package query_test

import (
	"boskage/api"
	"boskage/path"
	"boskage/query"
	"boskage/sample"
	"boskage/samplepath"
	"boskage/schema"
	"slices"
	"testing"
)

// P14.2 to P14.6: documents with MaxSize nodes, and more.
func TestLargeDocuments(t *testing.T) {
	inLast := read(t, 3, "desc::b[!next::b]/child::c")
	for _, nodes := range []int{149, 150, 200, 299, 300, 301, 320, 400} {
		s := sample.LargeSchema(nodes)
		want, number := api.OK, nodes
		if nodes > api.MaxSize {
			want, number = api.ErrFull, 0
		}
		fewest, e := query.Fewest(s, inLast)
		x, e2 := query.Witness(s, inLast)
		if e != want || fewest != number || e2 != want || want == api.OK && (!sample.IsDocument(s, x) || !selectsSome(inLast, x)) {
			t.Errorf("%d nodes: Fewest is %d, error %d, error %d", nodes, fewest, e, e2)
		}
		is, x, e := query.Always(s, read(t, 3, "next::a"))
		if e != want || is || want == api.OK && !sample.IsDocument(s, x) || want != api.OK && !isZero(x) {
			t.Errorf("%d nodes: Always is %t, error %d", nodes, is, e)
		}
		p, q := read(t, 3, "desc::c"), read(t, 3, "desc::b/next::c")
		for _, ask := range []func(s api.Schema, p, q path.Path) (bool, api.Node, int, api.Errno){query.Contained, query.Overlap} {
			is, x, v, e := ask(s, p, inLast)
			if e != want || want != api.OK && (is || !isZero(x) || v != 0) || want == api.OK && (!sample.IsDocument(s, x) || !slices.Contains(samplepath.Select(p, x), v)) {
				t.Errorf("%d nodes: %t, node %d, error %d", nodes, is, v, e)
			}
		}
		// There are no such documents, however large.
		if n, e := query.Fewest(s, read(t, 3, "desc::c/child::*")); n != 0 || e != api.ErrNone {
			t.Errorf("%d nodes: Fewest is %d, error %d", nodes, n, e)
		}
		if is, x, e := query.Always(s, read(t, 3, "desc::b/child::c")); !is || !isZero(x) || e != api.OK {
			t.Errorf("%d nodes: Always is %t, error %d", nodes, is, e)
		}
		if is, x, v, e := query.Contained(s, q, p); !is || !isZero(x) || v != 0 || e != api.OK {
			t.Errorf("%d nodes: Contained is %t, error %d", nodes, is, e)
		}
		if is, x, v, e := query.Overlap(s, q, read(t, 3, "desc::b")); is || !isZero(x) || v != 0 || e != api.OK {
			t.Errorf("%d nodes: Overlap is %t, error %d", nodes, is, e)
		}
	}
}

// tower makes a schema over two labels in which a node 0 of each of 10 levels
// has 20 children, above leaves 1. The root may also be a leaf 1.
func tower() api.Schema {
	s := api.Schema{Labels: 2, Start: []int{0, 10, 11}}
	for level := range 10 {
		rest := slices.Repeat([]api.Expr{sample.Letter(level + 1)}, 19)
		s.Types = append(s.Types, api.Type{Content: sample.Chained(api.Concat, rest[0], rest...)})
	}
	s.Types = append(s.Types, api.Type{Label: 1, Content: sample.Op(api.Empty)}, api.Type{Label: 1, Content: sample.Op(api.Empty)})
	return s
}

// P14.2, P14.6: documents that are far too large, beside small ones.
func TestHugeDocuments(t *testing.T) {
	s := tower()
	tests := []struct {
		text   string
		fewest int
		e      api.Errno
		always api.Errno
	}{
		{"child::b", 1, api.OK, api.ErrFull},
		{"child::a", 0, api.ErrFull, api.OK},
		{"child::*", 1, api.OK, api.ErrNone},
		{"desc::b", 1, api.OK, api.ErrNone},
		{"desc::a/child::b/next::b", 0, api.ErrFull, api.OK},
		{"desc::b/child::*", 0, api.ErrNone, api.OK},
		{"desc::a[child::b][child::a]", 0, api.ErrNone, api.OK},
		{"child::*[!child::a]", 1, api.OK, api.ErrFull},
	}
	for _, test := range tests {
		p := read(t, 2, test.text)
		if n, e := query.Fewest(s, p); n != test.fewest || e != test.e {
			t.Errorf("%s: Fewest is %d, error %d", test.text, n, e)
		}
		is, x, e := query.Always(s, p)
		if is != (test.always == api.ErrNone) || (e == api.ErrFull) != (test.always == api.ErrFull) || e != api.OK && !isZero(x) || e == api.OK && !is && sample.ShowNode(x) != "b" {
			t.Errorf("%s: Always is %t, %s, error %d", test.text, is, sample.ShowNode(x), e)
		}
	}
	if is, x, v, e := query.Overlap(s, read(t, 2, "child::*"), read(t, 2, "desc::*[!child::a]")); !is || sample.ShowNode(x) != "b" || v != 0 || e != api.OK {
		t.Errorf("%t, %s, %d, error %d", is, sample.ShowNode(x), v, e)
	}
	if is, x, v, e := query.Overlap(s, read(t, 2, "child::*"), read(t, 2, "desc::*[child::a]")); is || !isZero(x) || v != 0 || e != api.ErrFull {
		t.Errorf("%t, %s, %d, error %d", is, sample.ShowNode(x), v, e)
	}
}

// long makes a schema over 8 labels in which each node has a multiple of 20
// children, of types in turn. The automaton has about 20 states for each type.
func long(types int) api.Schema {
	s := api.Schema{Labels: 8}
	for number := range types {
		var letters []api.Expr
		for i := range 19 {
			letters = append(letters, sample.Letter((number*i+1)%types))
		}
		content := sample.Op(api.Star, sample.Chained(api.Concat, sample.Letter(number), letters...))
		s.Types = append(s.Types, api.Type{Label: number % 8, Content: content})
		s.Start = append(s.Start, number)
	}
	return s
}

// P14.2, P14.4 to P14.6: questions of all sizes up to 20000 are answered.
func TestManyStates(t *testing.T) {
	answered := map[int]int{}
	for types := 1; types <= api.MaxTypes; types++ {
		s := long(types)
		for _, p := range samplepath.RandomList(8, 40, api.MaxSteps) {
			if mustAnswer(t, s, p) {
				answered[path.Length(p)]++
			}
			checkFewest(t, s, p, nil)
			checkAlways(t, s, p, nil)
		}
		list := samplepath.RandomList(8, 20, 3)
		for i, p := range list {
			checkPair(t, s, p, list[(i*7+3)%len(list)], nil)
		}
		tests := map[string]int{"child::*": 1, "child::*/child::*": 21, "desc::*/next::*": 21, "desc::*/child::*/child::*": 41, "child::*[!child::*]": 1}
		for text, want := range tests {
			if got := checkFewest(t, s, read(t, 8, text), nil); got != want {
				t.Errorf("%d types, %s: %d nodes, want %d", types, text, got, want)
			}
		}
	}
	if answered[1] == 0 || answered[2] == 0 || answered[3] == 0 || answered[4] == 0 {
		t.Errorf("%v", answered)
	}
	a, e := schema.Automaton(long(api.MaxTypes))
	if e != api.OK || a.States < 240 {
		t.Errorf("%d states, error %d", a.States, e)
	}
}

// P14.2, P14.4 to P14.6: questions that are as large as possible are answered or
// given up.
func TestLargestQuestions(t *testing.T) {
	list := append(samplepath.RandomList(8, 12, api.MaxSteps),
		read(t, 8, "desc::*[child::a][child::b][child::c][child::d][child::e]"),
		read(t, 8, "desc::*[desc::a][desc::b][desc::c][desc::d][desc::e]"),
		read(t, 8, "desc::*/next::*/next::f[!next::b][!child::c][!desc::d]"),
	)
	for _, s := range []api.Schema{sample.AllDocuments(8), long(api.MaxTypes)} {
		for i, p := range list {
			checkFewest(t, s, p, nil)
			checkAlways(t, s, p, nil)
			for j := i % 6; j < len(list); j += 6 {
				checkPair(t, s, p, list[j], nil)
			}
		}
	}
	if is, _, answered := checkPair(t, sample.AllDocuments(8), list[12], list[13], nil); answered && !is {
		t.Error("not contained")
	}
}
