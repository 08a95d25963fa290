package schema_test

import (
	"boskage/api"
	"boskage/auto"
	"boskage/hedge"
	"boskage/sample"
	"boskage/schema"
	"slices"
	"testing"
)

// codes returns all trees over the binary alphabet of two labels with at most
// nine nodes.
func codes() []api.Tree {
	return sample.Trees(api.Alphabet{Ranks: []int{2, 2, 0}})
}

// P12.4, P12.10, P3: the automaton accepts encodings of documents, and no other
// trees.
func TestAutomaton(t *testing.T) {
	al := api.Alphabet{Ranks: []int{2, 2, 0}}
	trees := codes()
	for _, s := range sample.Schemas() {
		a, e := schema.Automaton(s)
		if e != api.OK || !auto.Valid(al, a) {
			t.Errorf("%s: %s, error %d", sample.ShowSchema(s), sample.Show(a), e)
			continue
		}
		for _, x := range trees {
			h, _ := hedge.Decode(2, x)
			want := len(h) == 1 && sample.IsDocument(s, h[0])
			if got, e := auto.Accepts(al, a, x); e != api.OK || got != want {
				t.Errorf("%s, %v: %t, error %d", sample.ShowSchema(s), h, got, e)
			}
		}
	}
}

// P12.10: larger trees, more labels and more types.
func TestAutomatonOfLargeSchemas(t *testing.T) {
	var source sample.Source
	list := []api.Schema{full(), sample.AllDocuments(api.MaxLabels), sample.LargeSchema(149)}
	for range 60 {
		list = append(list, sample.Schema(&source, 1+source.Below(api.MaxLabels), 1+source.Below(api.MaxTypes), api.MaxExpr))
	}
	for _, s := range list {
		al, _ := hedge.Binary(s.Labels)
		a, e := schema.Automaton(s)
		if e == api.ErrFull && positions(s)*positions(s) > api.MaxRules && sample.Equal(a, api.Automaton{}) {
			continue
		}
		if e != api.OK || !auto.Valid(al, a) {
			t.Errorf("%s: %d states, %d rules, error %d", sample.ShowSchema(s), a.States, len(a.Rules), e)
			continue
		}
		for range 50 {
			x := sample.RandomNode(&source, s.Labels, 1+source.Below(20))
			want, _ := schema.Accepts(s, x)
			if got, e := auto.Accepts(al, a, sample.Encoding(s.Labels, x)); e != api.OK || got != want {
				t.Errorf("%s, %s: %t, error %d", sample.ShowSchema(s), sample.ShowNode(x), got, e)
			}
		}
		least, e := schema.Smallest(s)
		if e != api.OK {
			continue
		}
		if got, e := auto.Accepts(al, a, sample.Encoding(s.Labels, least)); e != api.OK || !got {
			t.Errorf("%s, %s: %t, error %d", sample.ShowSchema(s), sample.ShowNode(least), got, e)
		}
	}
}

// P12.7
func TestSmallest(t *testing.T) {
	list := append(sample.Schemas(), sample.Schema(&sample.Source{}, 2, 6, 20))
	for _, s := range list {
		got, e := schema.Smallest(s)
		first := slices.IndexFunc(documents, func(x api.Node) bool { return sample.IsDocument(s, x) })
		switch {
		case first >= 0:
			if e != api.OK || !sample.EqualNodes(got, documents[first]) {
				t.Errorf("%s: got %s, error %d, want %s", sample.ShowSchema(s), sample.ShowNode(got), e, sample.ShowNode(documents[first]))
			}
		case !hasDocument(s):
			if e != api.ErrNone || !isZero(got) {
				t.Errorf("%s: got %s, error %d", sample.ShowSchema(s), sample.ShowNode(got), e)
			}
		case e != api.OK || !sample.IsDocument(s, got) || sample.NodeSize(got) <= 5:
			t.Errorf("%s: got %s, error %d", sample.ShowSchema(s), sample.ShowNode(got), e)
		}
	}
}

// P12.7: of several trees with the fewest nodes, the first encoding.
func TestSmallestExamples(t *testing.T) {
	a, b, c := sample.Letter(0), sample.Letter(1), sample.Letter(2)
	types := func(contents ...api.Expr) api.Schema {
		s := api.Schema{Labels: 2, Start: []int{0}}
		for i, content := range contents {
			s.Types = append(s.Types, api.Type{Label: []int{0, 1, 0, 0}[i], Content: content})
		}
		return s
	}
	none := sample.Op(api.Empty)
	both := func(x, y api.Expr) api.Expr { return sample.Op(api.Concat, x, y) }
	or := func(x, y api.Expr) api.Expr { return sample.Op(api.Either, x, y) }
	tests := []struct {
		s    api.Schema
		want string
	}{
		{sample.Items(), "a(b)"},
		{sample.AllDocuments(2), "a"},
		{types(both(b, b), or(none, b)), "a(b b)"},
		{types(or(both(b, c), both(c, b)), none, none), "a(a b)"},
		{types(or(both(b, b), c), none, sample.Letter(3), none), "a(a(a))"},
		{types(or(c, b), c, b, none), "b"},
		{types(or(both(c, b), both(sample.Letter(3), b)), none, both(b, b), both(sample.Op(api.Star, b), b)), "a(a(b) b)"},
		{types(a), ""},
		{types(or(a, both(b, c)), a, none), ""},
	}
	tests[5].s.Start, tests[5].s.Types[1].Content = []int{0, 1}, none
	for _, test := range tests {
		got, e := schema.Smallest(test.s)
		if test.want == "" && (e != api.ErrNone || !isZero(got)) || test.want != "" && (e != api.OK || sample.ShowNode(got) != test.want) {
			t.Errorf("%s: got %s, error %d, want %s", sample.ShowSchema(test.s), sample.ShowNode(got), e, test.want)
		}
	}
}

// P12.7: a tree with 149 nodes is small enough, and one with 150 is not.
func TestSmallestLimit(t *testing.T) {
	for _, nodes := range []int{30, 148, 149, 150, 151, 299, 300} {
		s := sample.LargeSchema(nodes)
		x, e := schema.Smallest(s)
		if nodes > 149 && (e != api.ErrFull || !isZero(x)) {
			t.Errorf("%d nodes: error %d", nodes, e)
		}
		if nodes <= 149 && (e != api.OK || sample.NodeSize(x) != nodes || !sample.IsDocument(s, x)) {
			t.Errorf("%d nodes: %s, error %d", nodes, sample.ShowNode(x), e)
		}
	}
}

// P12.8
func TestUseful(t *testing.T) {
	check := func(s api.Schema) {
		t.Helper()
		if got, e := schema.Useful(s); e != api.OK || !slices.Equal(got, useful(s)) {
			t.Errorf("%s: %v, error %d, want %v", sample.ShowSchema(s), got, e, useful(s))
		}
	}
	for _, s := range sample.Schemas() {
		check(s)
	}
	var source sample.Source
	for range 600 {
		check(sample.Schema(&source, 1+source.Below(3), 1+source.Below(api.MaxTypes), 1+source.Below(20)))
	}
	check(full())
	check(sample.LargeSchema(300))
}

// P12.8: types that occur in the assignments of small trees.
func TestUsefulOccur(t *testing.T) {
	for _, s := range sample.Schemas() {
		got, _ := schema.Useful(s)
		for _, x := range sample.Documents(2, 4) {
			for _, types := range sample.Lists(sample.NodeSize(x), len(s.Types)) {
				if !sample.IsAssignment(s, x, types) {
					continue
				}
				for _, number := range types {
					if !got[number] {
						t.Errorf("%s: type %d occurs in %s", sample.ShowSchema(s), number, sample.ShowNode(x))
					}
				}
			}
		}
	}
}

// P12.8
func TestUsefulExamples(t *testing.T) {
	none, nothing, other := sample.Op(api.Empty), sample.Op(api.Nothing), sample.Letter(1)
	tests := []struct {
		contents []api.Expr
		want     []bool
	}{
		{[]api.Expr{none, none}, []bool{true, false}},
		{[]api.Expr{other, none}, []bool{true, true}},
		{[]api.Expr{other, nothing}, []bool{false, false}},
		{[]api.Expr{other, other}, []bool{false, false}},
		{[]api.Expr{choice(other), other}, []bool{true, false}},
		{[]api.Expr{nothing, none}, []bool{false, false}},
		{[]api.Expr{choice(sample.Op(api.Concat, other, nothing)), none}, []bool{true, false}},
		{[]api.Expr{choice(sample.Op(api.Concat, other, sample.Letter(2))), none, sample.Letter(2)}, []bool{true, false, false}},
		{[]api.Expr{sample.Op(api.Either, other, sample.Letter(2)), none, none}, []bool{true, true, true}},
		{[]api.Expr{sample.Op(api.Either, other, sample.Letter(2)), none, nothing}, []bool{true, true, false}},
	}
	for _, test := range tests {
		s := api.Schema{Labels: 1, Start: []int{0}}
		for _, content := range test.contents {
			s.Types = append(s.Types, api.Type{Content: content})
		}
		if got, e := schema.Useful(s); e != api.OK || !slices.Equal(got, test.want) {
			t.Errorf("%s: %v, error %d, want %v", sample.ShowSchema(s), got, e, test.want)
		}
	}
}
