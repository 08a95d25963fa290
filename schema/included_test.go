package schema_test

import (
	"boskage/api"
	"boskage/hedge"
	"boskage/sample"
	"boskage/schema"
	"testing"
)

// checkIncluded checks that Included returns what small documents, and the tree
// that it returns, permit. It returns whether the property holds. (The document
// permits ErrFull in more cases.)
func checkIncluded(t *testing.T, s, u api.Schema) bool {
	t.Helper()
	is, x, e := schema.Included(s, u)
	switch {
	case e == api.ErrFull && !is && isZero(x) && (positions(u) > 7 || positions(s) > 40):
		return false
	case e != api.OK:
		t.Errorf("%s; %s: error %d", sample.ShowSchema(s), sample.ShowSchema(u), e)
	case !is && (!hedge.Valid(s.Labels, x) || !sample.IsDocument(s, x) || sample.IsDocument(u, x)):
		t.Errorf("%s; %s: %s is no example", sample.ShowSchema(s), sample.ShowSchema(u), sample.ShowNode(x))
	case is && !isZero(x):
		t.Errorf("%s; %s: true, and %s", sample.ShowSchema(s), sample.ShowSchema(u), sample.ShowNode(x))
	}
	return is
}

// P12.6, P12.2
func TestIncluded(t *testing.T) {
	list := sample.Schemas()
	documentsOf := make([]map[int]bool, len(list))
	for i, s := range list {
		documentsOf[i] = map[int]bool{}
		for number, x := range documents {
			if is, _ := schema.Accepts(s, x); is {
				documentsOf[i][number] = true
			}
		}
	}
	holds := 0
	for i, s := range list {
		for j, u := range list {
			if !checkIncluded(t, s, u) {
				continue
			}
			holds++
			for number := range documentsOf[i] {
				if !documentsOf[j][number] {
					t.Errorf("%s; %s: true, but there is %s", sample.ShowSchema(s), sample.ShowSchema(u), sample.ShowNode(documents[number]))
				}
			}
		}
	}
	if holds < len(list) {
		t.Errorf("%d schemas are included in one", holds)
	}
}

// P12.6: inclusions that hold, and some that do not.
func TestIncludedExamples(t *testing.T) {
	all, none := sample.AllDocuments(2), api.Schema{Labels: 2}
	a := sample.Letter(0)
	up := single(choice(a))
	two := single(choice(sample.Op(api.Concat, a, a)))
	many := single(sample.Op(api.Star, a))
	tests := []struct {
		s, u api.Schema
		want bool
	}{
		{all, all, true}, {none, none, true}, {none, all, true}, {all, none, false}, {none, up, true}, {up, none, false},
		{sample.Items(), all, true}, {all, sample.Items(), false}, {sample.Items(), sample.Items(), true}, {sample.Items(), many, false},
		{up, many, true}, {many, up, false}, {two, many, true}, {two, up, false}, {up, two, false}, {many, all, true},
		{single(a), up, true}, {single(a), none, true}, {sample.Alternating(), all, true}, {sample.Alternating(), sample.Items(), false},
		{single(sample.Op(api.Star, choice(a))), many, true}, {many, single(choice(sample.Op(api.Concat, a, sample.Op(api.Star, a)))), true},
	}
	for _, test := range tests {
		is, x, e := schema.Included(test.s, test.u)
		if e == api.ErrFull && positions(test.u) > 7 {
			continue
		}
		if e != api.OK || is != test.want || !is && (!sample.IsDocument(test.s, x) || sample.IsDocument(test.u, x)) {
			t.Errorf("%s; %s: got %t, %s, error %d", sample.ShowSchema(test.s), sample.ShowSchema(test.u), is, sample.ShowNode(x), e)
		}
	}
}

// P12.6: schemas with other numbers of labels. ErrArg comes before ErrDim.
func TestIncludedLabels(t *testing.T) {
	for m := 1; m <= api.MaxLabels; m++ {
		for n := 1; n <= api.MaxLabels; n++ {
			s, u := api.Schema{Labels: m}, single(sample.Op(api.Empty))
			u.Labels = n
			is, x, e := schema.Included(s, u)
			if m == n && (!is || e != api.OK) || m != n && (is || e != api.ErrDim) || !isZero(x) {
				t.Errorf("%d and %d labels: %t, error %d", m, n, is, e)
			}
			is, x, e = schema.Included(u, s)
			if m == n && (is || e != api.OK) || m != n && (is || e != api.ErrDim) || !isZero(x) {
				t.Errorf("%d and %d labels: %t, error %d", n, m, is, e)
			}
		}
	}
	for i, bad := range sample.BadSchemas() {
		for _, pair := range [][2]api.Schema{{bad, {Labels: 5}}, {{Labels: 5}, bad}, {bad, bad}} {
			if is, x, e := schema.Included(pair[0], pair[1]); is || !isZero(x) || e != api.ErrArg {
				t.Errorf("bad schema %d: %t, error %d", i, is, e)
			}
		}
	}
}

// P12.6: large documents, of which those with more than 149 nodes may be too
// large.
func TestIncludedLimit(t *testing.T) {
	for _, nodes := range []int{30, 149, 150, 300} {
		s := sample.LargeSchema(nodes)
		if is, x, e := schema.Included(s, api.Schema{Labels: 3}); (e != api.ErrFull || nodes <= 149) && (is || e != api.OK || !sample.IsDocument(s, x)) {
			t.Errorf("%d nodes: %t, %s, error %d", nodes, is, sample.ShowNode(x), e)
		}
	}
	for _, s := range []api.Schema{full(), sample.LargeSchema(300)} {
		others := sample.AllDocuments(s.Labels)
		if is, x, e := schema.Included(s, others); (!is || e != api.OK || !isZero(x)) && e != api.ErrFull {
			t.Errorf("all documents: %t, error %d", is, e)
		}
	}
}

// chains returns a schema for the chains with a number of nodes that is
// divisible by k.
func chains(k int) api.Schema {
	s := api.Schema{Labels: 1, Start: []int{k - 1}}
	for number := range k {
		content := sample.Letter((number + k - 1) % k)
		if number == 0 {
			content = choice(content)
		}
		s.Types = append(s.Types, api.Type{Content: content})
	}
	return s
}

// P12.6: examples that are not small.
func TestIncludedChains(t *testing.T) {
	for k := 1; k <= api.MaxTypes; k++ {
		for l := 1; l <= api.MaxTypes; l++ {
			is, x, e := schema.Included(chains(k), chains(l))
			if e == api.ErrFull && positions(chains(l)) > 7 {
				continue
			}
			size := sample.NodeSize(x)
			if e != api.OK || is != (k%l == 0) || !is && (size%k != 0 || size%l == 0 || !sample.EqualNodes(x, sample.ChainNode(size, 0))) {
				t.Errorf("%d and %d: %t, %s, error %d", k, l, is, sample.ShowNode(x), e)
			}
		}
	}
}
