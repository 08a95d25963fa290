package query_test

import (
	"boskage/api"
	"boskage/hedge"
	"boskage/path"
	"boskage/query"
	"boskage/sample"
	"boskage/samplepath"
	"boskage/schema"
	"slices"
	"strings"
	"testing"
)

// letters are names of as many labels as there can be.
var letters = strings.Split("abcdefgh", "")

// documents are all unranked trees over two labels with at most mostNodes nodes.
var documents = sample.Documents(2, mostNodes)

const mostNodes = 5

// read reads a path over n labels.
func read(t *testing.T, n int, text string) path.Path {
	t.Helper()
	p, e := path.Parse(n, letters[:n], text)
	if e != api.OK {
		t.Fatalf("%s: error %d", text, e)
	}
	return p
}

// readNode reads an unranked tree.
func readNode(t *testing.T, text string) api.Node {
	t.Helper()
	h, e := hedge.Parse(api.MaxLabels, letters, text)
	if e != api.OK || len(h) != 1 {
		t.Fatalf("%s: error %d", text, e)
	}
	return h[0]
}

// star makes the schema of the chapter's example: a root a with children b.
func star() api.Schema {
	return api.Schema{Labels: 2, Types: []api.Type{
		{Label: 0, Content: sample.Op(api.Star, sample.Letter(1))}, {Label: 1, Content: sample.Op(api.Empty)},
	}, Start: []int{0}}
}

// isZero reports whether x is the zero tree.
func isZero(x api.Node) bool {
	return x.Label == 0 && len(x.Kids) == 0
}

// valid returns the documents of a schema over two labels with at most mostNodes
// nodes.
func valid(s api.Schema) []api.Node {
	return slices.DeleteFunc(slices.Clone(documents), func(x api.Node) bool { return !sample.IsDocument(s, x) })
}

// mustAnswer reports whether a question about paths has a size for which it must
// be answered, unless documents are too large.
func mustAnswer(t *testing.T, s api.Schema, paths ...path.Path) bool {
	t.Helper()
	a, e := schema.Automaton(s)
	if e != api.OK {
		t.Fatalf("error %d", e)
	}
	size := 2 * a.States
	for _, p := range paths {
		for range path.Length(p) {
			size *= 4
		}
	}
	return size <= 20000
}

// least returns the number of nodes of the first of the documents with a
// property, which are in the order of their sizes, or 0 if there is none.
func least(documents []api.Node, has func(x api.Node) bool) int {
	for _, x := range documents {
		if has(x) {
			return sample.NodeSize(x)
		}
	}
	return 0
}

// agrees reports whether got, the number of nodes of a smallest document with a
// property or 0 if there is none, agrees with the number for the documents with
// at most mostNodes nodes.
func agrees(got, want int) bool {
	return got == want || want == 0 && got > mostNodes
}

// selectsSome reports whether p selects some node in x.
func selectsSome(p path.Path, x api.Node) bool {
	return len(samplepath.Select(p, x)) > 0
}

// checkFewest checks Fewest and Witness, and returns the number of nodes, 0 if
// there is no document, or -1 if too much is asked. The documents, unless they
// are nil, are those with at most mostNodes nodes.
func checkFewest(t *testing.T, s api.Schema, p path.Path, documents []api.Node) int {
	t.Helper()
	name := samplepath.Show(p) + ", " + sample.ShowSchema(s)
	number, e := query.Fewest(s, p)
	x, e2 := query.Witness(s, p)
	if e != e2 || e == api.OK && (number != sample.NodeSize(x) || !sample.IsDocument(s, x) || !selectsSome(p, x)) {
		t.Errorf("%s: %d nodes, error %d, and %s, error %d", name, number, e, sample.ShowNode(x), e2)
	}
	if e != api.OK && (number != 0 || !isZero(x)) {
		t.Errorf("%s: %d nodes, %s, error %d", name, number, sample.ShowNode(x), e)
	}
	if e == api.ErrFull && !mustAnswer(t, s, p) {
		return -1
	}
	want := least(documents, func(x api.Node) bool { return selectsSome(p, x) })
	if e != api.OK && e != api.ErrNone || documents != nil && !agrees(number, want) {
		t.Errorf("%s: %d nodes, error %d, want %d", name, number, e, want)
	}
	return number
}

// checkAlways checks Always as checkFewest does, and returns the number of nodes
// of its document.
func checkAlways(t *testing.T, s api.Schema, p path.Path, documents []api.Node) int {
	t.Helper()
	name := samplepath.Show(p) + ", " + sample.ShowSchema(s)
	is, x, e := query.Always(s, p)
	if e == api.ErrFull && !is && isZero(x) && !mustAnswer(t, s, p) {
		return -1
	}
	number := sample.NodeSize(x)
	if is {
		number = 0
	}
	if e != api.OK || is && !isZero(x) || !is && (!sample.IsDocument(s, x) || selectsSome(p, x)) {
		t.Errorf("%s: %t, %s, error %d", name, is, sample.ShowNode(x), e)
	}
	want := least(documents, func(x api.Node) bool { return !selectsSome(p, x) })
	if documents != nil && !agrees(number, want) {
		t.Errorf("%s: %t, %d nodes, want %d", name, is, number, want)
	}
	return number
}

// checkPair checks Contained and Overlap with the documents, and returns what
// they report. The last result is false if too much is asked.
func checkPair(t *testing.T, s api.Schema, p, q path.Path, documents []api.Node) (contained, overlap, answered bool) {
	t.Helper()
	name := samplepath.Show(p) + " and " + samplepath.Show(q) + ", " + sample.ShowSchema(s)
	// seen reports whether some document shows the claim that a node that p
	// selects is selected by q, or not.
	seen := func(documents []api.Node, both bool) bool {
		return slices.ContainsFunc(documents, func(x api.Node) bool {
			one, two := samplepath.Select(p, x), samplepath.Select(q, x)
			return slices.ContainsFunc(one, func(v int) bool { return slices.Contains(two, v) == both })
		})
	}
	check := func(what string, shown, both bool, x api.Node, v int, e api.Errno) bool {
		if e == api.ErrFull && !mustAnswer(t, s, p, q) {
			if !isZero(x) || v != 0 || shown {
				t.Errorf("%s: %s: %s, %d, error %d", name, what, sample.ShowNode(x), v, e)
			}
			return false
		}
		if e != api.OK || !shown && (!isZero(x) || v != 0) {
			t.Errorf("%s: %s: %t, %s, %d, error %d", name, what, shown, sample.ShowNode(x), v, e)
		}
		if !shown && seen(documents, both) {
			t.Errorf("%s: %s: there is a document", name, what)
		}
		one, two := samplepath.Select(p, x), samplepath.Select(q, x)
		if shown && (!sample.IsDocument(s, x) || !slices.Contains(one, v) || slices.Contains(two, v) != both) {
			t.Errorf("%s: %s: %s, node %d", name, what, sample.ShowNode(x), v)
		}
		return true
	}
	contained, x, v, e := query.Contained(s, p, q)
	answered = check("Contained", !contained && e == api.OK, false, x, v, e)
	overlap, x, v, e = query.Overlap(s, p, q)
	answered = check("Overlap", overlap, true, x, v, e) && answered
	return contained, overlap, answered
}
