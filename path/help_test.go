package path_test

import (
	"boskage/api"
	"boskage/hedge"
	"boskage/path"
	"boskage/sample"
	"boskage/samplepath"
	"slices"
	"testing"
)

// letters are names of as many labels as there can be.
var letters = []string{"a", "b", "c", "d", "e", "f", "g", "h"}

// badLabels are numbers of labels that are out of range.
var badLabels = []int{0, -1, api.MaxLabels + 1, 1 << 40, -1 << 63, 1<<63 - 1}

// small are all unranked trees over two labels with at most 4 nodes.
var small = sample.Documents(2, 4)

// far are numbers that are no nodes of any tree.
var far = []int{-1, -2, api.MaxSize, 1 << 40, -1 << 63, 1<<63 - 1}

// read reads a path over eight labels.
func read(t *testing.T, text string) path.Path {
	t.Helper()
	p, e := path.Parse(api.MaxLabels, letters, text)
	if e != api.OK || samplepath.Show(p) != text {
		t.Fatalf("%s: %s, error %d", text, samplepath.Show(p), e)
	}
	return p
}

// readNode reads an unranked tree over eight labels.
func readNode(t *testing.T, text string) api.Node {
	t.Helper()
	h, e := hedge.Parse(api.MaxLabels, letters, text)
	if e != api.OK || len(h) != 1 {
		t.Fatalf("%s: error %d", text, e)
	}
	return h[0]
}

// checkNodes checks a list of nodes.
func checkNodes(t *testing.T, what string, got []int, e api.Errno, want []int) {
	t.Helper()
	if e != api.OK || !slices.Equal(got, want) {
		t.Errorf("%s: got %v, error %d, want %v", what, got, e, want)
	}
}

// checkError checks an error, and that there is no result beside it.
func checkError(t *testing.T, what string, zero bool, e, want api.Errno) {
	t.Helper()
	if e != want || !zero {
		t.Errorf("%s: error %d, want %d (no other result: %t)", what, e, want, zero)
	}
}

// checkPath checks a path and its error.
func checkPath(t *testing.T, what string, got path.Path, e api.Errno, want path.Path, wantE api.Errno) {
	t.Helper()
	if e != wantE || !samplepath.Equal(got, want) {
		t.Errorf("%s: got %s, error %d, want %s, error %d", what, samplepath.Show(got), e, samplepath.Show(want), wantE)
	}
}

// checkSelect checks Select, From and Passes for a path and a tree.
func checkSelect(t *testing.T, n int, p path.Path, x api.Node) {
	t.Helper()
	d := samplepath.NewDocument(x)
	name := samplepath.Show(p) + " in " + sample.ShowNode(x)
	got, e := path.Select(n, p, x)
	checkNodes(t, name, got, e, d.From(p, samplepath.DocumentNode))
	last := p.Steps[len(p.Steps)-1]
	for v := range d.Labels {
		got, e = path.From(n, p, x, v)
		checkNodes(t, name+" from a node", got, e, d.From(p, v))
		is, e := path.Passes(n, p, x, v)
		if e != api.OK || is != d.Passes(last, v) {
			t.Errorf("%s: Passes of %d is %t, error %d", name, v, is, e)
		}
	}
}
