package query_test

import (
	"boskage/api"
	"boskage/path"
	"boskage/query"
	"boskage/sample"
	"boskage/samplepath"
	"slices"
	"testing"
)

// some returns every so many elements of a list.
func some[T any](list []T, every int) []T {
	var chosen []T
	for i := 0; i < len(list); i += every {
		chosen = append(chosen, list[i])
	}
	return chosen
}

// P14.2, P14.3, P14.6, P14.8: all documents with few nodes.
func TestFewestAndAlways(t *testing.T) {
	few := samplepath.Upto(2, 2)
	for i, s := range sample.Schemas() {
		trees := valid(s)
		for _, p := range slices.Concat(some(few[i%3:], 3), samplepath.RandomList(2, 40, api.MaxSteps)) {
			checkFewest(t, s, p, trees)
			checkAlways(t, s, p, trees)
		}
	}
}

// P14.2, P14.3, P14.6
func TestExamples(t *testing.T) {
	alternating, all := sample.Alternating(), sample.AllDocuments(2)
	tests := []struct {
		s              api.Schema
		text           string
		fewest, always int
	}{
		{star(), "child::a/child::b", 2, 1},
		{star(), "desc::b/child::*", 0, 1},
		{star(), "child::*", 1, 0},
		{star(), "desc::a", 1, 0},
		{star(), "child::b", 0, 1},
		{star(), "desc::b/next::b/next::b", 4, 1},
		{star(), "child::a[!child::b]", 1, 2},
		{star(), "child::*[!child::a]", 1, 0},
		{sample.Items(), "child::a/child::b", 2, 0},
		{sample.Items(), "desc::b/next::*", 3, 2},
		{sample.Items(), "desc::b[!next::*]", 2, 0},
		{sample.Items(), "next::*", 0, 2},
		{alternating, "desc::a/child::b", 4, 1},
		{alternating, "child::b[child::a]", 2, 1},
		{alternating, "desc::b[!child::*]", 1, 1},
		{all, "desc::a[desc::b]/desc::a", 3, 1},
		{all, "desc::*[child::a][child::b]", 3, 1},
		{all, "desc::*[!child::*]", 1, 0},
		{all, "desc::a/child::*/child::*/child::*/child::*/next::b", 6, 1},
		{api.Schema{Labels: 2}, "desc::*", 0, 0},
		{api.Schema{Labels: 2}, "desc::*[!child::*]", 0, 0},
	}
	for _, test := range tests {
		p := read(t, 2, test.text)
		fewest, always := checkFewest(t, test.s, p, valid(test.s)), checkAlways(t, test.s, p, valid(test.s))
		if fewest != test.fewest || always != test.always {
			t.Errorf("%s: %d and %d, want %d and %d", test.text, fewest, always, test.fewest, test.always)
		}
	}
	if is, x, e := query.Always(star(), read(t, 2, "child::a/child::b")); is || e != api.OK || sample.ShowNode(x) != "a" {
		t.Errorf("%t, %s, error %d", is, sample.ShowNode(x), e)
	}
}

// P14.4, P14.5, P14.8: all documents with few nodes.
func TestPairs(t *testing.T) {
	one := samplepath.All(2, 1)
	list := slices.Concat(one, some(samplepath.All(2, 2), 9), samplepath.RandomList(2, 15, 4))
	for i, s := range sample.Schemas() {
		trees := valid(s)
		if len(trees) > 200 {
			trees = trees[:200]
		}
		for j, p := range list {
			for _, q := range some(list[(i+j)%9:], 9) {
				checkPair(t, s, p, q, trees)
			}
		}
	}
}

// P14.4, P14.5
func TestPairExamples(t *testing.T) {
	all := sample.AllDocuments(2)
	tests := []struct {
		s                  api.Schema
		p, q               string
		contained, overlap bool
	}{
		{star(), "desc::b", "child::a/child::*", true, true},
		{star(), "child::a/child::*", "desc::b", true, true},
		{star(), "desc::*", "child::a/child::*", false, true},
		{star(), "desc::b/child::*", "child::b", true, false},
		{star(), "desc::b/next::*", "desc::b[!next::*]", false, true},
		{star(), "desc::b[next::*]", "desc::b[!next::*]", false, false},
		{sample.Items(), "child::*", "desc::*[child::b]", true, true},
		{sample.AllDocuments(1), "desc::*/next::*", "desc::*[desc::*]", false, true},
		{all, "child::a", "desc::a", true, true},
		{all, "desc::a", "child::a", false, true},
		{all, "desc::a", "desc::b", false, false},
		{all, "desc::*/child::a", "desc::a", true, true},
		{all, "desc::a", "desc::*/child::a", false, true},
		{all, "desc::*/desc::a", "desc::*/child::a", true, true},
		{all, "desc::a/next::*/next::b", "desc::a/next::b", true, true},
		{all, "desc::a/next::b", "desc::a/next::*/next::b", false, true},
		{all, "desc::a[child::b]", "desc::a[desc::b]", true, true},
		{all, "desc::a[desc::b]", "desc::a[child::b]", false, true},
		{all, "desc::a[!desc::b]", "desc::a[!child::b]", true, true},
		{all, "desc::a[!child::b]", "desc::a[!desc::b]", false, true},
		{all, "desc::a[child::b]", "desc::a[!child::b]", false, false},
		{all, "desc::a[next::b][!next::*/next::*]", "desc::*/child::*", true, true},
		{all, "desc::b[!next::*]", "desc::a/next::*", false, true},
		{all, "child::b", "desc::*[!child::a]", false, true},
		{all, "next::a", "child::b", true, false},
		{api.Schema{Labels: 2}, "desc::*", "child::a", true, false},
	}
	for _, test := range tests {
		contained, overlap, answered := checkPair(t, test.s, read(t, 2, test.p), read(t, 2, test.q), valid(test.s))
		if contained != test.contained || overlap != test.overlap || !answered {
			t.Errorf("%s and %s: %t, %t (answered: %t)", test.p, test.q, contained, overlap, answered)
		}
	}
}

// P14.9: containment is reflexive, and what is contained overlaps.
func TestOrder(t *testing.T) {
	list := append(samplepath.All(2, 1), samplepath.RandomList(2, 16, 3)...)
	for _, s := range some(sample.Schemas(), 6) {
		contained := make([][]bool, len(list))
		for i, p := range list {
			fewest := checkFewest(t, s, p, nil)
			for j, q := range list {
				is, overlap, answered := checkPair(t, s, p, q, nil)
				contained[i] = append(contained[i], is)
				if i == j && answered && (!is || overlap != (fewest > 0)) {
					t.Errorf("%s: contained in itself: %t, overlap: %t", samplepath.Show(p), is, overlap)
				}
				if is && fewest > 0 && answered && (!overlap || checkFewest(t, s, q, nil) == 0) {
					t.Errorf("%s is contained in %s, and nothing shows it", samplepath.Show(p), samplepath.Show(q))
				}
				if _, back, known := checkPair(t, s, q, p, nil); answered && known && back != overlap {
					t.Errorf("%s and %s: overlap: %t and %t", samplepath.Show(p), samplepath.Show(q), overlap, back)
				}
			}
		}
		for i := range list {
			for j := range list {
				for k := range list {
					if contained[i][j] && contained[j][k] && !contained[i][k] {
						t.Errorf("%s, %s, %s: not transitive", samplepath.Show(list[i]), samplepath.Show(list[j]), samplepath.Show(list[k]))
					}
				}
			}
		}
	}
}

// P14.10: a path with another test is contained in the path.
func TestMoreTests(t *testing.T) {
	list := append(samplepath.All(2, 1), samplepath.RandomList(2, 20, 2)...)
	for i, s := range some(sample.Schemas(), 5) {
		for j, p := range list {
			for k, q := range list {
				more := samplepath.Copy(p)
				last := &more.Steps[len(more.Steps)-1]
				last.Tests = append(last.Tests, path.Test{Not: (i+j+k)%2 == 0, Path: q})
				if is, _, answered := checkPair(t, s, more, p, nil); answered && !is {
					t.Errorf("%s is not contained in %s", samplepath.Show(more), samplepath.Show(p))
				}
			}
		}
	}
}
