package query_test

import (
	"boskage/api"
	"boskage/auto"
	"boskage/boolean"
	"boskage/empty"
	"boskage/hedge"
	"boskage/path"
	"boskage/query"
	"boskage/sample"
	"boskage/samplepath"
	"boskage/schema"
	"slices"
	"testing"
)

// smallest returns the number of nodes of a smallest unranked tree whose encoding
// a accepts, or 0 if there is none.
func smallest(t *testing.T, al api.Alphabet, a api.Automaton) int {
	t.Helper()
	sizes, e := empty.Sizes(al, a)
	if e != api.OK {
		t.Fatalf("error %d", e)
	}
	best := 0
	for _, state := range a.Final {
		// The encoding has a leaf more than other nodes.
		if nodes := (sizes[state] - 1) / 2; sizes[state] > 0 && (best == 0 || nodes < best) {
			best = nodes
		}
	}
	return best
}

// P14.2, P14.6: the automata of schemas and of paths.
func TestByAutomata(t *testing.T) {
	compared := 0
	for n := 1; n <= 3; n++ {
		al, _ := hedge.Binary(n)
		var source sample.Source
		for range 40 {
			s := sample.Schema(&source, n, 1+source.Below(5), 1+source.Below(14))
			documents, _ := schema.Automaton(s)
			for range 15 {
				p := samplepath.Random(&source, n, 1+source.Below(3))
				a, e := query.Automaton(n, p)
				if e != api.OK {
					continue
				}
				if both, e := boolean.Meet(al, documents, a); e == api.OK {
					compared++
					if got, want := checkFewest(t, s, p, nil), smallest(t, al, both); got != want {
						t.Errorf("%s, %s: Fewest is %d, want %d", sample.ShowSchema(s), samplepath.Show(p), got, want)
					}
				}
				if only, e := boolean.Minus(al, documents, a); e == api.OK {
					compared++
					if got, want := checkAlways(t, s, p, nil), smallest(t, al, only); got != want {
						t.Errorf("%s, %s: Always gives %d nodes, want %d", sample.ShowSchema(s), samplepath.Show(p), got, want)
					}
				}
			}
		}
	}
	if compared < 1000 {
		t.Errorf("%d comparisons", compared)
	}
}

// marks makes a path over one label one over two labels that selects the nodes
// with the label 1 that the path selects in the tree without labels.
func marks(p path.Path) path.Path {
	p = unlabeled(p)
	p.Steps[len(p.Steps)-1].Label = 1
	return p
}

func unlabeled(p path.Path) path.Path {
	p = samplepath.Copy(p)
	for i, s := range p.Steps {
		p.Steps[i].Label = -1
		for j, test := range s.Tests {
			p.Steps[i].Tests[j].Path = unlabeled(test.Path)
		}
	}
	return p
}

// markedOnce returns an automaton for the encodings over two labels with exactly one
// node 1 of the trees that a accepts, where a is over one label.
func markedOnce(t *testing.T, a api.Automaton) api.Automaton {
	t.Helper()
	one, _ := hedge.Binary(1)
	two, _ := hedge.Binary(2)
	// The states are the numbers of nodes 1.
	once := api.Automaton{States: 2, Final: []int{1}, Rules: []api.Rule{
		sample.Rule(2, 0), sample.Rule(0, 0, 0, 0), sample.Rule(0, 1, 1, 0), sample.Rule(0, 1, 0, 1), sample.Rule(1, 1, 0, 0),
	}}
	all, e := boolean.Unlabel(two, one, []int{0, 0, 1}, a)
	if e != api.OK {
		t.Fatalf("error %d", e)
	}
	both, e := boolean.Meet(two, all, once)
	if e != api.OK {
		t.Fatalf("error %d", e)
	}
	return both
}

// P14.4, P14.5: for one label, paths that select a node with another label.
func TestPairsByAutomata(t *testing.T) {
	al, _ := hedge.Binary(2)
	compared := 0
	var source sample.Source
	list := slices.Concat(samplepath.All(1, 1), samplepath.All(1, 2), samplepath.RandomList(1, 30, 3))
	for range 30 {
		s := sample.Schema(&source, 1, 1+source.Below(4), 1+source.Below(10))
		a, _ := schema.Automaton(s)
		documents := markedOnce(t, a)
		for range 40 {
			p, q := list[source.Below(len(list))], list[source.Below(len(list))]
			left, _ := query.Automaton(2, marks(p))
			right, _ := query.Automaton(2, marks(q))
			selected, e := boolean.Meet(al, documents, left)
			contained, overlap, answered := checkPair(t, s, p, q, nil)
			if e != api.OK || !answered {
				continue
			}
			if only, e := boolean.Minus(al, selected, right); e == api.OK {
				compared++
				if isEmpty, _ := empty.Empty(al, only); isEmpty != contained {
					t.Errorf("%s, %s and %s: Contained is %t", sample.ShowSchema(s), samplepath.Show(p), samplepath.Show(q), contained)
				}
			}
			if both, e := boolean.Meet(al, selected, right); e == api.OK {
				compared++
				if isEmpty, _ := empty.Empty(al, both); isEmpty == overlap {
					t.Errorf("%s, %s and %s: Overlap is %t", sample.ShowSchema(s), samplepath.Show(p), samplepath.Show(q), overlap)
				}
			}
		}
	}
	if compared < 1000 {
		t.Errorf("%d comparisons", compared)
	}
}

// P14.7: auto's Accepts and path's Select agree.
func TestAcceptsAndSelects(t *testing.T) {
	al, _ := hedge.Binary(3)
	var source sample.Source
	for _, p := range samplepath.RandomList(3, 100, 4) {
		a, e := query.Automaton(3, p)
		if e != api.OK {
			continue
		}
		for range 10 {
			x := sample.RandomNode(&source, 3, 1+source.Below(60))
			code, _ := hedge.Encode(3, []api.Node{x})
			is, e := auto.Accepts(al, a, code)
			nodes, e2 := path.Select(3, p, x)
			if e != api.OK || e2 != api.OK || is != (len(nodes) > 0) {
				t.Errorf("%s: %t, %v, errors %d and %d", samplepath.Show(p), is, nodes, e, e2)
			}
		}
	}
}
