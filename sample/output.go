package sample

import "boskage/api"

// OutputOf returns the output of state q of tr for t, or false if it is not
// defined.
func OutputOf(tr api.Transducer, q int, t api.Tree) (api.Tree, bool) {
	if len(tr.Rules[q][t.Sym]) == 0 {
		return api.Tree{}, false
	}
	return replaced(tr, tr.Rules[q][t.Sym][0], t.Kids)
}

// replaced returns a right-hand side with its calls replaced by the outputs for
// the subtrees, or false if one of them is not defined.
func replaced(tr api.Transducer, x api.Out, subtrees []api.Tree) (api.Tree, bool) {
	if x.Call {
		return OutputOf(tr, x.State, subtrees[x.Kid])
	}
	t := Tree(x.Sym)
	for _, kid := range x.Kids {
		y, ok := replaced(tr, kid, subtrees)
		if !ok {
			return api.Tree{}, false
		}
		t.Kids = append(t.Kids, y)
	}
	return t, true
}

// Output returns the output of tr for t, or false if it is not defined.
func Output(tr api.Transducer, t api.Tree) (api.Tree, bool) {
	if !TopdownAccepts(tr.Domain, t) {
		return api.Tree{}, false
	}
	return replaced(tr, tr.Axiom, []api.Tree{t})
}
