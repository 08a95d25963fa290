package trans

import (
	"boskage/api"
	"boskage/side"
	"boskage/topdown"
	"boskage/tree"
)

// Numbers that stand for sizes of outputs.
const (
	undefined = 0
	// tooLarge stands for all sizes above MaxCount.
	tooLarge = api.MaxCount + 1
)

// Run returns the output of tr for t. Whether it is defined is found out first, as
// that counts more than how large it is.
func Run(tr api.Transducer, t api.Tree) (x api.Tree, e api.Errno) {
	if _, e := Size(tr, t); e != api.OK {
		return api.Tree{}, e
	}
	defer func() {
		if recover() != nil {
			x, e = api.Tree{}, api.ErrFull
		}
	}()
	return output(tr, t), api.OK
}

// output builds the output of tr for t, which is defined. It panics if there are
// too many nodes.
func output(tr api.Transducer, t api.Tree) api.Tree {
	nodes := 0
	var build func(x api.Out, below []api.Tree) api.Tree
	build = func(x api.Out, below []api.Tree) api.Tree {
		if x.Call {
			called := below[x.Kid]
			return build(tr.Rules[x.State][called.Sym][0], called.Kids)
		}
		nodes++
		if nodes > api.MaxResult {
			panic(api.ErrFull)
		}
		made := api.Tree{Sym: x.Sym}
		for _, kid := range x.Kids {
			made.Kids = append(made.Kids, build(kid, below))
		}
		return made
	}
	return build(tr.Axiom, []api.Tree{t})
}

// State returns the output of state q of tr for t: that of the transducer that
// only calls q, and whose Domain accepts all trees.
func State(tr api.Transducer, q int, t api.Tree) (api.Tree, api.Errno) {
	if !Valid(tr) || !tree.Valid(tr.In, t) {
		return api.Tree{}, api.ErrArg
	}
	if q < 0 || q >= tr.States {
		return api.Tree{}, api.ErrRange
	}
	everything, e := topdown.All(tr.In)
	if e != api.OK {
		return api.Tree{}, e
	}
	tr.Domain, tr.Axiom = everything, side.Call(q, 0)
	return Run(tr, t)
}

// Size returns the number of nodes of the output of tr for t.
func Size(tr api.Transducer, t api.Tree) (int, api.Errno) {
	if !Valid(tr) {
		return 0, api.ErrArg
	}
	accepted, e := topdown.Accepts(tr.In, tr.Domain, t)
	if e != api.OK {
		return 0, e
	}
	size := sizeOf(tr.Axiom, [][]int{sizes(tr, t)})
	if !accepted || size == undefined {
		return 0, api.ErrInput
	}
	if size == tooLarge {
		return 0, api.ErrFull
	}
	return size, api.OK
}

// sizes returns for each state of tr the size of its output for t.
func sizes(tr api.Transducer, t api.Tree) []int {
	var below [][]int
	for _, kid := range t.Kids {
		below = append(below, sizes(tr, kid))
	}
	list := make([]int, tr.States)
	for state, row := range tr.Rules {
		for _, x := range row[t.Sym] {
			list[state] = sizeOf(x, below)
		}
	}
	return list
}

// sizeOf returns the size of what a right-hand side stands for, where below
// contains the sizes of the outputs for the subtrees.
func sizeOf(x api.Out, below [][]int) int {
	total := 0
	for node := range side.Nodes(x) {
		size := 1
		if node.Call {
			size = below[node.Kid][node.State]
		}
		if size == undefined {
			return undefined
		}
		total = min(total, tooLarge-size) + size
	}
	return total
}
