package count

import (
	"boskage/api"
	"boskage/tree"
)

// weights contains for each state what a tree with this state counts. Where the
// tree is to be a subtree, this is the number of ways to choose what follows it
// in a larger tree.
type weights []number

// final returns 1 for each final state, and 0 for all others.
func (t *table) final() weights {
	w := make(weights, t.a.States)
	for _, state := range t.a.Final {
		w[state] = 1
	}
	return w
}

// option is what a tree may have: a list of states for its subtrees, and the
// state To for itself. Of the subtrees, those that are chosen are left out.
type option struct {
	list, to int
}

// options returns the options for trees with a symbol that count.
func (t *table) options(sym int, w weights) []option {
	var options []option
	for state, weight := range w {
		if weight == 0 {
			continue
		}
		for _, l := range t.rules[sym][state] {
			options = append(options, option{l, state})
		}
	}
	return options
}

// weigh returns the sum of the weights of the trees with these options, where
// the subtrees that are not chosen have the given number of nodes together.
func (t *table) weigh(options []option, w weights, nodes int) number {
	var sum number
	for _, o := range options {
		sum = sum.plus(w[o.to].times(t.forests[o.list][nodes]))
	}
	return sum
}

// weighFirst is weigh for the trees in which the first of these subtrees has
// the given size.
func (t *table) weighFirst(options []option, w weights, nodes, size int) number {
	var sum number
	for _, o := range options {
		l := t.lists[o.list]
		if trees := t.trees[l.first][size]; trees > 0 {
			sum = sum.plus(trees.times(t.forests[l.rest][nodes-size].times(w[o.to])))
		}
	}
	return sum
}

// below returns the weights of the first of these subtrees, where the others
// have the given number of nodes together.
func (t *table) below(options []option, w weights, nodes int) weights {
	first := make(weights, t.a.States)
	for _, o := range options {
		l := t.lists[o.list]
		first[l.first] = first[l.first].plus(w[o.to].times(t.forests[l.rest][nodes]))
	}
	return first
}

// following returns the options that remain when a first subtree with a given
// state is chosen.
func (t *table) following(options []option, state int) []option {
	var rest []option
	for _, o := range options {
		if t.lists[o.list].first == state {
			rest = append(rest, option{t.lists[o.list].rest, o.to})
		}
	}
	return rest
}

// choose returns the first tree with n nodes for which the weights of the trees
// with n nodes from the first one to it have a sum above k. It also returns the
// state of this tree, and k without the weights of those before it.
func (t *table) choose(w weights, n int, k number) (api.Tree, int, number) {
	sym, nodes := 0, n-1
	options := t.options(sym, w)
	for weight := t.weigh(options, w, nodes); weight <= k; weight = t.weigh(options, w, nodes) {
		k -= weight
		sym++
		options = t.options(sym, w)
	}
	x := api.Tree{Sym: sym}
	for range t.al.Ranks[sym] {
		size := 1
		for weight := t.weighFirst(options, w, nodes, size); weight <= k; weight = t.weighFirst(options, w, nodes, size) {
			k -= weight
			size++
		}
		nodes -= size
		kid, state, rest := t.choose(t.below(options, w, nodes), size, k)
		x.Kids = append(x.Kids, kid)
		options, k = t.following(options, state), rest
	}
	return x, options[0].to, k
}

// before returns the sum of the weights of the trees that come before x and
// have as many nodes. It also returns the state of x. Each part of x counts, and
// the table is known up to the sizes of the subtrees of x.
func (t *table) before(w weights, x api.Tree) (number, int) {
	var sum number
	nodes := tree.Size(x) - 1
	for sym := range x.Sym {
		sum = sum.plus(t.weigh(t.options(sym, w), w, nodes))
	}
	options := t.options(x.Sym, w)
	for _, kid := range x.Kids {
		size := tree.Size(kid)
		for smaller := 1; smaller < size; smaller++ {
			sum = sum.plus(t.weighFirst(options, w, nodes, smaller))
		}
		nodes -= size
		more, state := t.before(t.below(options, w, nodes), kid)
		sum = sum.plus(more)
		options = t.following(options, state)
	}
	return sum, options[0].to
}

// nth returns the accepted tree before which there are k accepted trees. It
// returns ErrNone if there is none, and ErrFull if it has more than MaxSize
// nodes.
func (t *table) nth(k number, finite bool) (api.Tree, api.Errno) {
	rest := k
	for n := 1; n <= api.MaxSize; n++ {
		accepted := t.accepted(n)
		if rest < accepted {
			x, _, _ := t.choose(t.final(), n, rest)
			return x, api.OK
		}
		rest -= accepted
	}
	if finite && t.total() <= k {
		return api.Tree{}, api.ErrNone
	}
	return api.Tree{}, api.ErrFull
}
