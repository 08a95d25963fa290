package count_test

import (
	"boskage/api"
	"boskage/count"
	"boskage/sample"
	"boskage/tree"
	"math/big"
	"slices"
	"testing"
)

// all has each rank.
var all = api.Alphabet{Ranks: []int{0, 1, 2, 3}}

// chains has a (rank 0), g and h (rank 1).
var chains = api.Alphabet{Ranks: []int{0, 1, 1}}

// forAll calls f with alphabets and automata over them, many of which have a
// finite language.
func forAll(f func(al api.Alphabet, a api.Automaton)) {
	var s sample.Source
	for _, al := range sample.Alphabets() {
		for i, a := range append(sample.Automata(al), api.Automaton{}, api.Automaton{States: 3, Final: []int{0, 1, 2}}, sample.Everything(al)) {
			if i%2 == 0 {
				f(al, a)
			} else {
				f(al, sample.Acyclic(&s, al, a.States, len(a.Rules)))
			}
		}
	}
}

// smallTrees returns all trees with up to n nodes, in the order of trees, and n,
// which is as large as possible for 200 trees, and 9 at most.
func smallTrees(al api.Alphabet) ([]api.Tree, int) {
	var trees []api.Tree
	for n := 1; ; n++ {
		more, e := tree.All(al, n)
		if n > 9 || e != api.OK || len(trees)+len(more) > 200 {
			return trees, n - 1
		}
		trees = append(trees, more...)
	}
}

// acceptedOf returns those of the trees that a accepts.
func acceptedOf(a api.Automaton, trees []api.Tree) []api.Tree {
	var accepted []api.Tree
	for _, x := range trees {
		if sample.Accepts(a, x) {
			accepted = append(accepted, x)
		}
	}
	return accepted
}

// tally contains numbers of trees by the sets of states that runs assign to
// their roots. A set is a string of a byte for each state.
type tally map[string]*big.Int

// add adds to the numbers for a node with a symbol above trees with one of the
// numbers each.
func (sum tally) add(a api.Automaton, sym int, kids []tally) {
	var sets [][]int
	var visit func(rest []tally, number *big.Int)
	visit = func(rest []tally, number *big.Int) {
		if len(rest) == 0 {
			set := ""
			for _, state := range sample.Targets(a, sym, sets) {
				set += string(rune(state))
			}
			known := sum[set]
			if known == nil {
				known = new(big.Int)
			}
			sum[set] = known.Add(known, number)
			return
		}
		for set, trees := range rest[0] {
			var states []int
			for _, state := range set {
				states = append(states, int(state))
			}
			sets = append(sets, states)
			visit(rest[1:], new(big.Int).Mul(number, trees))
			sets = sets[:len(sets)-1]
		}
	}
	visit(kids, big.NewInt(1))
}

// accepted returns the number of the trees that a accepts.
func (sum tally) accepted(a api.Automaton) *big.Int {
	number := new(big.Int)
	for set, trees := range sum {
		for _, state := range set {
			if slices.Contains(a.Final, int(state)) {
				number.Add(number, trees)
				break
			}
		}
	}
	return number
}

// bySize returns the numbers of trees with 0 to most nodes.
func bySize(al api.Alphabet, a api.Automaton, most int) []tally {
	list := []tally{{}}
	for n := 1; n <= most; n++ {
		sum := tally{}
		for sym, rank := range al.Ranks {
			forSizes(rank, n-1, func(sizes []int) {
				var kids []tally
				for _, size := range sizes {
					kids = append(kids, list[size])
				}
				sum.add(a, sym, kids)
			})
		}
		list = append(list, sum)
	}
	return list
}

// forSizes calls f with all lists of sizes with a given sum.
func forSizes(length, sum int, f func(sizes []int)) {
	if length == 0 {
		if sum == 0 {
			f(nil)
		}
		return
	}
	for first := 1; first <= sum; first++ {
		forSizes(length-1, sum-first, func(rest []int) { f(append([]int{first}, rest...)) })
	}
}

// byDepth returns the numbers of the trees with a depth of at most n.
func byDepth(al api.Alphabet, a api.Automaton, n int) tally {
	sum := tally{}
	for range n {
		next := tally{}
		for sym, rank := range al.Ranks {
			next.add(a, sym, slices.Repeat([]tally{sum}, rank))
		}
		sum = next
	}
	return sum
}

// checkNumber checks a number of trees: it is what the limit permits.
func checkNumber(t *testing.T, what string, got int, e api.Errno, want *big.Int) {
	t.Helper()
	if want.Cmp(big.NewInt(api.MaxCount)) > 0 {
		checkRefused(t, what, got, e, api.ErrFull)
	} else if int64(got) != want.Int64() || e != api.OK {
		t.Errorf("%s: %d, error %d, want %d", what, got, e, want)
	}
}

// checkRefused checks a number that comes with an error.
func checkRefused(t *testing.T, what string, got int, e, want api.Errno) {
	t.Helper()
	if got != 0 || e != want {
		t.Errorf("%s: %d, error %d, want error %d", what, got, e, want)
	}
}

// checkTree checks a tree.
func checkTree(t *testing.T, what string, got api.Tree, e api.Errno, want api.Tree) {
	t.Helper()
	if tree.Compare(got, want) != 0 || e != api.OK {
		t.Errorf("%s: %v, error %d, want %v", what, got, e, want)
	}
}

// checkNoTree checks a tree that comes with an error.
func checkNoTree(t *testing.T, what string, got api.Tree, e, want api.Errno) {
	t.Helper()
	if got.Sym != 0 || len(got.Kids) > 0 || e != want {
		t.Errorf("%s: %v, error %d, want error %d", what, got, e, want)
	}
}

// checkList checks a list of trees.
func checkList(t *testing.T, what string, got []api.Tree, e api.Errno, want []api.Tree) {
	t.Helper()
	if e != api.OK || !slices.EqualFunc(got, want, equalTrees) {
		t.Errorf("%s: %v, error %d, want %v", what, got, e, want)
	}
}

func equalTrees(x, y api.Tree) bool {
	return tree.Compare(x, y) == 0
}

// checkPlace checks that x is the accepted tree before which there are k.
func checkPlace(t *testing.T, al api.Alphabet, a api.Automaton, k int, x api.Tree) {
	t.Helper()
	got, e := count.Nth(al, a, k)
	checkTree(t, "Nth", got, e, x)
	rank, e := count.Rank(al, a, x)
	if rank != k || e != api.OK {
		t.Errorf("Rank: %d, error %d, want %d", rank, e, k)
	}
}

// word returns the tree over chains before which there are k trees: one with
// more nodes than digits in k + 1, whose digits after the first one are its
// symbols.
func word(k int) api.Tree {
	x := sample.Tree(0)
	for code := k + 1; code > 1; code /= 2 {
		x = sample.Tree(1+code%2, x)
	}
	return x
}

// levels returns an automaton over chains that accepts the trees with one of
// the numbers of nodes, which are positive and in increasing order.
func levels(nodes ...int) api.Automaton {
	a := api.Automaton{States: nodes[len(nodes)-1], Rules: []api.Rule{sample.Rule(0, 0)}}
	for _, n := range nodes {
		a.Final = append(a.Final, n-1)
	}
	for state := range a.States - 1 {
		a.Rules = append(a.Rules, sample.Rule(1, state+1, state), sample.Rule(2, state+1, state))
	}
	return a
}

// upTo returns the numbers from 1 to n.
func upTo(n int) []int {
	var list []int
	for number := range n {
		list = append(list, number+1)
	}
	return list
}

// twoProducts returns an automaton over an alphabet with the ranks 0, 0, 1, 1,
// 1, 2 and 2. The trees with the last symbols at the root are 4 * 3^39 each,
// which is a little less than 2^64.
func twoProducts() api.Automaton {
	a := api.Automaton{States: 22, Final: []int{21}, Rules: []api.Rule{
		sample.Rule(0, 0), sample.Rule(1, 0), sample.Rule(5, 21, 20, 19), sample.Rule(6, 21, 20, 19),
	}}
	for state := range 20 {
		a.Rules = append(a.Rules, sample.Rule(2, state+1, state), sample.Rule(3, state+1, state), sample.Rule(4, state+1, state))
	}
	return a
}
