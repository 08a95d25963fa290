package boolean_test

import (
	"boskage/api"
	"boskage/boolean"
	"boskage/sample"
	"boskage/tree"
	"slices"
	"testing"
)

// relabeling replaces the symbols of an alphabet by those of another one.
type relabeling struct {
	al, to  api.Alphabet
	symbols []int
}

// relabelings returns some that exchange, unite, keep or leave out symbols.
func relabelings() []relabeling {
	over := func(ranks ...int) api.Alphabet { return api.Alphabet{Ranks: ranks} }
	return []relabeling{
		{over(), over(), nil},
		{over(), over(0, 1), []int{}},
		{over(0, 0, 1, 2), over(0, 1, 2), []int{0, 0, 1, 2}},
		{over(0, 0, 1, 2), over(0, 0, 1, 2), []int{1, 0, 2, 3}},
		{over(0, 0, 1, 2), over(0, 0, 1, 2), []int{0, 1, 2, 3}},
		{over(0, 2), over(2, 1, 0, 0), []int{3, 0}},
		{over(0, 1, 1), over(1, 0, 3), []int{1, 0, 0}},
		{over(3, 0, 0, 3), over(0, 3), []int{1, 0, 0, 1}},
		{over(1, 2), over(2, 1), []int{1, 0}},
		{over(0, 1, 2, 3, 0, 1, 2, 3), over(3, 2, 1, 0), []int{3, 2, 1, 0, 3, 2, 1, 0}},
		{over(make([]int, 12)...), over(0, 0), []int{0, 1, 0, 1, 0, 1, 0, 1, 0, 1, 0, 1}},
	}
}

// origins returns all trees from which x results.
func (r relabeling) origins(x api.Tree) []api.Tree {
	lists := [][]api.Tree{nil}
	for _, kid := range x.Kids {
		var longer [][]api.Tree
		for _, origin := range r.origins(kid) {
			for _, list := range lists {
				longer = append(longer, append(slices.Clone(list), origin))
			}
		}
		lists = longer
	}
	var all []api.Tree
	for sym, image := range r.symbols {
		for _, list := range lists {
			if image == x.Sym {
				all = append(all, sample.Tree(sym, list...))
			}
		}
	}
	return all
}

// P5.4, P5.7
func TestRelabel(t *testing.T) {
	for _, r := range relabelings() {
		var trees []api.Tree
		origins := map[int][]api.Tree{}
		for _, x := range sample.Trees(r.to) {
			if tree.Size(x) <= 6 && len(trees) < 60 {
				trees = append(trees, x)
				origins[len(trees)-1] = r.origins(x)
			}
		}
		for i, a := range append(sample.Automata(r.al), sample.Everything(r.al)) {
			b, e := boolean.Relabel(r.al, r.to, r.symbols, a)
			checkLanguage(t, "Relabel", r.to, b, e, nil, nil)
			for j := i % 2; j < len(trees); j += 2 {
				if want := slices.ContainsFunc(origins[j], acceptedBy(a)); sample.Accepts(b, trees[j]) != want {
					t.Errorf("Relabel of %s: %s is wrong for %v", sample.Show(a), sample.Show(b), trees[j])
				}
			}
		}
	}
}

// P5.5, P5.7
func TestUnlabel(t *testing.T) {
	for _, r := range relabelings() {
		trees := sample.Trees(r.al)
		for _, a := range append(sample.Automata(r.to), sample.Everything(r.to)) {
			for _, a := range []api.Automaton{a, sample.DeterministicPart(a)} {
				b, e := boolean.Unlabel(r.al, r.to, r.symbols, a)
				checkLanguage(t, "Unlabel of "+sample.Show(a), r.al, b, e, trees, func(x api.Tree) bool { return sample.Accepts(a, renamed(r.symbols, x)) })
				if sample.Deterministic(a) && !sample.Deterministic(b) {
					t.Errorf("Unlabel of %s: %s is not deterministic", sample.Show(a), sample.Show(b))
				}
			}
		}
	}
}

// P5.4: Relabel never returns ErrFull.
func TestRelabelLimits(t *testing.T) {
	al, to := api.Alphabet{Ranks: []int{0, 2, 0, 2}}, api.Alphabet{Ranks: []int{2, 0}}
	symbols := []int{1, 0, 1, 0}
	a := manyRules(300, api.MaxRules)
	b, e := boolean.Relabel(al, to, symbols, a)
	checkLanguage(t, "20000 rules", to, b, e, []api.Tree{sample.Tree(1), sample.Tree(0, sample.Tree(1), sample.Tree(1))}, func(api.Tree) bool { return true })
	if len(b.Rules) == 0 || b.States > api.MaxStates {
		t.Errorf("20000 rules: %s", sample.Show(b))
	}
	twice := api.Automaton{States: 300, Final: []int{299}, Rules: slices.Repeat([]api.Rule{sample.Rule(2, 299)}, api.MaxRules)}
	b, e = boolean.Relabel(al, to, symbols, twice)
	checkLanguage(t, "identical rules", to, b, e, []api.Tree{sample.Tree(1)}, func(api.Tree) bool { return true })
}

// P5.5: MaxRules rules, and more.
func TestUnlabelLimits(t *testing.T) {
	al := api.Alphabet{Ranks: append([]int{0}, slices.Repeat([]int{2}, 11)...)}
	to := api.Alphabet{Ranks: []int{0, 2}}
	symbols := append([]int{0}, slices.Repeat([]int{1}, 11)...)
	trees := sample.RandomTrees(al, 20, 20)
	for _, numbers := range [][]int{{40, 1666}, {1, 2}, {300, 1666}, {40, 1640}} {
		a := manyRules(numbers[0], numbers[1])
		b, e := boolean.Unlabel(al, to, symbols, a)
		checkLanguage(t, "fits", al, b, e, trees, func(x api.Tree) bool { return sample.Accepts(a, renamed(symbols, x)) })
	}
	for _, numbers := range [][]int{{40, 1855}, {40, 1857}, {40, 1900}, {100, 20000}} {
		a := manyRules(numbers[0], numbers[1])
		b, e := boolean.Unlabel(al, to, symbols, a)
		checkLanguageOrFull(t, "large", al, b, e, trees, func(x api.Tree) bool { return sample.Accepts(a, renamed(symbols, x)) })
	}
	a := api.Automaton{States: 1, Final: []int{0}, Rules: slices.Repeat([]api.Rule{sample.Rule(1, 0, 0, 0), sample.Rule(0, 0)}, 833)}
	b, e := boolean.Unlabel(al, to, symbols, a)
	checkLanguage(t, "identical rules", al, b, e, trees, func(api.Tree) bool { return true })
}

// P5.4, P5.5: arguments that are not valid.
func TestRelabelBadArguments(t *testing.T) {
	good := api.Alphabet{Ranks: []int{0, 1, 2, 3}}
	sample.BadArguments(func(al api.Alphabet, a api.Automaton) {
		symbols := make([]int, len(al.Ranks))
		for i := range symbols {
			symbols[i] = i
		}
		for _, symbols := range [][]int{symbols, nil, {9}} {
			b, e := boolean.Relabel(al, al, symbols, a)
			checkRefused(t, "Relabel", b, e, api.ErrArg)
			b, e = boolean.Unlabel(al, al, symbols, a)
			checkRefused(t, "Unlabel", b, e, api.ErrArg)
		}
	})
	for _, bad := range sample.BadAlphabets() {
		for _, symbols := range [][]int{nil, {0, 1, 2, 3}, {9, 9, 9, 9}, make([]int, len(bad.Ranks))} {
			b, e := boolean.Relabel(good, bad, symbols, api.Automaton{})
			checkRefused(t, "Relabel to", b, e, api.ErrArg)
			b, e = boolean.Relabel(bad, good, symbols, api.Automaton{})
			checkRefused(t, "Relabel from", b, e, api.ErrArg)
			b, e = boolean.Unlabel(good, bad, symbols, api.Automaton{})
			checkRefused(t, "Unlabel to", b, e, api.ErrArg)
			b, e = boolean.Unlabel(bad, good, symbols, api.Automaton{})
			checkRefused(t, "Unlabel from", b, e, api.ErrArg)
		}
	}
}

// P5.4, P5.5: lists of symbols that do not fit, and the order of errors. The
// automaton is valid over one of the alphabets only.
func TestRelabelErrors(t *testing.T) {
	al, to := api.Alphabet{Ranks: []int{0, 1}}, api.Alphabet{Ranks: []int{1, 0, 2, 0}}
	from := api.Automaton{States: 1, Rules: []api.Rule{sample.Rule(1, 0, 0)}}
	over := api.Automaton{States: 1, Rules: []api.Rule{sample.Rule(2, 0, 0, 0)}}
	tests := []struct {
		symbols []int
		want    api.Errno
	}{
		{nil, api.ErrDim}, {[]int{}, api.ErrDim}, {[]int{1}, api.ErrDim}, {[]int{-1}, api.ErrDim}, {[]int{1, 0, 2}, api.ErrDim}, {make([]int, 1<<16), api.ErrDim},
		{[]int{-1, 0}, api.ErrRange}, {[]int{1, -1}, api.ErrRange}, {[]int{4, 0}, api.ErrRange}, {[]int{1, 4}, api.ErrRange}, {[]int{1, 1 << 62}, api.ErrRange},
		{[]int{0, 0}, api.ErrRange}, {[]int{1, 1}, api.ErrRange}, {[]int{2, 0}, api.ErrRange}, {[]int{1, 2}, api.ErrRange}, {[]int{0, 1}, api.ErrRange},
		{[]int{1, 0}, api.OK}, {[]int{3, 0}, api.OK},
	}
	for _, test := range tests {
		b, e := boolean.Relabel(al, to, test.symbols, from)
		c, e2 := boolean.Unlabel(al, to, test.symbols, over)
		if e != test.want || e2 != test.want {
			t.Errorf("%v: errors %d and %d, want %d", test.symbols, e, e2, test.want)
		}
		if test.want != api.OK {
			checkRefused(t, "Relabel", b, e, test.want)
			checkRefused(t, "Unlabel", c, e2, test.want)
		}
		b, e = boolean.Relabel(al, to, test.symbols, over)
		checkRefused(t, "Relabel of the other one", b, e, api.ErrArg)
		c, e = boolean.Unlabel(al, to, test.symbols, from)
		checkRefused(t, "Unlabel of the other one", c, e, api.ErrArg)
	}
}

// P5.5: ErrDim and ErrRange come before ErrFull.
func TestUnlabelOrderOfErrors(t *testing.T) {
	al := api.Alphabet{Ranks: append([]int{0}, slices.Repeat([]int{2}, 11)...)}
	to := api.Alphabet{Ranks: []int{0, 2}}
	a := manyRules(300, api.MaxRules)
	b, e := boolean.Unlabel(al, to, append([]int{0}, slices.Repeat([]int{1}, 10)...), a)
	checkRefused(t, "ErrDim", b, e, api.ErrDim)
	b, e = boolean.Unlabel(al, to, append([]int{0}, slices.Repeat([]int{2}, 11)...), a)
	checkRefused(t, "ErrRange", b, e, api.ErrRange)
}
