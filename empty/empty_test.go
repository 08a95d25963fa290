package empty_test

import (
	"boskage/api"
	"boskage/auto"
	"boskage/empty"
	"boskage/sample"
	"slices"
	"testing"
)

// maxSmall is the maximum size of a tree of 4 levels.
const maxSmall = 1 + 3 + 9 + 27

// P6.1, P6.2, P6.4 to P6.7, P6.9: of automata with at most 4 states, all trees
// that matter have at most 8 levels, and those without a state below itself have
// at most 4.
func TestNumbers(t *testing.T) {
	forAll(func(al api.Alphabet, a api.Automaton) {
		p := profileOf(a, maxSmall, 2*a.States)
		depths, sizes := accepted(a, p.depths), accepted(a, p.sizes)
		name := sample.Show(a)
		is, e := empty.Empty(al, a)
		if is != (len(depths) == 0) || e != api.OK {
			t.Errorf("%s: Empty is %t, error %d", name, is, e)
		}
		got, e := empty.Sizes(al, a)
		if e != api.OK || !slices.Equal(got, minima(a, p)) {
			t.Errorf("%s: Sizes %v, error %d, want %v", name, got, e, minima(a, p))
		}
		finite, e := empty.Finite(al, a)
		if want := len(depths) == 0 || slices.Max(depths) <= a.States; finite != want || e != api.OK {
			t.Errorf("%s: Finite is %t, error %d", name, finite, e)
		}
		lowest, greatest, e := empty.Depths(al, a)
		longest, e2 := empty.Longest(al, a)
		if len(depths) == 0 {
			checkNumber(t, name+": lowest depth", lowest, e, 0, api.ErrNone)
			checkNumber(t, name+": greatest depth", greatest, e, 0, api.ErrNone)
			checkNumber(t, name+": Longest", longest, e2, 0, api.ErrNone)
			return
		}
		checkNumber(t, name+": lowest depth", lowest, e, depths[0], api.OK)
		if slices.Max(depths) > a.States {
			checkNumber(t, name+": greatest depth", greatest, e, 0, api.OK)
			checkNumber(t, name+": Longest", longest, e2, 0, api.ErrKind)
			return
		}
		checkNumber(t, name+": greatest depth", greatest, e, slices.Max(depths), api.OK)
		checkNumber(t, name+": Longest", longest, e2, slices.Max(sizes), api.OK)
	})
}

// minima returns the least sizes of trees for all states.
func minima(a api.Automaton, p profile) []int {
	list := make([]int, a.States)
	for state := range list {
		for n, states := range p.sizes {
			if states[state] {
				list[state] = n
				break
			}
		}
	}
	return list
}

// P6.1, P6.7: no tree is accepted where Empty is true, and the trees that are
// accepted are seen.
func TestEmptyByTrees(t *testing.T) {
	for _, al := range sample.Alphabets() {
		trees := sample.Trees(al)
		for _, a := range sample.Automata(al) {
			is, e := empty.Empty(al, a)
			some := slices.ContainsFunc(trees, func(x api.Tree) bool { return sample.Accepts(a, x) })
			if e != api.OK || is && some || !is && !some && a.States <= 2 && al.Ranks[0] == 0 && len(al.Ranks) < 4 {
				t.Errorf("%s: Empty is %t, error %d", sample.Show(a), is, e)
			}
		}
	}
}

// P6.1 to P6.6: the chapter's example.
func TestExample(t *testing.T) {
	for _, a := range []api.Automaton{example(), reversed(example())} {
		is, e := empty.Empty(exampleAlphabet, a)
		if is || e != api.OK {
			t.Errorf("Empty is %t, error %d", is, e)
		}
		sizes, e := empty.Sizes(exampleAlphabet, a)
		if e != api.OK || len(sizes) != 2 || sizes[a.Final[0]] != 3 || sizes[1-a.Final[0]] != 1 {
			t.Errorf("Sizes %v, error %d", sizes, e)
		}
		finite, e := empty.Finite(exampleAlphabet, a)
		if finite || e != api.OK {
			t.Errorf("Finite is %t, error %d", finite, e)
		}
		lowest, greatest, e := empty.Depths(exampleAlphabet, a)
		checkNumber(t, "lowest depth", lowest, e, 2, api.OK)
		checkNumber(t, "greatest depth", greatest, e, 0, api.OK)
		longest, e := empty.Longest(exampleAlphabet, a)
		checkNumber(t, "Longest", longest, e, 0, api.ErrKind)
		x, e := empty.Least(exampleAlphabet, a)
		checkTree(t, "Least", x, e, sample.Tree(1, sample.Tree(0), sample.Tree(0)))
	}
}

// P6.2, P6.6: sizes up to MaxCount and above.
func TestLargeSizes(t *testing.T) {
	for _, rank := range []int{1, 2, 3} {
		want := make([]int, 300)
		for state := range want {
			want[state] = 1
			for kid := 0; kid < rank && state > 0; kid++ {
				want[state] = min(want[state], api.MaxCount-want[state-1]) + want[state-1]
			}
		}
		a := sample.Power(rank, 300)
		sizes, e := empty.Sizes(all, a)
		if e != api.OK || !slices.Equal(sizes, want) {
			t.Errorf("rank %d: Sizes %v, error %d", rank, sizes, e)
		}
		slices.Reverse(want)
		sizes, e = empty.Sizes(all, reversed(a))
		if e != api.OK || !slices.Equal(sizes, want) {
			t.Errorf("rank %d, reversed: Sizes %v, error %d", rank, sizes, e)
		}
		slices.Reverse(want)
		for levels := 1; levels <= 300; levels++ {
			got, e := empty.Longest(all, sample.Power(rank, levels))
			checkNumber(t, "Longest", got, e, want[levels-1], api.OK)
		}
	}
}

// P6.2, P6.6: one below MaxCount, MaxCount, and more.
func TestSizesAroundMaxCount(t *testing.T) {
	a := sample.Power(2, 66)
	// The state 61 has the size 2^62 - 1.
	a.Rules = append(a.Rules, sample.Rule(1, 63, 61), sample.Rule(1, 64, 60), sample.Rule(2, 65, 0, 61))
	a.Rules = slices.DeleteFunc(a.Rules, func(r api.Rule) bool { return r.Sym == 2 && r.To > 62 && r.From[0] > 0 })
	for state, want := range map[int]int{60: 1<<61 - 1, 61: 1<<62 - 1, 62: 1 << 62, 63: 1 << 62, 64: 1 << 61, 65: 1 << 62} {
		sizes, e := empty.Sizes(all, a)
		checkNumber(t, "Sizes", sizes[state], e, want, api.OK)
		a.Final = []int{state}
		longest, e := empty.Longest(all, a)
		checkNumber(t, "Longest", longest, e, want, api.OK)
	}
	// A smaller tree is better than MaxCount, for the minimum only.
	a.Final = []int{65}
	a.Rules = append(a.Rules, sample.Rule(3, 65, 0, 60, 60))
	sizes, e := empty.Sizes(all, a)
	checkNumber(t, "Sizes", sizes[65], e, 1<<62, api.OK)
	a.Rules = append(a.Rules, sample.Rule(3, 65, 0, 0, 60))
	sizes, e = empty.Sizes(all, a)
	checkNumber(t, "Sizes", sizes[65], e, 1<<61+2, api.OK)
	longest, e := empty.Longest(all, a)
	checkNumber(t, "Longest", longest, e, 1<<62, api.OK)
}

// P6.4 to P6.6, P6.9: long chains, with and without a cycle of useful states.
func TestChains(t *testing.T) {
	al := api.Alphabet{Ranks: []int{0, 1}}
	for _, a := range []api.Automaton{sample.Counter(300), reversed(sample.Counter(300))} {
		check := func(what string, a api.Automaton, wantLowest, wantGreatest int) {
			t.Helper()
			finite, e := empty.Finite(al, a)
			if finite != (wantGreatest > 0) || e != api.OK {
				t.Errorf("%s: Finite is %t, error %d", what, finite, e)
			}
			lowest, greatest, e := empty.Depths(al, a)
			checkNumber(t, what+": lowest depth", lowest, e, wantLowest, api.OK)
			checkNumber(t, what+": greatest depth", greatest, e, wantGreatest, api.OK)
			longest, e := empty.Longest(al, a)
			want := api.OK
			if wantGreatest == 0 {
				want = api.ErrKind
			}
			checkNumber(t, what+": Longest", longest, e, wantGreatest, want)
		}
		last := a.Final[0]
		check("chain", a, 300, 300)
		cycle := sample.Copy(a)
		cycle.Rules = append(cycle.Rules, sample.Rule(1, 299-last, last))
		check("cycle", cycle, 300, 0)
		cycle.Rules[len(cycle.Rules)-1] = sample.Rule(1, 150, 150)
		check("loop", cycle, 300, 0)
		short := sample.Copy(a)
		short.Rules = append(short.Rules, sample.Rule(0, last))
		check("chain with a shortcut", short, 1, 300)
		// The states above the final one are in a cycle, and of no use.
		middle := sample.Copy(a)
		middle.Final = []int{140}
		middle.Rules = append(middle.Rules, sample.Rule(1, last, last))
		below := 141
		if last == 0 {
			below = 160
		}
		check("cycle of no use", middle, below, below)
	}
}

// P6.4, P6.5: a cycle that is not reachable is of no use.
func TestCycleThatIsNotReachable(t *testing.T) {
	a := api.Automaton{States: 4, Final: []int{1}, Rules: []api.Rule{
		sample.Rule(0, 0), sample.Rule(1, 1, 0), sample.Rule(1, 2, 2), sample.Rule(1, 1, 2), sample.Rule(2, 1, 1, 3), sample.Rule(2, 1, 3, 0),
	}}
	finite, e := empty.Finite(all, a)
	if !finite || e != api.OK {
		t.Errorf("Finite is %t, error %d", finite, e)
	}
	lowest, greatest, e := empty.Depths(all, a)
	checkNumber(t, "lowest depth", lowest, e, 2, api.OK)
	checkNumber(t, "greatest depth", greatest, e, 2, api.OK)
	longest, e := empty.Longest(all, a)
	checkNumber(t, "Longest", longest, e, 2, api.OK)
}

// P6.9: where Finite returns true, no accepted tree is deeper than the number
// of useful states.
func TestFiniteByTrees(t *testing.T) {
	forAll(func(al api.Alphabet, a api.Automaton) {
		finite, e := empty.Finite(al, a)
		useful, e2 := auto.Useful(al, a)
		if e != api.OK || e2 != api.OK {
			t.Errorf("%s: errors %d and %d", sample.Show(a), e, e2)
		}
		number := 0
		for _, is := range useful {
			if is {
				number++
			}
		}
		depths := accepted(a, profileOf(a, 0, 3*a.States).depths)
		if finite && len(depths) > 0 && slices.Max(depths) > number {
			t.Errorf("%s: depth %d, %d useful states", sample.Show(a), slices.Max(depths), number)
		}
	})
}

// P6.1 to P6.6: all refuse arguments that are not valid.
func TestBadArguments(t *testing.T) {
	sample.BadArguments(func(al api.Alphabet, a api.Automaton) {
		is, e1 := empty.Empty(al, a)
		sizes, e2 := empty.Sizes(al, a)
		least, e3 := empty.Least(al, a)
		finite, e4 := empty.Finite(al, a)
		lowest, greatest, e5 := empty.Depths(al, a)
		longest, e6 := empty.Longest(al, a)
		for i, e := range []api.Errno{e1, e2, e3, e4, e5, e6} {
			if e != api.ErrArg {
				t.Errorf("%v, %d states: function %d: error %d", al, a.States, i, e)
			}
		}
		if is || finite || len(sizes) > 0 || lowest != 0 || greatest != 0 || longest != 0 {
			t.Errorf("%v, %d states: results beside errors", al, a.States)
		}
		checkNoTree(t, "Least", least, e3, api.ErrArg)
		for _, s := range []int{-1, 0, 1 << 62} {
			x, e := empty.LeastOf(al, a, s)
			checkNoTree(t, "LeastOf", x, e, api.ErrArg)
		}
	})
}
