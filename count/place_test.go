package count_test

import (
	"boskage/api"
	"boskage/count"
	"boskage/sample"
	"boskage/tree"
	"testing"
)

// P9.3, P9.4, P9.5, P9.7, P9.9: small trees, one by one.
func TestPlacesSmall(t *testing.T) {
	forAll(func(al api.Alphabet, a api.Automaton) {
		trees, _ := smallTrees(al)
		k := 0
		for i, x := range trees {
			if sample.Accepts(a, x) {
				if i < 20 || i%7 == 0 {
					checkPlace(t, al, a, k, x)
				}
				k++
			} else if i < 20 || i%7 == 0 {
				rank, e := count.Rank(al, a, x)
				checkRefused(t, "Rank for "+sample.Show(a), rank, e, api.ErrInput)
			}
		}
		accepted := acceptedOf(a, trees)
		for _, most := range []int{0, 1, len(accepted) / 2, len(accepted)} {
			if most <= len(accepted) {
				list, e := count.List(al, a, most)
				checkList(t, "List for "+sample.Show(a), list, e, accepted[:most])
			}
		}
	})
}

// P9.3, P9.4, P9.7: places of all sizes, where the trees are known.
func TestPlacesOfWords(t *testing.T) {
	a := sample.Everything(chains)
	for shift := range 63 {
		for _, k := range []int{1<<shift - 2, 1<<shift - 1, 1 << shift, 1<<shift + 1, 5 << shift >> 2, 0x5a5a5a5a5a5a5a5a >> (63 - shift)} {
			if k >= 0 && k <= api.MaxCount {
				checkPlace(t, chains, a, k, word(k))
			}
		}
	}
}

// P9.3, P9.4: exactly MaxCount trees before a tree, and one more.
func TestPlacesAtTheLimit(t *testing.T) {
	a := sample.Everything(chains)
	checkPlace(t, chains, a, api.MaxCount, word(api.MaxCount))
	for _, k := range []int{api.MaxCount + 1, api.MaxCount + 2, 1<<63 - 2} {
		x, e := count.Nth(chains, a, k)
		checkNoTree(t, "Nth", x, e, api.ErrRange)
		rank, e := count.Rank(chains, a, word(k))
		checkRefused(t, "Rank", rank, e, api.ErrFull)
	}
	for _, n := range []int{64, 65, 66, 300} {
		rank, e := count.Rank(chains, a, sample.Chain(n, 1, 0))
		checkRefused(t, "Rank", rank, e, api.ErrFull)
	}
	checkPlace(t, chains, levels(63), 0, sample.Chain(63, 1, 0))
	checkPlace(t, chains, levels(63), api.MaxCount-1, sample.Chain(63, 2, 0))
	x, e := count.Nth(chains, levels(63), api.MaxCount)
	checkNoTree(t, "Nth", x, e, api.ErrNone)
	checkPlace(t, chains, levels(1, 63), api.MaxCount, sample.Chain(63, 2, 0))
	checkPlace(t, chains, levels(63, 64), api.MaxCount, sample.Chain(64, 1, 0))
	rank, e := count.Rank(chains, levels(1, 63, 64), sample.Chain(64, 1, 0))
	checkRefused(t, "Rank", rank, e, api.ErrFull)
	checkPlace(t, chains, levels(300), 0, sample.Chain(300, 1, 0))
	rank, e = count.Rank(chains, levels(300), sample.Chain(300, 2, 0))
	checkRefused(t, "Rank", rank, e, api.ErrFull)
}

// P9.3, P9.4, P9.7: trees that are far from the first ones are in the order of
// trees, and each is found at its place.
func TestPlacesInOrder(t *testing.T) {
	var s sample.Source
	for _, ranks := range [][]int{{0, 2}, {0, 0, 2}, {3, 0}, {1, 0, 0, 2}, {0, 1, 2, 3}, {3, 2, 0, 1}} {
		al := api.Alphabet{Ranks: ranks}
		for range 6 {
			a := sample.Automaton(&s, al, 3, 14)
			for _, near := range []int{0, 40, 1 << 10, 1 << 20, 1 << 40, 1<<62 - 40} {
				checkNeighbours(t, al, a, near+s.Below(20))
			}
		}
	}
}

// checkNeighbours checks the trees with the places from k on.
func checkNeighbours(t *testing.T, al api.Alphabet, a api.Automaton, k int) {
	t.Helper()
	var last api.Tree
	for i := range 8 {
		x, e := count.Nth(al, a, k+i)
		if e == api.ErrNone || e == api.ErrFull {
			checkNoTree(t, "Nth", x, e, e)
			return
		}
		checkPlace(t, al, a, k+i, x)
		if !sample.Accepts(a, x) || i > 0 && tree.Compare(last, x) >= 0 {
			t.Errorf("Nth of %d for %s: %v after %v", k+i, sample.Show(a), x, last)
		}
		last = x
	}
}

// P9.3, P9.4, P9.7: trees of all shapes are found at their places.
func TestPlacesOfRandomTrees(t *testing.T) {
	for _, ranks := range [][]int{{0, 1}, {0, 0, 2}, {3, 0}, {1, 0, 0, 2}, {3, 2, 0, 1}} {
		al := api.Alphabet{Ranks: ranks}
		for _, a := range []api.Automaton{sample.Everything(al), sample.Full(al, 4), sample.Full(al, 7)} {
			for _, x := range sample.RandomTrees(al, 40, 30) {
				rank, e := count.Rank(al, a, x)
				if !sample.Accepts(a, x) {
					checkRefused(t, "Rank", rank, e, api.ErrInput)
				} else if e != api.OK {
					checkRefused(t, "Rank", rank, e, api.ErrFull)
				} else {
					checkPlace(t, al, a, rank, x)
				}
			}
		}
	}
}

// P9.3, P9.4: trees with up to MaxSize nodes.
func TestPlacesOfLargeTrees(t *testing.T) {
	al := api.Alphabet{Ranks: []int{0, 1}}
	for _, n := range []int{1, 2, 150, 299, 300} {
		checkPlace(t, al, sample.Everything(al), n-1, sample.Chain(n, 1, 0))
		checkPlace(t, al, sample.Counter(n), 0, sample.Chain(n, 1, 0))
		x, e := count.Nth(al, sample.Counter(n), 1)
		checkNoTree(t, "Nth", x, e, api.ErrNone)
	}
	for _, k := range []int{300, 301, 1 << 40, api.MaxCount} {
		x, e := count.Nth(al, sample.Everything(al), k)
		checkNoTree(t, "Nth", x, e, api.ErrFull)
	}
	comb := sample.Tree(0)
	for range 149 {
		comb = sample.Tree(2, comb, sample.Tree(0))
	}
	left := api.Automaton{States: 2, Final: []int{0, 1}, Rules: []api.Rule{sample.Rule(0, 0), sample.Rule(2, 1, 0, 0), sample.Rule(2, 1, 1, 0)}}
	checkPlace(t, all, left, 149, comb)
	x, e := count.Nth(all, left, 150)
	checkNoTree(t, "Nth", x, e, api.ErrFull)
}

// P9.3, P9.5: trees with more than MaxSize nodes exist, or no tree at all.
func TestPlacesBeyondMaxSize(t *testing.T) {
	two := sample.Power(2, 9)
	two.Final = []int{7, 8}
	for _, x := range []struct {
		a api.Automaton
		// total is the number of trees, fit the number of those that fit.
		total, fit int
	}{
		{sample.Power(2, 8), 1, 1}, {sample.Power(2, 9), 1, 0}, {two, 2, 1}, {sample.Power(3, 6), 1, 0}, {sample.Power(2, 300), 1, 0}, {sample.Power(3, 300), 1, 0},
		{sample.Power(1, 300), 1, 1}, {api.Automaton{}, 0, 0}, {api.Automaton{States: 1, Final: []int{0}}, 0, 0},
	} {
		for k := range 4 {
			y, e := count.Nth(all, x.a, k)
			switch {
			case k >= x.total:
				checkNoTree(t, "Nth", y, e, api.ErrNone)
			case k >= x.fit:
				checkNoTree(t, "Nth", y, e, api.ErrFull)
			case e != api.OK || !sample.Accepts(x.a, y):
				t.Errorf("Nth of %d for %s: error %d", k, sample.Show(x.a), e)
			}
			list, e := count.List(all, x.a, k)
			if min(k, x.total) > x.fit {
				if len(list) > 0 || e != api.ErrFull {
					t.Errorf("List of %d for %s: %d trees, error %d", k, sample.Show(x.a), len(list), e)
				}
			} else if len(list) != min(k, x.total) || e != api.OK {
				t.Errorf("List of %d for %s: %d trees, error %d", k, sample.Show(x.a), len(list), e)
			}
		}
	}
}

// P9.3, P9.5: finite languages have no more trees than Total says.
func TestPlacesAfterTheLast(t *testing.T) {
	forAll(func(al api.Alphabet, a api.Automaton) {
		total, e := count.Total(al, a)
		if e != api.OK || total > 1000 {
			return
		}
		for _, k := range []int{total, total + 1, total + 1000, api.MaxCount} {
			x, e := count.Nth(al, a, k)
			checkNoTree(t, "Nth", x, e, api.ErrNone)
		}
		list, e := count.List(al, a, 1000)
		if len(list) != total || e != api.OK {
			t.Errorf("List for %s: %d trees, error %d, want %d", sample.Show(a), len(list), e, total)
		}
		if total > 0 {
			x, e := count.Nth(al, a, total-1)
			checkTree(t, "the last tree", x, e, list[total-1])
		}
	})
}

// P9.5, P9.9: lists of all lengths.
func TestListLengths(t *testing.T) {
	for _, x := range []sample.Over{{Al: all, A: sample.Everything(all)}, {Al: chains, A: sample.Modulo(2, 7)}, sample.WithB()} {
		whole, e := count.List(x.Al, x.A, 1000)
		if len(whole) != 1000 || e != api.OK {
			t.Errorf("List of 1000: %d trees, error %d", len(whole), e)
			continue
		}
		for _, most := range []int{0, 1, 2, 17, 999} {
			list, e := count.List(x.Al, x.A, most)
			checkList(t, "List", list, e, whole[:most])
		}
		for k := 0; k < 1000; k += 37 {
			checkPlace(t, x.Al, x.A, k, whole[k])
		}
		for _, most := range []int{-1 << 63, -1, 1001, 1 << 62} {
			list, e := count.List(x.Al, x.A, most)
			if len(list) > 0 || e != api.ErrRange {
				t.Errorf("List of %d: %d trees, error %d", most, len(list), e)
			}
		}
	}
	al := api.Alphabet{Ranks: []int{0, 1}}
	for _, most := range []int{299, 300, 301, 1000} {
		list, e := count.List(al, sample.Everything(al), most)
		if most <= 300 && (len(list) != most || e != api.OK) || most > 300 && (len(list) > 0 || e != api.ErrFull) {
			t.Errorf("List of %d chains: %d trees, error %d", most, len(list), e)
		}
	}
}

// P9.3: numbers that are not from 0 to MaxCount.
func TestNthRange(t *testing.T) {
	for _, a := range []api.Automaton{{}, sample.Everything(all), sample.Power(2, 300)} {
		for _, k := range []int{-1, -2, -1 << 63, api.MaxCount + 1, 1<<63 - 1} {
			x, e := count.Nth(all, a, k)
			checkNoTree(t, "Nth", x, e, api.ErrRange)
		}
		for _, k := range []int{0, api.MaxCount} {
			if _, e := count.Nth(all, a, k); e == api.ErrRange {
				t.Errorf("Nth of %d: error %d", k, e)
			}
		}
	}
}

// P9.1 to P9.6: automata with almost MaxRules rules.
func TestManyRules(t *testing.T) {
	for _, x := range []struct {
		ranks  []int
		states int
	}{{[]int{0, 0, 2}, 140}, {[]int{0, 1, 2, 3}, 26}} {
		al := api.Alphabet{Ranks: x.ranks}
		a := sample.Full(al, x.states)
		trees, most := smallTrees(al)
		accepted := acceptedOf(a, trees)
		number, e := count.Upto(al, a, most)
		if number != len(accepted) || e != api.OK {
			t.Errorf("Upto: %d, error %d, want %d", number, e, len(accepted))
		}
		list, e := count.List(al, a, len(accepted))
		checkList(t, "List", list, e, accepted)
		y, e := count.Nth(al, a, api.MaxCount)
		if e != api.OK {
			t.Errorf("Nth: error %d", e)
		}
		checkPlace(t, al, a, api.MaxCount, y)
	}
}
