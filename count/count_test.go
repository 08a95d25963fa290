package count_test

import (
	"boskage/api"
	"boskage/count"
	"boskage/deter"
	"boskage/mini"
	"boskage/sample"
	"boskage/tree"
	"math/big"
	"slices"
	"testing"
)

// P9.1, P9.2, P9.8: small trees, one by one.
func TestCountSmall(t *testing.T) {
	forAll(func(al api.Alphabet, a api.Automaton) {
		trees, most := smallTrees(al)
		accepted := acceptedOf(a, trees)
		sum := 0
		for n := 1; n <= most; n++ {
			want := 0
			for _, x := range accepted {
				if tree.Size(x) == n {
					want++
				}
			}
			sum += want
			number, e := count.Count(al, a, n)
			checkNumber(t, "Count for "+sample.Show(a), number, e, big.NewInt(int64(want)))
			number, e = count.Upto(al, a, n)
			checkNumber(t, "Upto for "+sample.Show(a), number, e, big.NewInt(int64(sum)))
		}
	})
}

// P9.1, P9.2, P9.8: larger trees, with numbers up to the limit and above it.
func TestCountLarger(t *testing.T) {
	i := 0
	forAll(func(al api.Alphabet, a api.Automaton) {
		i++
		most := 70
		if slices.Contains(al.Ranks, 3) {
			most = 14
		}
		if i%3 > 0 || a.States > 3 || len(a.Rules) == 0 {
			return
		}
		sum := new(big.Int)
		for n, numbers := range bySize(al, a, most)[1:] {
			want := numbers.accepted(a)
			sum.Add(sum, want)
			if n%3 > 0 && n < most-2 {
				continue
			}
			number, e := count.Count(al, a, n+1)
			checkNumber(t, "Count for "+sample.Show(a), number, e, want)
			number, e = count.Upto(al, a, n+1)
			checkNumber(t, "Upto for "+sample.Show(a), number, e, sum)
		}
	})
}

// P9.1, P9.2: all trees over alphabets with many of them, as far as the limit
// lets them be counted.
func TestCountEverything(t *testing.T) {
	for _, ranks := range [][]int{{0, 2}, {0, 0, 2}, {0, 1}, {0, 1, 1}, {0, 3}, {0, 0, 1, 2}, {0, 1, 2, 3}, {0, 0, 0, 3, 3}, {0, 1, 1, 1, 1, 1, 1, 1, 1, 1, 1, 1}} {
		al := api.Alphabet{Ranks: ranks}
		sum := new(big.Int)
		for n, numbers := range bySize(al, sample.Everything(al), 60)[1:] {
			want := numbers.accepted(sample.Everything(al))
			sum.Add(sum, want)
			number, e := count.Count(al, sample.Everything(al), n+1)
			checkNumber(t, "Count", number, e, want)
			number, e = count.Upto(al, sample.Everything(al), n+1)
			checkNumber(t, "Upto", number, e, sum)
		}
	}
}

// P9.1, P9.3: the chapter's example.
func TestExample(t *testing.T) {
	al := api.Alphabet{Ranks: []int{0, 2}}
	for n, want := range []int{1, 0, 1, 0, 2, 0, 5} {
		if number, e := count.Count(al, sample.Everything(al), n+1); number != want || e != api.OK {
			t.Errorf("Count of %d: %d, error %d, want %d", n+1, number, e, want)
		}
	}
	a := sample.Tree(0)
	x, e := count.Nth(al, sample.Everything(al), 2)
	checkTree(t, "Nth", x, e, sample.Tree(1, a, sample.Tree(1, a, a)))
}

// P9.1, P9.2: exactly MaxCount trees, and one more.
func TestCountAtTheLimit(t *testing.T) {
	for _, x := range []struct {
		a           api.Automaton
		n           int
		count, upto int
	}{
		{sample.Everything(chains), 62, 1 << 61, 1<<62 - 1},
		{sample.Everything(chains), 63, 1 << 62, -1},
		{sample.Everything(chains), 64, -1, -1},
		{sample.Everything(chains), 300, -1, -1},
		{levels(63), 62, 0, 0},
		{levels(63), 63, 1 << 62, 1 << 62},
		{levels(63), 64, 0, 1 << 62},
		{levels(63), 300, 0, 1 << 62},
		{levels(1, 63), 63, 1 << 62, -1},
		{levels(1, 63), 64, 0, -1},
		{levels(62, 63), 63, 1 << 62, -1},
		{levels(64), 64, -1, -1},
		{levels(64), 65, 0, -1},
		{levels(300), 299, 0, 0},
		{levels(300), 300, -1, -1},
	} {
		for i, want := range []int{x.count, x.upto} {
			number, e := []func(api.Alphabet, api.Automaton, int) (int, api.Errno){count.Count, count.Upto}[i](chains, x.a, x.n)
			if want < 0 {
				checkRefused(t, "Count or Upto", number, e, api.ErrFull)
			} else if number != want || e != api.OK {
				t.Errorf("%d nodes: Count or Upto is %d, error %d, want %d", x.n, number, e, want)
			}
		}
	}
}

// P9.1, P9.2: trees are counted, not their runs.
func TestCountAmbiguous(t *testing.T) {
	al := api.Alphabet{Ranks: []int{0, 2}}
	a := api.Automaton{States: 4, Final: []int{0, 1, 2, 3}, Rules: []api.Rule{sample.Rule(0, 0), sample.Rule(0, 0), sample.Rule(0, 3)}}
	for _, from := range sample.Lists(2, 4) {
		for state := range 4 {
			a.Rules = append(a.Rules, sample.Rule(1, state, from...))
		}
	}
	for n, want := range []int{1, 0, 1, 0, 2, 0, 5, 0, 14, 0, 42} {
		if number, e := count.Count(al, a, n+1); number != want || e != api.OK {
			t.Errorf("Count of %d: %d, error %d, want %d", n+1, number, e, want)
		}
	}
}

// P9.1, P9.2: what an automaton and its complement accept are all trees.
func TestCountComplement(t *testing.T) {
	functions := []func(api.Alphabet, api.Automaton, int) (int, api.Errno){count.Count, count.Upto}
	forAll(func(al api.Alphabet, a api.Automaton) {
		others, e := deter.Complement(al, a)
		if e != api.OK {
			t.Fatalf("error %d", e)
		}
		for i, n := range []int{11, 12} {
			number, e1 := functions[i](al, a, n)
			more, e2 := functions[i](al, others, n)
			sum, e3 := functions[i](al, sample.Everything(al), n)
			if number+more != sum || e1 != api.OK || e2 != api.OK || e3 != api.OK {
				t.Errorf("%s: %d and %d are not %d, errors %d, %d and %d", sample.Show(a), number, more, sum, e1, e2, e3)
			}
		}
	})
}

// P9.1, P9.2: sizes that are not from 1 to MaxSize.
func TestCountRange(t *testing.T) {
	for _, a := range []api.Automaton{{}, sample.Everything(all), sample.Counter(300)} {
		for _, n := range []int{-1 << 63, -300, -1, 0, 301, 302, 1 << 62} {
			number, e := count.Count(all, a, n)
			checkRefused(t, "Count", number, e, api.ErrRange)
			number, e = count.Upto(all, a, n)
			checkRefused(t, "Upto", number, e, api.ErrRange)
		}
		for _, n := range []int{1, 300} {
			if _, e := count.Count(all, a, n); e == api.ErrRange {
				t.Errorf("Count of %d: error %d", n, e)
			}
			if _, e := count.Upto(all, a, n); e == api.ErrRange {
				t.Errorf("Upto of %d: error %d", n, e)
			}
		}
	}
}

// P9.6
func TestTotal(t *testing.T) {
	var s sample.Source
	for _, al := range sample.Alphabets() {
		for _, sizes := range sample.Lists(2, 12) {
			a := sample.Acyclic(&s, al, 1+sizes[0]/3, 2+2*sizes[1])
			a.Final = append(a.Final, a.States-1)
			a.Final = slices.Compact(a.Final)
			number, e := count.Total(al, a)
			checkNumber(t, "Total for "+sample.Show(a), number, e, byDepth(al, a, a.States+1).accepted(a))
		}
	}
}

// P9.6: languages that are not finite, and those that are, although some states
// are below themselves.
func TestTotalKind(t *testing.T) {
	for _, al := range []api.Alphabet{{Ranks: []int{0, 1}}, {Ranks: []int{0, 2}}, {Ranks: []int{0, 3}}, all} {
		number, e := count.Total(al, sample.Everything(al))
		checkRefused(t, "Total", number, e, api.ErrKind)
	}
	for _, al := range []api.Alphabet{{}, {Ranks: []int{1}}, {Ranks: []int{2, 3}}} {
		number, e := count.Total(al, sample.Everything(al))
		checkNumber(t, "no trees", number, e, big.NewInt(0))
	}
	al := api.Alphabet{Ranks: []int{0, 0, 1}}
	for i, a := range []api.Automaton{
		{States: 2, Final: []int{0}, Rules: []api.Rule{sample.Rule(0, 0), sample.Rule(1, 0), sample.Rule(2, 1, 0), sample.Rule(2, 1, 1)}},
		{States: 2, Final: []int{0}, Rules: []api.Rule{sample.Rule(0, 0), sample.Rule(1, 0), sample.Rule(2, 0, 1), sample.Rule(2, 1, 1)}},
		{States: 2, Final: []int{0, 1}, Rules: []api.Rule{sample.Rule(0, 0), sample.Rule(1, 1), sample.Rule(0, 1)}},
	} {
		number, e := count.Total(al, a)
		checkNumber(t, "automaton "+string(rune('0'+i)), number, e, big.NewInt(2))
	}
	number, e := count.Total(chains, sample.Modulo(1, 300))
	checkRefused(t, "Total", number, e, api.ErrKind)
}

// P9.6: exactly MaxCount trees, and one more; more than 2^64 trees, of as many
// levels as states; and languages of trees with more than MaxSize nodes.
func TestTotalAtTheLimit(t *testing.T) {
	squares := func(states int) api.Automaton {
		a := sample.Power(2, states)
		a.Rules = append(a.Rules, sample.Rule(3, 0))
		return a
	}
	power := api.Alphabet{Ranks: []int{0, 1, 2, 0}}
	for _, x := range []struct {
		al   api.Alphabet
		a    api.Automaton
		want int
	}{
		{chains, levels(63), 1 << 62},
		{chains, levels(upTo(62)...), 1<<62 - 1},
		{chains, levels(1, 63), -1},
		{chains, levels(upTo(63)...), -1},
		{chains, levels(64), -1},
		{chains, levels(65), -1},
		{chains, levels(66), -1},
		{chains, levels(300), -1},
		{chains, levels(upTo(300)...), -1},
		{chains, sample.Counter(300), 1},
		{api.Alphabet{Ranks: []int{0, 0, 1, 1, 1, 2, 2}}, twoProducts(), -1},
		{power, squares(1), 2},
		{power, squares(6), 1 << 32},
		{power, squares(7), -1},
		{power, squares(8), -1},
		{power, squares(300), -1},
		{all, sample.Power(2, 300), 1},
		{all, sample.Power(3, 300), 1},
		{all, sample.Power(1, 300), 1},
	} {
		number, e := count.Total(x.al, x.a)
		if x.want < 0 {
			checkRefused(t, "Total for "+sample.Show(x.a), number, e, api.ErrFull)
		} else if number != x.want || e != api.OK {
			t.Errorf("Total for %s: %d, error %d, want %d", sample.Show(x.a), number, e, x.want)
		}
	}
}

// P9.1 to P9.6: no ErrFull as long as all sets of useful states fit.
func TestCountAtTheLimitOfMinimal(t *testing.T) {
	for _, x := range sample.Largest() {
		trees, most := smallTrees(x.Al)
		accepted := acceptedOf(x.A, trees)
		number, e := count.Upto(x.Al, x.A, most)
		checkNumber(t, "Upto", number, e, big.NewInt(int64(len(accepted))))
		for k, y := range accepted[:min(len(accepted), 10)] {
			checkPlace(t, x.Al, x.A, k, y)
		}
		list, e := count.List(x.Al, x.A, len(accepted))
		checkList(t, "List", list, e, accepted)
		number, e = count.Total(x.Al, x.A)
		checkRefused(t, "Total", number, e, api.ErrKind)
	}
}

// P9.1 to P9.6: beyond that limit, a result is either right or ErrFull.
func TestCountBeyondTheLimitOfMinimal(t *testing.T) {
	al := api.Alphabet{Ranks: []int{0, 1, 1, 1, 1, 2}}
	for _, states := range []int{9, 20, 300} {
		a := sample.AllSets(states)
		_, full := mini.Minimal(al, a)
		for _, e := range errorsOf(al, a) {
			if e != full && e != api.ErrKind {
				t.Errorf("error %d, where Minimal returns %d", e, full)
			}
		}
	}
}

// errorsOf returns the errors of all functions.
func errorsOf(al api.Alphabet, a api.Automaton) []api.Errno {
	_, e1 := count.Count(al, a, 3)
	_, e2 := count.Upto(al, a, 3)
	_, e3 := count.Nth(al, a, 0)
	_, e4 := count.Rank(al, a, sample.Tree(0))
	_, e5 := count.List(al, a, 2)
	_, e6 := count.Total(al, a)
	return []api.Errno{e1, e2, e3, e4, e5, e6}
}
