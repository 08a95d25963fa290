package topdown_test

import (
	"boskage/api"
	"boskage/auto"
	"boskage/sample"
	"boskage/topdown"
	"boskage/tree"
	"slices"
	"testing"
)

// P10.1
func TestValid(t *testing.T) {
	forAll(func(al api.Alphabet, d api.Topdown) {
		if !topdown.Valid(al, d) {
			t.Errorf("%s is not valid over %v", sample.ShowTopdown(d), al)
		}
	})
	sample.BadTopdownArguments(func(al api.Alphabet, d api.Topdown) {
		if topdown.Valid(al, d) {
			t.Errorf("%s is valid over %v", sample.ShowTopdown(d), al)
		}
	})
}

// P10.1: the limits.
func TestValidAtTheLimits(t *testing.T) {
	most := api.Alphabet{Ranks: []int{3, 3, 3, 3, 3, 3, 3, 3, 3, 3, 3, 0}}
	for _, states := range []int{0, 1, 299, 300, 301} {
		for _, start := range []int{-2, -1, 0, states - 1, states} {
			d := api.Topdown{States: states, Start: start}
			for range states {
				d.Next = append(d.Next, slices.Repeat([][]int{{0, states - 1, states / 2}}, 11))
				d.Next[len(d.Next)-1] = append(d.Next[len(d.Next)-1], []int{})
			}
			want := states <= 300 && start >= -1 && start < states
			if topdown.Valid(most, d) != want {
				t.Errorf("%d states, start %d: Valid is not %t", states, start, want)
			}
		}
	}
	for _, ranks := range [][]int{nil, {}} {
		if !topdown.Valid(api.Alphabet{Ranks: ranks}, api.Topdown{States: 2, Next: [][][]int{nil, {}}}) {
			t.Error("without symbols, nothing is valid")
		}
	}
	if !topdown.Valid(chains, api.Topdown{States: 2, Start: 1, Next: [][][]int{{{}, nil}, {nil, {0}}}}) || !topdown.Valid(chains, api.Topdown{States: 1, Next: [][][]int{{nil, nil}}}) {
		t.Error("an automaton without some transitions is not valid")
	}
}

// P10.2
func TestAccepts(t *testing.T) {
	forAll(func(al api.Alphabet, d api.Topdown) {
		for _, x := range sample.Trees(al) {
			if is, e := topdown.Accepts(al, d, x); e != api.OK || is != sample.TopdownAccepts(d, x) {
				t.Errorf("Accepts for %s and %v: %t, error %d", sample.ShowTopdown(d), x, is, e)
			}
			for s := range d.States {
				if is, e := topdown.From(al, d, s, x); e != api.OK || is != sample.AcceptsFrom(d, s, x) {
					t.Errorf("From for %s, %d and %v: %t, error %d", sample.ShowTopdown(d), s, x, is, e)
				}
			}
		}
	})
}

// P10.2: trees with MaxSize nodes.
func TestAcceptsLarge(t *testing.T) {
	for _, n := range []int{1, 2, 299, 300} {
		d := sample.CycleTopdown(n)
		for _, size := range []int{1, 2, 64, 299, 300} {
			x := sample.Chain(size, 1, 0)
			if is, e := topdown.Accepts(chains, d, x); e != api.OK || is != (size%n == 1%n) {
				t.Errorf("Accepts for %d modulo %d: %t, error %d", size, n, is, e)
			}
			for _, s := range []int{0, n / 2, n - 1} {
				if is, e := topdown.From(chains, d, s, x); e != api.OK || is != ((size+s)%n == 1%n) {
					t.Errorf("From for %d modulo %d and %d: %t, error %d", size, n, s, is, e)
				}
			}
		}
	}
}

// P10.2: states that do not exist.
func TestFromRange(t *testing.T) {
	for _, d := range []api.Topdown{none(), sample.EverythingTopdown(all), {States: 3, Start: -1, Next: slices.Repeat([][][]int{make([][]int, 4)}, 3)}} {
		for _, s := range []int{-1 << 63, -1, d.States, d.States + 1, 300, 1 << 62} {
			if is, e := topdown.From(all, d, s, sample.Tree(0)); is || e != api.ErrRange {
				t.Errorf("From for %d: %t, error %d", s, is, e)
			}
		}
	}
}

// P10.3
func TestTrim(t *testing.T) {
	var s sample.Source
	forAll(func(al api.Alphabet, d api.Topdown) {
		for _, v := range append(variants(&s, al, d), d) {
			got, e := topdown.Trim(al, v)
			checkTopdown(t, "Trim of "+sample.ShowTopdown(v), got, e, trimmed(v))
			again, e := topdown.Trim(al, got)
			checkTopdown(t, "Trim twice", again, e, got)
		}
	})
}

// P10.3: an example whose states go in turn: those without a tree, those that
// only occur beside them, and those that never occur.
func TestTrimExample(t *testing.T) {
	al := api.Alphabet{Ranks: []int{2, 0, 1}}
	d := api.Topdown{States: 7, Start: 5, Next: [][][]int{
		0: {{0, 3}, nil, {0}},
		1: {nil, {}, nil},
		2: {{2, 1}, nil, nil},
		3: {nil, {}, {6}},
		4: {{5, 5}, {}, {1}},
		5: {{6, 3}, nil, {3}},
		6: {{2, 4}, {}, {2}},
	}}
	got, e := topdown.Trim(al, d)
	checkTopdown(t, "Trim", got, e, api.Topdown{States: 3, Start: 0, Next: [][][]int{
		{{1, 2}, nil, {2}}, {nil, {}, nil}, {nil, {}, {1}},
	}})
	d.Start = 2
	got, e = topdown.Trim(al, d)
	checkTopdown(t, "Trim", got, e, none())
}

// P10.3: MaxStates states.
func TestTrimLarge(t *testing.T) {
	d := sample.CycleTopdown(300)
	got, e := topdown.Trim(chains, d)
	checkTopdown(t, "Trim", got, e, d)
	d.Next[299][1] = nil
	got, e = topdown.Trim(chains, d)
	checkTopdown(t, "Trim", got, e, trimmed(d))
	d.Start = 1
	got, e = topdown.Trim(chains, d)
	checkTopdown(t, "Trim", got, e, none())
}

// P10.4
func TestAuto(t *testing.T) {
	var s sample.Source
	forAll(func(al api.Alphabet, d api.Topdown) {
		for _, v := range append(variants(&s, al, d), d) {
			want := api.Automaton{States: v.States}
			if v.Start >= 0 {
				want.Final = []int{v.Start}
			}
			for sym, rank := range al.Ranks {
				for _, from := range sample.Lists(rank, v.States) {
					for state, row := range v.Next {
						if row[sym] != nil && slices.Equal(row[sym], from) {
							want.Rules = append(want.Rules, sample.Rule(sym, state, from...))
						}
					}
				}
			}
			got, e := topdown.Auto(al, v)
			if e != api.OK || !sample.Equal(got, want) || !auto.Valid(al, got) {
				t.Errorf("Auto of %s: %s, error %d, want %s", sample.ShowTopdown(v), sample.Show(got), e, sample.Show(want))
			}
		}
	})
}

// P10.4: as many rules as there can be.
func TestAutoLarge(t *testing.T) {
	al := api.Alphabet{Ranks: []int{3, 2, 1, 0, 3, 2, 1, 0, 3, 3, 3, 3}}
	d := api.Topdown{States: 300, Start: 299}
	for state := range 300 {
		var row [][]int
		for _, rank := range al.Ranks {
			row = append(row, []int{state, 299 - state, 7}[:rank])
		}
		d.Next = append(d.Next, row)
	}
	a, e := topdown.Auto(al, d)
	if e != api.OK || len(a.Rules) != 3600 || !auto.Valid(al, a) {
		t.Errorf("%s, error %d", sample.Show(a), e)
	}
}

// P10.5
func TestMeet(t *testing.T) {
	for _, al := range sample.Alphabets() {
		trees := sample.Trees(al)
		automata := sample.Topdowns(al)
		for i, d := range automata {
			for _, j := range []int{i, (i*5 + 3) % len(automata), (i + 20) % len(automata), (i * 7) % len(automata)} {
				checkMeet(t, al, d, automata[j], trees)
			}
		}
	}
}

// checkMeet checks Meet of d and e, as far as the trees show.
func checkMeet(t *testing.T, al api.Alphabet, d, e api.Topdown, trees []api.Tree) {
	t.Helper()
	got, err := topdown.Meet(al, d, e)
	checkValid(t, "Meet", al, got, err)
	for _, x := range trees {
		if sample.TopdownAccepts(got, x) != (sample.TopdownAccepts(d, x) && sample.TopdownAccepts(e, x)) {
			t.Errorf("Meet of %s and %s is wrong for %v", sample.ShowTopdown(d), sample.ShowTopdown(e), x)
			break
		}
	}
}

// P10.5: no ErrFull while the product of the numbers of states is at most
// MaxStates, and beyond, a result is right or ErrFull.
func TestMeetAtTheLimit(t *testing.T) {
	for _, x := range [][2]int{{1, 300}, {300, 1}, {4, 75}, {25, 12}, {17, 18}, {2, 151}, {299, 300}, {300, 300}, {150, 300}} {
		d, e := sample.CycleTopdown(x[0]), sample.CycleTopdown(x[1])
		got, err := topdown.Meet(chains, d, e)
		if x[0]*x[1] > 300 && err != api.OK {
			checkRefused(t, "Meet", got, err, api.ErrFull)
			continue
		}
		checkValid(t, "Meet", chains, got, err)
		for size := 1; size <= 300; size++ {
			chain := sample.Chain(size, 1, 0)
			if sample.TopdownAccepts(got, chain) != (size%x[0] == 1%x[0] && size%x[1] == 1%x[1]) {
				t.Errorf("Meet of cycles of %d and %d is wrong for %d", x[0], x[1], size)
			}
		}
	}
}

// P10.9
func TestAll(t *testing.T) {
	for _, al := range append(sample.Alphabets(), api.Alphabet{Ranks: make([]int, 12)}, api.Alphabet{Ranks: []int{3, 3, 3}}) {
		got, e := topdown.All(al)
		want := none()
		if slices.Contains(al.Ranks, 0) {
			want = sample.EverythingTopdown(al)
		}
		checkTopdown(t, "All", got, e, want)
		for _, x := range sample.Trees(al) {
			if !sample.TopdownAccepts(got, x) {
				t.Errorf("All does not accept %v", x)
			}
		}
	}
	for _, al := range sample.BadAlphabets() {
		got, e := topdown.All(al)
		checkRefused(t, "All", got, e, api.ErrArg)
	}
}

// P10.10: Trim, Auto and Minimal preserve the language.
func TestLanguages(t *testing.T) {
	var s sample.Source
	forAll(func(al api.Alphabet, d api.Topdown) {
		for _, v := range append(variants(&s, al, d), d) {
			trim, e1 := topdown.Trim(al, v)
			a, e2 := topdown.Auto(al, v)
			minimal, e3 := topdown.Minimal(al, v)
			if e1 != api.OK || e2 != api.OK || e3 != api.OK {
				t.Errorf("%s: errors %d, %d and %d", sample.ShowTopdown(v), e1, e2, e3)
			}
			for _, x := range sample.Trees(al) {
				want := sample.TopdownAccepts(d, x)
				if sample.TopdownAccepts(trim, x) != want || sample.Accepts(a, x) != want || sample.TopdownAccepts(minimal, x) != want {
					t.Errorf("%s: not %t for %v", sample.ShowTopdown(v), want, x)
					break
				}
			}
		}
	})
}

// P10.12: subtrees below the same path are exchanged.
func TestExchange(t *testing.T) {
	forAll(func(al api.Alphabet, d api.Topdown) {
		var accepted []api.Tree
		for _, x := range sample.Trees(al) {
			if is, e := topdown.Accepts(al, d, x); is && e == api.OK && len(accepted) < 25 {
				accepted = append(accepted, x)
			}
		}
		for _, x := range accepted {
			for _, y := range accepted {
				checkExchange(t, al, d, x, y)
			}
		}
	})
}

// checkExchange checks that subtrees of y may replace those of x.
func checkExchange(t *testing.T, al api.Alphabet, d api.Topdown, x, y api.Tree) {
	t.Helper()
	positions, _ := tree.Positions(al, x)
	for _, pos := range positions {
		if !samePath(x, y, pos) {
			continue
		}
		other, e1 := tree.At(al, y, pos)
		z, e2 := tree.Put(al, x, pos, other)
		if is, e := topdown.Accepts(al, d, z); !is || e1 != api.OK || e2 != api.OK || e != api.OK {
			t.Errorf("%s accepts %v and %v, but not %v: errors %d, %d and %d", sample.ShowTopdown(d), x, y, z, e1, e2, e)
		}
	}
}

// samePath reports whether two trees have the same symbols above a position.
func samePath(x, y api.Tree, pos []int) bool {
	for _, i := range pos {
		if x.Sym != y.Sym {
			return false
		}
		x, y = x.Kids[i], y.Kids[i]
	}
	return true
}
