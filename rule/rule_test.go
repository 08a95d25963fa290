package rule_test

import (
	"boskage/api"
	"boskage/rule"
	"boskage/sample"
	"cmp"
	"slices"
	"testing"
)

func TestCompare(t *testing.T) {
	sorted := []api.Rule{
		sample.Rule(0, 0), sample.Rule(0, 3), sample.Rule(1, 5, 0, 1), sample.Rule(1, 0, 0, 2), sample.Rule(1, 0, 1, 0), sample.Rule(1, 1, 1, 0), sample.Rule(2, 0, 0),
	}
	for i, r := range sorted {
		for j, other := range sorted {
			if rule.Compare(r, other) != cmp.Compare(i, j) {
				t.Errorf("%v and %v", r, other)
			}
		}
	}
}

func TestCopy(t *testing.T) {
	for _, a := range sample.Automata(api.Alphabet{Ranks: []int{0, 1, 3}}) {
		if b := rule.Copy(a); !sample.Equal(a, b) || sample.Share(a, b) {
			t.Errorf("%v: %v", a, b)
		}
	}
}

func TestFullNumber(t *testing.T) {
	for _, al := range sample.Alphabets() {
		for states := range 5 {
			want := 0
			for _, rank := range al.Ranks {
				want += len(sample.Lists(rank, states))
			}
			if got := rule.FullNumber(al, states); got != want {
				t.Errorf("%v, %d states: %d, want %d", al, states, got, want)
			}
		}
	}
	if got := rule.FullNumber(api.Alphabet{Ranks: slices.Repeat([]int{3}, 12)}, 301); got != 12*301*301*301 {
		t.Errorf("%d", got)
	}
}

func TestTable(t *testing.T) {
	al := api.Alphabet{Ranks: []int{0, 1, 2}}
	for _, a := range sample.Automata(al) {
		table := rule.NewTable(al, a)
		heads := 0
		for sym, rank := range al.Ranks {
			for _, from := range sample.Lists(rank, a.States) {
				sets := make([][]int, rank)
				for i, state := range from {
					sets[i] = []int{state}
				}
				want := sample.Targets(a, sym, sets)
				got := table.Targets(rule.HeadOf(sym, from))
				if !slices.Equal(got.List(), want) {
					t.Errorf("%v: %v for %d, %v", a, got.List(), sym, from)
				}
				if len(want) > 0 {
					heads++
				}
			}
		}
		if table.Heads() != heads {
			t.Errorf("%v: %d heads, want %d", a, table.Heads(), heads)
		}
		checkGroups(t, al, a, table)
	}
}

// checkGroups checks that the groups are in the order of their first rules.
func checkGroups(t *testing.T, al api.Alphabet, a api.Automaton, table *rule.Table) {
	t.Helper()
	for sym := range al.Ranks {
		var want, got []rule.Head
		for _, r := range a.Rules {
			head := rule.HeadOf(r.Sym, r.From)
			if r.Sym == sym && !slices.Contains(want, head) {
				want = append(want, head)
			}
		}
		for _, group := range table.Groups(sym) {
			got = append(got, group.Head)
			if group.To != table.Targets(group.Head) {
				t.Errorf("%v: wrong states for %v", a, group.Head)
			}
		}
		if !slices.Equal(got, want) {
			t.Errorf("%v: groups %v, want %v", a, got, want)
		}
	}
}
