package topdown_test

import (
	"boskage/api"
	"boskage/auto"
	"boskage/sample"
	"boskage/topdown"
	"boskage/tree"
	"reflect"
	"slices"
	"testing"
)

// outcome is what one round of calls returns.
type outcome struct {
	is        []bool
	downs     []api.Topdown
	automaton api.Automaton
	tree      api.Tree
	// errors are those of is, then those of downs, and then that of automaton.
	errors []api.Errno
}

// callDown calls all functions of top-down automata.
func callDown(al api.Alphabet, d, e api.Topdown, s int, x api.Tree) outcome {
	var o outcome
	addIs := func(is bool, e api.Errno) { o.is, o.errors = append(o.is, is), append(o.errors, e) }
	addDown := func(d api.Topdown, e api.Errno) { o.downs, o.errors = append(o.downs, d), append(o.errors, e) }
	addIs(topdown.Accepts(al, d, x))
	addIs(topdown.From(al, d, s, x))
	addIs(topdown.Same(al, d, e))
	addDown(topdown.Trim(al, d))
	addDown(topdown.Meet(al, d, e))
	addDown(topdown.Minimal(al, d))
	a, err := topdown.Auto(al, d)
	o.automaton, o.errors = a, append(o.errors, err)
	return o
}

// callUp calls all functions of bottom-up automata.
func callUp(al api.Alphabet, a api.Automaton) outcome {
	c := closedOf(al, a)
	d, e := topdown.Closure(al, a)
	return outcome{is: []bool{c.is}, tree: c.x, downs: []api.Topdown{d}, errors: []api.Errno{c.e, e}}
}

// checkZero checks that results with errors are zero.
func (o outcome) checkZero(t *testing.T) {
	t.Helper()
	for i, e := range o.errors {
		switch down := i - len(o.is); {
		case e == api.OK:
		case down < 0:
			if o.is[i] {
				t.Errorf("call %d: true beside error %d", i, e)
			}
		case down < len(o.downs):
			checkRefused(t, "a call", o.downs[down], e, e)
		case !sample.Equal(o.automaton, api.Automaton{}):
			t.Errorf("Auto: %s beside error %d", sample.Show(o.automaton), e)
		}
	}
	if (o.is[0] || o.errors[0] != api.OK) && !isZero(o.tree) {
		t.Errorf("a tree beside %t and error %d", o.is[0], o.errors[0])
	}
}

// checkErrors checks that all calls return one of the errors, if any.
func (o outcome) checkErrors(t *testing.T, permitted ...api.Errno) {
	t.Helper()
	o.checkZero(t)
	for i, e := range o.errors {
		if !slices.Contains(permitted, e) {
			t.Errorf("call %d: error %d", i, e)
		}
	}
}

// P10.2 to P10.6: all refuse alphabets and top-down automata that are not valid,
// also where other errors apply.
func TestBadArguments(t *testing.T) {
	sample.BadTopdownArguments(func(al api.Alphabet, d api.Topdown) {
		callDown(al, d, none(), -1, sample.Tree(-1)).checkErrors(t, api.ErrArg)
		callDown(al, d, d, 0, sample.Tree(0)).checkErrors(t, api.ErrArg)
		same, e := topdown.Same(al, none(), d)
		if same || e != api.ErrArg {
			t.Errorf("Same: %t, error %d", same, e)
		}
		both, e := topdown.Meet(al, none(), d)
		checkRefused(t, "Meet", both, e, api.ErrArg)
	})
}

// P10.5: ErrArg comes before ErrFull.
func TestBadArgumentsThatAreFull(t *testing.T) {
	large, bad := sample.CycleTopdown(300), sample.CycleTopdown(300)
	bad.Next[299][1] = []int{300}
	for _, x := range [][2]api.Topdown{{large, bad}, {bad, large}} {
		both, e := topdown.Meet(chains, x[0], x[1])
		checkRefused(t, "Meet", both, e, api.ErrArg)
	}
}

// P10.7, P10.8: both refuse alphabets and automata that are not valid.
func TestBadAutomata(t *testing.T) {
	sample.BadArguments(func(al api.Alphabet, a api.Automaton) {
		callUp(al, a).checkErrors(t, api.ErrArg)
	})
}

// P10.2: trees that are not valid, also where there is no such state.
func TestBadTrees(t *testing.T) {
	for _, al := range sample.Alphabets() {
		for _, x := range sample.BadTrees(al) {
			for _, d := range []api.Topdown{none(), sample.EverythingTopdown(al)} {
				if is, e := topdown.Accepts(al, d, x); is || e != api.ErrArg {
					t.Errorf("Accepts: %t, error %d", is, e)
				}
				for _, s := range []int{0, 1, -1} {
					if is, e := topdown.From(al, d, s, x); is || e != api.ErrArg {
						t.Errorf("From: %t, error %d", is, e)
					}
				}
			}
		}
	}
}

// P1, P2: all arguments are accepted, equal calls have equal results, and with
// an error they are zero.
func TestAnyArguments(t *testing.T) {
	downs := slices.Concat(sample.BadTopdowns(all), sample.Topdowns(all), []api.Topdown{sample.CycleTopdown(300), sample.CycleTopdown(299)})
	trees := append(sample.BadTrees(all), sample.Trees(all)[:10]...)
	automata := slices.Concat(sample.BadAutomata(all)[:20], sample.Automata(all), []api.Automaton{{}, sample.AllSets(300), downward(300), sample.Counter(300), sample.Power(3, 300), sample.Full(all, 26)})
	for _, al := range append(sample.BadAlphabets(), api.Alphabet{}, all, chains, api.Alphabet{Ranks: []int{0, 1, 1, 1, 1}}) {
		for i, d := range downs {
			e, x, s := downs[(i*7+3)%len(downs)], trees[i%len(trees)], []int{-1, 0, 299, 1 << 62}[i%4]
			o := callDown(al, d, e, s, x)
			o.checkErrors(t, api.OK, api.ErrArg, api.ErrRange, api.ErrFull)
			if !reflect.DeepEqual(o, callDown(al, d, e, s, x)) || topdown.Valid(al, d) != topdown.Valid(al, d) {
				t.Errorf("%v, %s: equal calls have different results", al, sample.ShowTopdown(d))
			}
		}
		for _, a := range automata {
			o := callUp(al, a)
			o.checkErrors(t, api.OK, api.ErrArg, api.ErrFull)
			if !reflect.DeepEqual(o, callUp(al, a)) {
				t.Errorf("%v, %s: equal calls have different results", al, sample.Show(a))
			}
		}
		first, e1 := topdown.All(al)
		second, e2 := topdown.All(al)
		if !reflect.DeepEqual(first, second) || e1 != e2 {
			t.Errorf("%v: equal calls have different results", al)
		}
	}
}

// P2: results share no memory with each other or with arguments, and these are
// not changed.
func TestNoSharing(t *testing.T) {
	downs := append(sample.Topdowns(all), sample.CycleTopdown(30))
	for i, d := range downs[:len(downs)-1] {
		e := downs[len(downs)-2-i]
		beforeD, beforeE := sample.CopyTopdown(d), sample.CopyTopdown(e)
		results := []api.Topdown{d}
		var automata []api.Automaton
		for range 2 {
			o := callDown(all, d, e, 0, sample.Tree(0))
			results, automata = append(results, o.downs...), append(automata, o.automaton)
		}
		if sample.ShareTopdowns(results...) || sample.Share(automata...) || sharesList(d, automata[0]) {
			t.Errorf("%s: memory is shared", sample.ShowTopdown(d))
		}
		if !sample.EqualTopdowns(d, beforeD) || !sample.EqualTopdowns(e, beforeE) {
			t.Errorf("%s: an argument was changed", sample.ShowTopdown(d))
		}
	}
	for _, a := range append(sample.Automata(all), crossed(5, 3)) {
		before := sample.Copy(a)
		first, second := callUp(all, a), callUp(all, a)
		if sample.ShareTopdowns(first.downs[0], second.downs[0]) || sample.ShareTrees(first.tree, second.tree) || sharesList(first.downs[0], a) {
			t.Errorf("%s: memory is shared", sample.Show(a))
		}
		if !sample.Equal(a, before) {
			t.Errorf("%s was changed", sample.Show(before))
		}
	}
	first, _ := topdown.All(all)
	second, _ := topdown.All(all)
	if sample.ShareTopdowns(first, second) {
		t.Error("All: memory is shared")
	}
}

// sharesList reports whether a transition of d is the From of a rule of a.
func sharesList(d api.Topdown, a api.Automaton) bool {
	for _, row := range d.Next {
		for _, kids := range row {
			for _, r := range a.Rules {
				if len(kids) > 0 && len(r.From) > 0 && &kids[0] == &r.From[0] {
					return true
				}
			}
		}
	}
	return false
}

// Rule 5: transitions for symbols of rank 0 are lists, and not nil, in all
// results.
func TestLeaves(t *testing.T) {
	al := api.Alphabet{Ranks: []int{0}}
	d := sample.EverythingTopdown(al)
	everything, e := topdown.All(al)
	checkTopdown(t, "All", everything, e, d)
	for _, got := range callDown(al, d, d, 0, sample.Tree(0)).downs {
		checkTopdown(t, "a result", got, api.OK, d)
	}
	for _, from := range [][]int{nil, {}} {
		got, e := topdown.Closure(al, api.Automaton{States: 1, Final: []int{0}, Rules: []api.Rule{{From: from}}})
		checkTopdown(t, "Closure", got, e, d)
	}
}

// P10: bottom-up automata and least trees are printed and parsed back.
func TestRoundTrip(t *testing.T) {
	for _, d := range sample.Topdowns(all) {
		a, e := topdown.Auto(all, d)
		text, e1 := auto.Print(all, a)
		back, e2 := auto.Parse(all, text)
		if e != api.OK || e1 != api.OK || e2 != api.OK || !sample.Equal(a, back) {
			t.Errorf("%s: errors %d, %d and %d", sample.ShowTopdown(d), e, e1, e2)
		}
	}
	names := []string{"a", "g", "f", "h"}
	for _, a := range sample.Automata(all) {
		c := closedOf(all, a)
		if c.is || c.e != api.OK {
			continue
		}
		text, e1 := tree.Print(all, names, c.x)
		back, e2 := tree.Parse(all, names, text)
		if e1 != api.OK || e2 != api.OK || tree.Compare(c.x, back) != 0 {
			t.Errorf("%s: errors %d and %d", text, e1, e2)
		}
	}
}
