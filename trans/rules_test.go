package trans_test

import (
	"boskage/api"
	"boskage/sample"
	"boskage/trans"
	"reflect"
	"slices"
	"testing"
)

// outcome is what one round of calls returns.
type outcome struct {
	output, state  api.Tree
	size           int
	domain         api.Topdown
	linear, keeps  bool
	printed        string
	errors         [7]api.Errno
	valid, validX  bool
	identity, read api.Transducer
	other          [2]api.Errno
}

// callAll calls all functions.
func callAll(tr api.Transducer, q int, x api.Tree) outcome {
	var o outcome
	o.output, o.errors[0] = trans.Run(tr, x)
	o.state, o.errors[1] = trans.State(tr, q, x)
	o.size, o.errors[2] = trans.Size(tr, x)
	o.domain, o.errors[3] = trans.Domain(tr)
	o.linear, o.errors[4] = trans.Linear(tr)
	o.keeps, o.errors[5] = trans.Keeps(tr)
	o.printed, o.errors[6] = trans.Print(tr)
	o.valid, o.validX = trans.Valid(tr), trans.ValidOut(tr.Out, tr.States, q, tr.Axiom)
	o.identity, o.other[0] = trans.Identity(tr.Out)
	o.read, o.other[1] = trans.Parse(o.printed)
	return o
}

// checkZero checks that what is returned with an error is zero.
func (o outcome) checkZero(t *testing.T, what string) {
	t.Helper()
	zero := [7]bool{isZero(o.output), isZero(o.state), o.size == 0, sample.EqualTopdowns(o.domain, api.Topdown{}), !o.linear, !o.keeps, o.printed == ""}
	for i, e := range o.errors {
		if e < api.OK || e > api.ErrState || e != api.OK && !zero[i] {
			t.Errorf("%s: error %d of call %d, with a result", what, e, i)
		}
	}
	for i, tr := range []api.Transducer{o.identity, o.read} {
		if o.other[i] != api.OK && !sample.EqualTransducers(tr, api.Transducer{}) {
			t.Errorf("%s: error %d of Identity or Parse, with a result", what, o.other[i])
		}
	}
}

// P15.2 to P15.5, P15.7: transducers that are not valid are refused before all
// else.
func TestBadTransducers(t *testing.T) {
	for i, tr := range sample.BadTransducers() {
		for _, x := range []api.Tree{sample.Tree(0), sample.Tree(-1), sample.Chain(5000, 1, 0)} {
			for _, q := range []int{0, -1, 1 << 40} {
				o := callAll(tr, q, x)
				o.checkZero(t, "a bad transducer")
				for call, e := range o.errors {
					if e != api.ErrArg {
						t.Errorf("bad transducer %d: error %d of call %d", i, e, call)
					}
				}
			}
		}
	}
}

// P15.2, P15.3: trees that are not valid, also where the output would not be
// defined or there is no such state.
func TestBadTrees(t *testing.T) {
	for _, al := range sample.Alphabets() {
		for i, tr := range sample.Transducers(al, api.Alphabet{Ranks: []int{0, 2}}) {
			for _, x := range sample.BadTrees(al) {
				o := callAll(tr, []int{0, -1, 300}[i%3], x)
				o.checkZero(t, "a bad tree")
				if o.errors[0] != api.ErrArg || o.errors[1] != api.ErrArg || o.errors[2] != api.ErrArg {
					t.Errorf("%s, %v: errors %v", sample.ShowTransducer(tr), al, o.errors)
				}
			}
		}
	}
}

// P1, P2: all arguments are accepted, equal calls have equal results, and with an
// error they are zero.
func TestAnyArguments(t *testing.T) {
	transducers := slices.Concat(sample.BadTransducers(), []api.Transducer{sample.LargeTransducer(), sample.Duties(8, 1), sample.Duties(300, 300)})
	for _, al := range sample.Alphabets() {
		transducers = append(transducers, sample.Transducers(al, api.Alphabet{Ranks: []int{0, 2, 1}})...)
	}
	al := api.Alphabet{Ranks: []int{0, 1, 2, 3}}
	trees := slices.Concat(sample.BadTrees(al), sample.Trees(al), []api.Tree{sample.Chain(300, 1, 0)})
	for i, tr := range transducers {
		for j := i % 23; j < len(trees); j += 23 {
			q := []int{0, 1, -1, 299, 1 << 62}[(i+j)%5]
			o := callAll(tr, q, trees[j])
			o.checkZero(t, "any arguments")
			if j%3 == 0 && !reflect.DeepEqual(o, callAll(tr, q, trees[j])) {
				t.Errorf("transducer %d: equal calls have different results", i)
			}
		}
	}
}

// P2: arguments are not changed, and results share no memory with them or with
// each other.
func TestNoSharing(t *testing.T) {
	sample.ForTransducers(func(tr api.Transducer, trees []api.Tree) {
		if tr.States != 2 || len(trees) == 0 {
			return
		}
		before := sample.CopyTransducer(tr)
		x := trees[len(trees)/2]
		one, two := callAll(tr, 0, x), callAll(tr, 0, x)
		if sample.ShareTrees(x, one.output, one.state, two.output, two.state) || sample.ShareTopdowns(tr.Domain, one.domain, two.domain) {
			t.Errorf("%s: memory is shared", sample.ShowTransducer(tr))
		}
		// The alphabets of the sample transducers may be the same lists.
		own := tr
		own.In, own.Out = api.Alphabet{}, api.Alphabet{}
		if sample.ShareTransducers(own, one.identity, one.read, two.identity, two.read) || shareNumber(tr.Out.Ranks, one.identity.In.Ranks) {
			t.Errorf("%s: memory is shared", sample.ShowTransducer(tr))
		}
		if !sample.EqualTransducers(tr, before) {
			t.Errorf("%s: an argument was changed", sample.ShowTransducer(tr))
		}
	})
}

// shareNumber reports whether two lists begin at the same place.
func shareNumber(x, y []int) bool {
	return len(x) > 0 && len(y) > 0 && &x[0] == &y[0]
}

// Rule 5: transitions for symbols of rank 0 are lists, and not nil, in all
// results.
func TestLeaves(t *testing.T) {
	al := api.Alphabet{Ranks: []int{0}}
	want := sample.EverythingTopdown(al)
	identity, e := trans.Identity(al)
	if e != api.OK || !sample.EqualTopdowns(identity.Domain, want) {
		t.Errorf("Identity: %s, error %d", sample.ShowTopdown(identity.Domain), e)
	}
	d, e := trans.Domain(identity)
	if e != api.OK || !sample.EqualTopdowns(d, want) {
		t.Errorf("Domain: %s, error %d", sample.ShowTopdown(d), e)
	}
	text, _ := trans.Print(identity)
	read, e := trans.Parse(text)
	if e != api.OK || !sample.EqualTopdowns(read.Domain, want) {
		t.Errorf("Parse: %s, error %d", sample.ShowTopdown(read.Domain), e)
	}
}
