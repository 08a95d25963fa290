package query_test

import (
	"boskage/api"
	"boskage/path"
	"boskage/query"
	"boskage/sample"
	"boskage/samplepath"
	"reflect"
	"slices"
	"testing"
)

// outcome is what a call of each function returns.
type outcome struct {
	automaton                  api.Automaton
	fewest, node, common       int
	witness, other, both, none api.Node
	contained, overlap, always bool
	errors                     [6]api.Errno
}

// callAll calls all functions.
func callAll(s api.Schema, p, q path.Path) outcome {
	var o outcome
	o.automaton, o.errors[0] = query.Automaton(s.Labels, p)
	o.fewest, o.errors[1] = query.Fewest(s, p)
	o.witness, o.errors[2] = query.Witness(s, p)
	o.contained, o.other, o.node, o.errors[3] = query.Contained(s, p, q)
	o.overlap, o.both, o.common, o.errors[4] = query.Overlap(s, p, q)
	o.always, o.none, o.errors[5] = query.Always(s, p)
	return o
}

// checkZero checks that what is returned with an error, or without a document,
// is zero.
func (o outcome) checkZero(t *testing.T, what string) {
	t.Helper()
	zero := [6]bool{
		sample.Equal(o.automaton, api.Automaton{}), o.fewest == 0, isZero(o.witness), !o.contained && isZero(o.other) && o.node == 0,
		!o.overlap && isZero(o.both) && o.common == 0, !o.always && isZero(o.none),
	}
	for i, e := range o.errors {
		if e < api.OK || e > api.ErrState || e != api.OK && !zero[i] {
			t.Errorf("%s: error %d of call %d, with a result", what, e, i)
		}
	}
	if o.contained && (!isZero(o.other) || o.node != 0) || !o.overlap && (!isZero(o.both) || o.common != 0) || o.always && !isZero(o.none) {
		t.Errorf("%s: a document that shows nothing", what)
	}
}

// P14.2 to P14.6: schemas and paths that are not valid are refused before all
// else.
func TestErrors(t *testing.T) {
	check := func(what string, s api.Schema, p, q path.Path, from, to int) {
		t.Helper()
		o := callAll(s, p, q)
		o.checkZero(t, what)
		for call, e := range o.errors {
			if call >= from && call <= to && e != api.ErrArg {
				t.Errorf("%s: error %d of call %d", what, e, call)
			}
		}
	}
	good := read(t, 2, "desc::a")
	for _, s := range sample.BadSchemas() {
		check("a bad schema", s, good, good, 1, 5)
	}
	for _, bad := range samplepath.Bad(2) {
		for _, s := range []api.Schema{star(), {Labels: 2}} {
			check("a bad path", s, bad, good, 0, 5)
			check("bad paths", s, bad, bad, 0, 5)
			check("a bad second path", s, good, bad, 3, 4)
		}
		check("a bad schema and a bad path", sample.BadSchemas()[0], bad, bad, 0, 5)
	}
	two := read(t, 2, "desc::b")
	check("a label too many", sample.AllDocuments(1), two, samplepath.Of(samplepath.Step(path.Desc, 0)), 0, 5)
	check("a label too many", sample.AllDocuments(1), good, two, 3, 4)
}

// P1, P2: all arguments are accepted, equal calls have equal results, and with an
// error they are zero.
func TestAnyArguments(t *testing.T) {
	schemas := slices.Concat(sample.BadSchemas(), sample.Schemas(), []api.Schema{long(3), tower(), sample.LargeSchema(300), sample.LargeSchema(301), sample.AllDocuments(api.MaxLabels)})
	paths := slices.Concat(samplepath.RandomList(2, 60, api.MaxSteps), samplepath.RandomList(2, 40, 3), samplepath.Bad(2))
	for i, s := range schemas {
		for j := i % 7; j < len(paths); j += 7 {
			p, q := paths[j], paths[(i*11+j*5)%len(paths)]
			o := callAll(s, p, q)
			o.checkZero(t, "any arguments")
			if j%3 == 0 && !reflect.DeepEqual(o, callAll(s, p, q)) {
				t.Errorf("%s, schema %d: equal calls have different results", samplepath.Show(p), i)
			}
		}
	}
}

// P2: arguments are not changed, and results share no memory with them or with
// each other.
func TestNoSharing(t *testing.T) {
	list := samplepath.RandomList(2, 30, 4)
	for i, s := range sample.Schemas() {
		p, q := list[i%len(list)], list[(i+7)%len(list)]
		beforeS, beforeP, beforeQ := sample.CopySchema(s), samplepath.Copy(p), samplepath.Copy(q)
		one, two := callAll(s, p, q), callAll(s, p, q)
		if sample.Share(one.automaton, two.automaton) || sample.ShareNodes(one.witness, one.other, one.both, one.none, two.witness, two.other, two.both, two.none) {
			t.Errorf("%s: memory is shared", samplepath.Show(p))
		}
		if !sample.EqualSchemas(s, beforeS) || !samplepath.Equal(p, beforeP) || !samplepath.Equal(q, beforeQ) {
			t.Errorf("%s: an argument was changed", samplepath.Show(p))
		}
	}
}
