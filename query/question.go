package query

import (
	"boskage/api"
	"boskage/path"
	"boskage/schema"
	"slices"
)

// question asks for a smallest document in which paths select nodes in a certain
// way. If mark is marked, it is about one node of the document that some path
// selects: the marked one.
type question struct {
	schema api.Schema
	paths  []path.Path
	mark   truths
}

// answer returns a smallest document that fits, and its marked node. Whether a
// document fits depends on which of the paths select some node in it (the marked
// node, if there is one). It returns ErrNone if there is no such document.
func (q question) answer(fits func(selects []bool) bool) (api.Node, int, api.Errno) {
	if !q.valid() {
		return api.Node{}, 0, api.ErrArg
	}
	a, e := schema.Automaton(q.schema)
	if e != api.OK {
		return api.Node{}, 0, e
	}
	s := newSearch(a, newMachine(q.mark, q.paths), q.mark)
	number, e := s.run(func(k kind) bool {
		return slices.Contains(a.Final, k.state) && fits(s.selects(k.truths))
	})
	if e != api.OK {
		return api.Node{}, 0, e
	}
	x, v := s.document(number)
	return x, v, api.OK
}

// valid reports whether the schema is valid, and the paths are valid over its
// labels.
func (q question) valid() bool {
	if !schema.Valid(q.schema) {
		return false
	}
	for _, p := range q.paths {
		if !path.Valid(q.schema.Labels, p) {
			return false
		}
	}
	return true
}
