package schema_test

import (
	"boskage/api"
	"boskage/hedge"
	"boskage/sample"
	"boskage/schema"
	"slices"
	"strings"
	"testing"
)

// documents are all small unranked trees over two labels.
var documents = sample.Documents(2, 5)

// read reads an unranked tree with the labels a to h.
func read(t *testing.T, text string) api.Node {
	t.Helper()
	h, e := hedge.Parse(api.MaxLabels, strings.Split("abcdefgh", ""), text)
	if e != api.OK || len(h) != 1 {
		t.Fatalf("%s: error %d", text, e)
	}
	return h[0]
}

// choice makes an expression for the empty word and the words of e.
func choice(e api.Expr) api.Expr {
	return sample.Op(api.Either, e, sample.Op(api.Empty))
}

// single makes a schema over two labels with one type, which has the label 0 and
// is a start type.
func single(content api.Expr) api.Schema {
	return api.Schema{Labels: 2, Types: []api.Type{{Content: content}}, Start: []int{0}}
}

// positions returns the number of positions of a schema.
func positions(s api.Schema) int {
	number := 2*len(s.Types) + len(s.Start)
	for _, t := range s.Types {
		number += len(sample.Letters(t.Content))
	}
	return number
}

// isZero reports whether x is the zero tree.
func isZero(x api.Node) bool {
	return x.Label == 0 && len(x.Kids) == 0
}

// fits reports whether some word of e has letters from a list only.
func fits(e api.Expr, list []int) bool {
	switch e.Op {
	case api.Nothing:
		return false
	case api.Letter:
		return slices.Contains(list, e.Letter)
	case api.Concat:
		return fits(e.Args[0], list) && fits(e.Args[1], list)
	case api.Either:
		return fits(e.Args[0], list) || fits(e.Args[1], list)
	}
	return true
}

// occurs reports whether a letter occurs in some word of e that has letters from
// a list only.
func occurs(e api.Expr, list []int, letter int) bool {
	switch e.Op {
	case api.Letter:
		return e.Letter == letter && slices.Contains(list, letter)
	case api.Concat:
		x, y := e.Args[0], e.Args[1]
		return occurs(x, list, letter) && fits(y, list) || fits(x, list) && occurs(y, list, letter)
	case api.Either:
		return occurs(e.Args[0], list, letter) || occurs(e.Args[1], list, letter)
	case api.Star:
		return occurs(e.Args[0], list, letter)
	}
	return false
}

// productive returns the types that the root of some unranked tree can have.
func productive(s api.Schema) []int {
	var list []int
	for range s.Types {
		for number, t := range s.Types {
			if !slices.Contains(list, number) && fits(t.Content, list) {
				list = append(list, number)
			}
		}
	}
	return list
}

// useful reports for each type of s whether it occurs in an assignment.
func useful(s api.Schema) []bool {
	is, good := make([]bool, len(s.Types)), productive(s)
	for _, start := range s.Start {
		is[start] = slices.Contains(good, start)
	}
	for range s.Types {
		for number, t := range s.Types {
			for letter := range s.Types {
				is[letter] = is[letter] || is[number] && occurs(t.Content, good, letter)
			}
		}
	}
	return is
}

// hasDocument reports whether some unranked tree is valid with respect to s.
func hasDocument(s api.Schema) bool {
	return slices.Contains(useful(s), true)
}

// checkAccepts checks Accepts, Types and Check for a tree.
func checkAccepts(t *testing.T, s api.Schema, x api.Node) {
	t.Helper()
	want := sample.IsDocument(s, x)
	if got, e := schema.Accepts(s, x); e != api.OK || got != want {
		t.Errorf("%s, %s: Accepts returns %t, error %d", sample.ShowSchema(s), sample.ShowNode(x), got, e)
	}
	types, e := schema.Types(s, x)
	if !want {
		if e != api.ErrInput || len(types) > 0 {
			t.Errorf("%s, %s: Types returns %v, error %d", sample.ShowSchema(s), sample.ShowNode(x), types, e)
		}
		return
	}
	if e != api.OK || !sample.IsAssignment(s, x, types) {
		t.Errorf("%s, %s: Types returns %v, error %d", sample.ShowSchema(s), sample.ShowNode(x), types, e)
	}
	if is, e := schema.Check(s, x, types); e != api.OK || !is {
		t.Errorf("%s, %s: Check of %v returns %t, error %d", sample.ShowSchema(s), sample.ShowNode(x), types, is, e)
	}
}
