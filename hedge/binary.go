package hedge

import (
	"boskage/api"
	"boskage/tree"
)

// Binary returns the binary alphabet of n labels.
func Binary(n int) (api.Alphabet, api.Errno) {
	if !validLabels(n) {
		return api.Alphabet{}, api.ErrRange
	}
	ranks := make([]int, n+1)
	for label := range n {
		ranks[label] = 2
	}
	return api.Alphabet{Ranks: ranks}, api.OK
}

// Encode returns the encoding of h.
func Encode(n int, h []api.Node) (api.Tree, api.Errno) {
	if !ValidHedge(n, h) {
		return api.Tree{}, api.ErrArg
	}
	// The encoding has a node for each node of h, and as many leaves plus one.
	if 2*Size(h)+1 > api.MaxSize {
		return api.Tree{}, api.ErrFull
	}
	return encode(n, h), api.OK
}

func encode(n int, h []api.Node) api.Tree {
	if len(h) == 0 {
		return api.Tree{Sym: n}
	}
	kids := []api.Tree{encode(n, h[0].Kids), encode(n, h[1:])}
	return api.Tree{Sym: h[0].Label, Kids: kids}
}

// Decode returns the hedge whose encoding is t.
func Decode(n int, t api.Tree) ([]api.Node, api.Errno) {
	al, e := Binary(n)
	if e != api.OK {
		return nil, e
	}
	if !tree.Valid(al, t) {
		return nil, api.ErrArg
	}
	return decode(n, t), api.OK
}

func decode(n int, t api.Tree) []api.Node {
	var h []api.Node
	for t.Sym != n {
		kids := decode(n, t.Kids[0])
		h = append(h, api.Node{Label: t.Sym, Kids: kids})
		t = t.Kids[1]
	}
	return h
}
