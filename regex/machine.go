package regex

import (
	"boskage/api"
	"iter"
	"math/bits"
)

// set is a set of nodes: the node with the number i is the bit 1 << i. Of at
// most MaxExpr nodes, about half can have the Op Letter.
type set uint64

// only returns the set of one node.
func only(node int) set {
	return 1 << node
}

func (s set) has(node int) bool {
	return s&only(node) != 0
}

// all yields the nodes of s in increasing order.
func (s set) all() iter.Seq[int] {
	return func(yield func(int) bool) {
		for ; s != 0; s &= s - 1 {
			if !yield(bits.TrailingZeros64(uint64(s))) {
				return
			}
		}
	}
}

// machine reads words. Its nodes are those of an expression with the Op Letter,
// numbered from left to right, and one more. After a letter it is at all nodes
// that can have contributed it, and before the first letter at the node of
// begin, which has the highest number.
type machine struct {
	begin set
	// ends are the nodes after which a word can end.
	ends set
	// after contains for each node those that can contribute the next letter.
	after []set
	// of contains the nodes of each letter.
	of [api.MaxTypes]set
}

// part describes the words of a part of an expression: whether the empty word
// is one of them, and the nodes that contribute their first and last letters.
type part struct {
	nullable    bool
	first, last set
}

// newMachine returns a machine for the words of a valid expression.
func newMachine(e api.Expr) *machine {
	m := &machine{}
	whole := m.add(e)
	m.begin = only(len(m.after))
	m.after = append(m.after, whole.first)
	m.ends = whole.last
	if whole.nullable {
		m.ends |= m.begin
	}
	return m
}

// add adds the nodes of a part of an expression.
func (m *machine) add(e api.Expr) part {
	if !hasWord(e) {
		m.skip(e)
		return part{}
	}
	var parts []part
	for _, arg := range e.Args {
		parts = append(parts, m.add(arg))
	}
	switch e.Op {
	case api.Letter:
		node := m.addNode(e.Letter)
		return part{first: node, last: node}
	case api.Concat:
		return m.concat(parts[0], parts[1])
	case api.Either:
		x, y := parts[0], parts[1]
		return part{x.nullable || y.nullable, x.first | y.first, x.last | y.last}
	case api.Star:
		x := parts[0]
		m.connect(x.last, x.first)
		return part{true, x.first, x.last}
	}
	return part{nullable: true}
}

// hasWord reports whether the language of e has a word.
func hasWord(e api.Expr) bool {
	switch e.Op {
	case api.Nothing:
		return false
	case api.Concat:
		return hasWord(e.Args[0]) && hasWord(e.Args[1])
	case api.Either:
		return hasWord(e.Args[0]) || hasWord(e.Args[1])
	}
	return true
}

// skip adds the nodes of a part that contributes to no word.
func (m *machine) skip(e api.Expr) {
	if e.Op == api.Letter {
		m.addNode(e.Letter)
	}
	for _, arg := range e.Args {
		m.skip(arg)
	}
}

// addNode adds a node for a letter.
func (m *machine) addNode(letter int) set {
	node := only(len(m.after))
	m.after = append(m.after, 0)
	m.of[letter] |= node
	return node
}

// concat returns a part for the words of x followed by words of y.
func (m *machine) concat(x, y part) part {
	m.connect(x.last, y.first)
	whole := part{x.nullable && y.nullable, x.first, y.last}
	if x.nullable {
		whole.first |= y.first
	}
	if y.nullable {
		whole.last |= x.last
	}
	return whole
}

// connect lets each node of next come after each node of last.
func (m *machine) connect(last, next set) {
	for node := range last.all() {
		m.after[node] |= next
	}
}

// next returns the nodes that the machine is at after a letter.
func (m *machine) next(at set, letter int) set {
	var next set
	for node := range at.all() {
		next |= m.after[node]
	}
	return next & m.of[letter]
}

// accepts reports whether a word can end where the machine is.
func (m *machine) accepts(at set) bool {
	return at&m.ends != 0
}
