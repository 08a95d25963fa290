package query

import "boskage/path"

// truths are truth values for a hedge, as bits. There is a bit for each step: a
// node meets a step if it passes it and the rest of the path selects some node
// from it. The bit of a step with the axis Desc says whether some node of the
// hedge meets it; that of another step says so of the roots of the trees.
//
// If a node is marked, only that node meets the last steps of the paths that are
// evaluated (not of their tests).
type truths uint16

const (
	// marked says that the marked node is in the hedge.
	marked truths = 1 << iota
	// firstStep is the bit of the first step. The other steps follow.
	firstStep
)

// want is what a node requires of the nodes to which an axis leads from it: that
// one of them meets a step or, if not is true, that none does.
type want struct {
	axis int
	bit  truths
	not  bool
}

// holds reports whether a node has what it wants, where children and siblings
// are the truth values of its children and of the siblings after it.
func (w want) holds(children, siblings truths) bool {
	around := children
	if w.axis == path.Next {
		around = siblings
	}
	return (around&w.bit != 0) != w.not
}

// step says which nodes meet a step of a path: those with a label, with the
// mark (if it is not 0) and with all they want.
type step struct {
	bit   truths
	label int
	mark  truths
	wants []want
}

// met reports whether a node meets s. Own is marked if it is the marked node.
func (s *step) met(label int, own, children, siblings truths) bool {
	if s.label >= 0 && s.label != label || s.mark&^own != 0 {
		return false
	}
	for _, w := range s.wants {
		if !w.holds(children, siblings) {
			return false
		}
	}
	return true
}

// machine computes the truth values of hedges.
type machine struct {
	steps []step
	// deep are the bits that are about all nodes of a hedge.
	deep truths
	// paths contains for each path what the document node wants if the path
	// selects a node.
	paths []want
}

// newMachine returns a machine for valid paths. If mark is marked, they are to
// select the marked node.
func newMachine(mark truths, paths []path.Path) *machine {
	m := &machine{deep: marked}
	var add func(steps []path.Step, mark truths) want
	add = func(steps []path.Step, mark truths) want {
		number := len(m.steps)
		s := step{bit: firstStep << number, label: steps[0].Label}
		m.steps = append(m.steps, s)
		if len(steps) > 1 {
			s.wants = append(s.wants, add(steps[1:], mark))
		} else {
			s.mark = mark
		}
		for _, t := range steps[0].Tests {
			w := add(t.Path.Steps, 0)
			w.not = t.Not
			s.wants = append(s.wants, w)
		}
		m.steps[number] = s
		if steps[0].Axis == path.Desc {
			m.deep |= s.bit
		}
		return want{axis: steps[0].Axis, bit: s.bit}
	}
	for _, p := range paths {
		m.paths = append(m.paths, add(p.Steps, mark))
	}
	return m
}

// join returns the truth values of a hedge whose first tree has a label and
// children with the given truth values, and is followed by siblings. Own is
// marked if the root of that tree is the marked node.
func (m *machine) join(label int, own, children, siblings truths) truths {
	joined := own | children&m.deep | siblings
	for i := range m.steps {
		s := &m.steps[i]
		if s.met(label, own, children, siblings) {
			joined |= s.bit
		}
	}
	return joined
}

// selects reports for each path whether it selects a node in a tree, where t are
// the truth values of the hedge that consists of it.
func (m *machine) selects(t truths) []bool {
	var selects []bool
	for _, w := range m.paths {
		selects = append(selects, w.holds(t, 0))
	}
	return selects
}
