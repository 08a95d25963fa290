// Package samplepath provides the tests of the layers with paths, valid and not,
// and with a plain definition of what they select.
package samplepath

import (
	"boskage/api"
	"boskage/path"
	"boskage/sample"
	"slices"
)

// Of makes a path.
func Of(steps ...path.Step) path.Path {
	return path.Path{Steps: steps}
}

// Step makes a step.
func Step(axis, label int, tests ...path.Test) path.Step {
	return path.Step{Axis: axis, Label: label, Tests: tests}
}

// Has makes a test.
func Has(steps ...path.Step) path.Test {
	return path.Test{Path: Of(steps...)}
}

// Not makes a negated test.
func Not(steps ...path.Step) path.Test {
	return path.Test{Not: true, Path: Of(steps...)}
}

// All returns all paths over n labels with the given number of steps.
func All(n, length int) []path.Path {
	var paths []path.Path
	for first := 1; first <= length; first++ {
		for _, s := range allSteps(n, first) {
			if first == length {
				paths = append(paths, Of(s))
				continue
			}
			for _, rest := range All(n, length-first) {
				paths = append(paths, Of(append([]path.Step{s}, rest.Steps...)...))
			}
		}
	}
	return copyAll(paths)
}

// Upto returns all paths over n labels with at most the given number of steps.
func Upto(n, length int) []path.Path {
	var paths []path.Path
	for steps := 1; steps <= length; steps++ {
		paths = append(paths, All(n, steps)...)
	}
	return paths
}

// allSteps returns all steps over n labels that have the given number of steps
// with those of their tests.
func allSteps(n, length int) []path.Step {
	var steps []path.Step
	for _, tests := range allTests(n, length-1) {
		for axis := path.Child; axis <= path.Next; axis++ {
			for label := -1; label < n; label++ {
				steps = append(steps, Step(axis, label, tests...))
			}
		}
	}
	return steps
}

// allTests returns all lists of tests that have together the given number of
// steps.
func allTests(n, length int) [][]path.Test {
	if length == 0 {
		return [][]path.Test{nil}
	}
	var lists [][]path.Test
	for first := 1; first <= length; first++ {
		for _, p := range All(n, first) {
			for _, rest := range allTests(n, length-first) {
				lists = append(lists, append([]path.Test{{Path: p}}, rest...), append([]path.Test{{Not: true, Path: p}}, rest...))
			}
		}
	}
	return lists
}

// Random makes a path over n labels with the given number of steps.
func Random(s *sample.Source, n, length int) path.Path {
	var steps []path.Step
	for length > 0 {
		size := length
		if s.Below(3) > 0 {
			size = 1 + s.Below(length)
		}
		length -= size
		x := Step([]int{path.Child, path.Desc, path.Desc, path.Next}[s.Below(4)], s.Below(n+1)-1)
		if len(steps) == 0 && s.Below(4) > 0 {
			x.Axis = path.Desc
		}
		for left := size - 1; left > 0; {
			inside := 1 + s.Below(left)
			left -= inside
			x.Tests = append(x.Tests, path.Test{Not: s.Below(2) == 0, Path: Random(s, n, inside)})
		}
		steps = append(steps, x)
	}
	return Of(steps...)
}

// RandomList makes paths over n labels with 1 to most steps.
func RandomList(n, number, most int) []path.Path {
	var s sample.Source
	var list []path.Path
	for range number {
		list = append(list, Random(&s, n, 1+s.Below(most)))
	}
	return list
}

// Nested makes a path of one step with a test, whose path is of one step with a
// test, and so on. It has the given number of steps.
func Nested(length int, s path.Step) path.Path {
	p := Of(s)
	for range length - 1 {
		p = Of(Step(s.Axis, s.Label, path.Test{Path: p}))
	}
	return p
}

// Bad returns paths that are not valid over n labels.
func Bad(n int) []path.Path {
	good, tests := Step(path.Child, 0), slices.Repeat([]path.Test{Has(Step(path.Desc, -1))}, api.MaxSteps)
	var steps []path.Step
	for _, axis := range []int{-1, 3, 1 << 40, -1 << 63} {
		steps = append(steps, Step(axis, 0), Step(axis, -1))
	}
	for _, label := range []int{-2, n, 1 << 40, -1 << 63} {
		steps = append(steps, Step(path.Child, label), Step(path.Desc, label), Step(path.Next, label))
	}
	steps = append(steps, Step(path.Child, 0, path.Test{}), Step(path.Child, 0, path.Test{Not: true}), Step(path.Child, 0, Has(good), path.Test{}))
	bad := []path.Path{{}, {Steps: []path.Step{}}}
	for _, s := range steps {
		bad = append(bad, Of(s), Of(good, s), Of(s, good), Of(Step(path.Desc, -1, Has(s))), Of(good, Step(path.Next, 0, Has(good), Not(good, Step(path.Child, 0, Has(s))))))
	}
	return append(bad,
		Of(slices.Repeat([]path.Step{good}, api.MaxSteps+1)...), Of(slices.Repeat([]path.Step{good}, 100000)...),
		Of(Step(path.Child, 0, tests...)), Of(Step(path.Child, 0, slices.Repeat(tests, 20000)...)), Of(Step(path.Child, 0, make([]path.Test, 100000)...)),
		Nested(api.MaxSteps+1, good), Nested(50000, good), Of(good, good, Step(path.Child, 0, Has(good, good), Not(good)), good),
	)
}

// Equal reports whether two paths are the same, where an empty list equals nil.
func Equal(p, q path.Path) bool {
	return slices.EqualFunc(p.Steps, q.Steps, func(s, t path.Step) bool {
		return s.Axis == t.Axis && s.Label == t.Label && slices.EqualFunc(s.Tests, t.Tests, func(x, y path.Test) bool {
			return x.Not == y.Not && Equal(x.Path, y.Path)
		})
	})
}

// Copy copies a path with all its memory.
func Copy(p path.Path) path.Path {
	p.Steps = slices.Clone(p.Steps)
	for i, s := range p.Steps {
		p.Steps[i].Tests = slices.Clone(s.Tests)
		for j, t := range s.Tests {
			p.Steps[i].Tests[j].Path = Copy(t.Path)
		}
	}
	return p
}

// copyAll copies paths, so that they share no memory.
func copyAll(paths []path.Path) []path.Path {
	for i, p := range paths {
		paths[i] = Copy(p)
	}
	return paths
}

// Share reports whether two lists of steps or of tests in the paths share
// memory, up to their capacities.
func Share(paths ...path.Path) bool {
	steps, tests := map[*path.Step]bool{}, map[*path.Test]bool{}
	shared := false
	var visit func(p path.Path)
	visit = func(p path.Path) {
		shared = sample.AddNew(steps, p.Steps) || shared
		for _, s := range p.Steps {
			shared = sample.AddNew(tests, s.Tests) || shared
			for _, t := range s.Tests {
				visit(t.Path)
			}
		}
	}
	for _, p := range paths {
		visit(p)
	}
	return shared
}

// Show returns a path as a text, with a letter for each label.
func Show(p path.Path) string {
	text := ""
	for i, s := range p.Steps {
		if i > 0 {
			text += "/"
		}
		text += map[int]string{path.Child: "child", path.Desc: "desc", path.Next: "next"}[s.Axis] + "::"
		if s.Label < 0 {
			text += "*"
		} else {
			text += string(rune('a' + s.Label))
		}
		for _, t := range s.Tests {
			text += map[bool]string{true: "[!", false: "["}[t.Not] + Show(t.Path) + "]"
		}
	}
	return text
}
