package path_test

import (
	"boskage/api"
	"boskage/path"
	"boskage/samplepath"
	"slices"
	"testing"
)

// P13.1
func TestValid(t *testing.T) {
	for _, p := range samplepath.Upto(2, 2) {
		for n := 2; n <= api.MaxLabels; n++ {
			if !path.Valid(n, p) {
				t.Errorf("%s is valid over %d labels", samplepath.Show(p), n)
			}
		}
		for _, n := range badLabels {
			if path.Valid(n, p) {
				t.Errorf("%s is not valid over %d labels", samplepath.Show(p), n)
			}
		}
	}
	for n := 1; n <= api.MaxLabels; n++ {
		for _, p := range samplepath.RandomList(n, 300, api.MaxSteps) {
			if !path.Valid(n, p) {
				t.Errorf("%s is valid over %d labels", samplepath.Show(p), n)
			}
		}
		for i, p := range samplepath.Bad(n) {
			if path.Valid(n, p) {
				t.Errorf("bad path %d is not valid over %d labels", i, n)
			}
		}
	}
}

// P13.1: labels at the end of their range, and as many steps as there can be.
func TestValidLimits(t *testing.T) {
	for n := 1; n <= api.MaxLabels; n++ {
		for label := -1; label <= api.MaxLabels; label++ {
			s := samplepath.Step(path.Desc, label)
			for _, p := range []path.Path{samplepath.Of(s), samplepath.Nested(api.MaxSteps, s)} {
				if got := path.Valid(n, p); got != (label < n) {
					t.Errorf("label %d, %d labels: %t", label, n, got)
				}
			}
		}
	}
	s := samplepath.Step(path.Next, -1)
	for number := 1; number <= 10; number++ {
		list, tests := slices.Repeat([]path.Step{s}, number), slices.Repeat([]path.Test{samplepath.Not(s)}, number-1)
		for _, p := range []path.Path{samplepath.Of(list...), samplepath.Nested(number, s), samplepath.Of(samplepath.Step(path.Child, 0, tests...))} {
			if got := path.Valid(1, p); got != (number <= api.MaxSteps) {
				t.Errorf("%d steps: %t", number, got)
			}
		}
	}
}

// P13.1: a path that is a part of itself is not valid, as it has no end.
func TestValidWithoutEnd(t *testing.T) {
	p := samplepath.Of(samplepath.Step(path.Child, 0, path.Test{}))
	p.Steps[0].Tests[0].Path = p
	if path.Valid(1, p) {
		t.Error("the path is valid")
	}
}

// P13.1: Length counts the steps of any path, valid or not.
func TestLength(t *testing.T) {
	for number := 1; number <= 3; number++ {
		for _, p := range samplepath.All(1, number) {
			if got := path.Length(p); got != number {
				t.Errorf("%s: %d", samplepath.Show(p), got)
			}
		}
	}
	s, odd := samplepath.Step(path.Child, 0), samplepath.Step(-7, 1<<40, path.Test{}, path.Test{Not: true})
	tests := []struct {
		p    path.Path
		want int
	}{
		{path.Path{}, 0},
		{path.Path{Steps: []path.Step{}}, 0},
		{samplepath.Of(odd), 1},
		{samplepath.Of(odd, odd, s), 3},
		{samplepath.Of(s, samplepath.Step(path.Desc, -1, samplepath.Has(s, odd), samplepath.Not(odd, s, s)), odd), 8},
		{samplepath.Of(slices.Repeat([]path.Step{s}, 100000)...), 100000},
		{samplepath.Nested(50000, s), 50000},
	}
	for i, test := range tests {
		if got := path.Length(test.p); got != test.want {
			t.Errorf("path %d: %d, want %d", i, got, test.want)
		}
	}
}

// P13.4
func TestAppend(t *testing.T) {
	list := append(samplepath.Upto(2, 1), samplepath.RandomList(2, 120, api.MaxSteps)...)
	for _, p := range list {
		for _, q := range list {
			got, e := path.Append(2, p, q)
			want := samplepath.Of(slices.Concat(p.Steps, q.Steps)...)
			if path.Length(p)+path.Length(q) > api.MaxSteps {
				checkPath(t, "too many steps", got, e, path.Path{}, api.ErrFull)
			} else {
				checkPath(t, samplepath.Show(p)+" and "+samplepath.Show(q), got, e, want, api.OK)
			}
		}
	}
}

// P13.4: the steps of tests count.
func TestAppendLimit(t *testing.T) {
	s := samplepath.Step(path.Desc, 0)
	for left := 1; left <= api.MaxSteps; left++ {
		for right := 1; right <= api.MaxSteps; right++ {
			p, q := samplepath.Nested(left, s), samplepath.Nested(right, s)
			got, e := path.Append(1, p, q)
			if left+right <= api.MaxSteps {
				checkPath(t, "nested tests", got, e, samplepath.Of(p.Steps[0], q.Steps[0]), api.OK)
			} else {
				checkPath(t, "nested tests", got, e, path.Path{}, api.ErrFull)
			}
		}
	}
}

// P13.4: paths that are not valid, also if there are too many steps.
func TestAppendErrors(t *testing.T) {
	for _, good := range []path.Path{read(t, "child::a"), samplepath.Nested(api.MaxSteps, samplepath.Step(path.Child, 0))} {
		for _, bad := range samplepath.Bad(2) {
			for _, pair := range [][2]path.Path{{good, bad}, {bad, good}, {bad, bad}} {
				got, e := path.Append(2, pair[0], pair[1])
				checkPath(t, "a bad path", got, e, path.Path{}, api.ErrArg)
			}
		}
		for _, n := range badLabels {
			got, e := path.Append(n, good, good)
			checkPath(t, "a bad number of labels", got, e, path.Path{}, api.ErrArg)
		}
	}
	got, e := path.Append(1, read(t, "child::a"), read(t, "child::b"))
	checkPath(t, "one label", got, e, path.Path{}, api.ErrArg)
}
