package path_test

import (
	"boskage/api"
	"boskage/path"
	"boskage/sample"
	"boskage/samplepath"
	"reflect"
	"slices"
	"strings"
	"testing"
)

// outcome is what one round of calls returns.
type outcome struct {
	values []any
}

// add keeps the result of a call. With an error, the result must be zero.
func (o *outcome) add(t *testing.T, what string, value any, e api.Errno) {
	t.Helper()
	v := reflect.ValueOf(value)
	zero := v.IsZero() || v.Kind() == reflect.Slice && v.Len() == 0
	if e != api.OK && !zero {
		t.Errorf("%s: %v beside error %d", what, value, e)
	}
	if e < api.OK || e > api.ErrState {
		t.Errorf("%s: there is no error %d", what, e)
	}
	o.values = append(o.values, value, e)
}

// callAll calls all functions with many combinations of odd arguments.
func callAll(t *testing.T) outcome {
	t.Helper()
	var o outcome
	paths := append(samplepath.Bad(2), samplepath.RandomList(2, 20, api.MaxSteps)...)
	trees := append(sample.BadNodes(2), sample.Node(0), sample.ChainNode(api.MaxSize, 1), sample.Node(1, sample.Row(api.MaxSize-1, 0)...))
	texts := []string{"", "child::a", "next::*[!desc::b]", "desc::", "\xff\x00", strings.Repeat("child::a[", 1<<17)}
	for _, n := range append([]int{1, 2, api.MaxLabels}, badLabels...) {
		for i, p := range paths {
			o.add(t, "Valid", path.Valid(n, p), api.OK)
			o.add(t, "Length", path.Length(p), api.OK)
			both, e := path.Append(n, p, paths[(i*7+5)%len(paths)])
			o.add(t, "Append", both, e)
			x := trees[i%len(trees)]
			nodes, e := path.Select(n, p, x)
			o.add(t, "Select", nodes, e)
			for _, v := range append(far, 0, 299) {
				nodes, e = path.From(n, p, x, v)
				o.add(t, "From", nodes, e)
				is, e := path.Passes(n, p, x, v)
				o.add(t, "Passes", is, e)
			}
			for _, names := range append(badNames(), letters[:2]) {
				text, e := path.Print(n, names, p)
				o.add(t, "Print", text, e)
			}
		}
		for _, names := range append(badNames(), letters[:2]) {
			for _, text := range texts {
				p, e := path.Parse(n, names, text)
				o.add(t, "Parse", p, e)
			}
		}
	}
	return o
}

// P1, P2: all arguments are accepted, and equal calls have equal results.
func TestAnyArguments(t *testing.T) {
	if !reflect.DeepEqual(callAll(t), callAll(t)) {
		t.Error("equal calls have different results")
	}
}

// P2: results share no memory with arguments or other results, and arguments are
// not changed.
func TestNoSharing(t *testing.T) {
	p, q := read(t, "desc::a[child::a][!next::b]"), read(t, "child::*[!child::a]")
	p.Steps, q.Steps = slices.Grow(p.Steps, 4), slices.Grow(q.Steps, 4)
	x, names := readNode(t, "a(b(a) b)"), slices.Clone(letters[:2])
	beforeP, beforeQ, beforeX := samplepath.Copy(p), samplepath.Copy(q), sample.CopyNode(x)
	one, _ := path.Append(2, p, q)
	two, _ := path.Append(2, p, q)
	text, _ := path.Print(2, names, p)
	three, _ := path.Parse(2, names, text)
	four, _ := path.Parse(2, names, text)
	if samplepath.Share(p, q, one, two, three, four) {
		t.Error("paths share memory")
	}
	self, _ := path.Append(2, q, q)
	if samplepath.Share(self, q) {
		t.Error("a path appended to itself shares memory")
	}
	first, _ := path.Select(2, p, x)
	from, _ := path.From(2, q, x, 0)
	for i := range first {
		first[i] = -1
	}
	for i := range from {
		from[i] = -1
	}
	second, e := path.Select(2, p, x)
	checkNodes(t, "Select", second, e, samplepath.Select(p, x))
	_, _ = path.Passes(2, p, x, 1)
	if !samplepath.Equal(p, beforeP) || !samplepath.Equal(q, beforeQ) || !sample.EqualNodes(x, beforeX) || !slices.Equal(names, letters[:2]) {
		t.Error("an argument was changed")
	}
}
