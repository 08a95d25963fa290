package path_test

import (
	"boskage/api"
	"boskage/path"
	"boskage/sample"
	"boskage/samplepath"
	"slices"
	"strings"
	"testing"
)

// badNames are not names of two labels.
func badNames() [][]string {
	return [][]string{
		nil, {}, {"a"}, {"a", "b", "c"}, {"a", "a"}, {"a", ""}, {"", "b"}, {"a", "1"}, {"a", "b "}, {"a", "b*"}, {"*", "b"}, {"a", "[]"},
		{"a", "abcdefghijklm"}, {"\u00e9", "b"}, make([]string, 100000),
	}
}

// P13.5
func TestPrint(t *testing.T) {
	child, desc, next := samplepath.Step(path.Child, 0), samplepath.Step(path.Desc, -1), samplepath.Step(path.Next, 1)
	tests := []struct {
		p    path.Path
		want string
	}{
		{samplepath.Of(child), "child::a"},
		{samplepath.Of(desc), "desc::*"},
		{samplepath.Of(next), "next::b"},
		{samplepath.Of(next, child, desc), "next::b/child::a/desc::*"},
		{samplepath.Of(samplepath.Step(path.Child, -1, samplepath.Has(desc))), "child::*[desc::*]"},
		{samplepath.Of(samplepath.Step(path.Desc, 1, samplepath.Not(next, desc))), "desc::b[!next::b/desc::*]"},
		{samplepath.Of(child, samplepath.Step(path.Next, 0, samplepath.Not(child), samplepath.Has(child)), desc), "child::a/next::a[!child::a][child::a]/desc::*"},
		{samplepath.Of(samplepath.Step(path.Next, -1, samplepath.Not(samplepath.Step(path.Child, 0, samplepath.Not(next), samplepath.Has(desc)), child))), "next::*[!child::a[!next::b][desc::*]/child::a]"},
		{samplepath.Nested(6, child), "child::a[child::a[child::a[child::a[child::a[child::a]]]]]"},
	}
	for _, test := range tests {
		if got, e := path.Print(2, letters[:2], test.p); e != api.OK || got != test.want {
			t.Errorf("%q, error %d, want %q", got, e, test.want)
		}
		got, e := path.Parse(2, letters[:2], test.want)
		checkPath(t, test.want, got, e, test.p, api.OK)
	}
	long := []string{"abcdefghijkl", "B9"}
	if got, e := path.Print(2, long, read(t, "desc::b[!child::a]/next::*")); e != api.OK || got != "desc::B9[!child::abcdefghijkl]/next::*" {
		t.Errorf("%q, error %d", got, e)
	}
}

// P13.5: ErrArg comes before ErrForm.
func TestPrintErrors(t *testing.T) {
	good := read(t, "child::a")
	for _, names := range badNames() {
		text, e := path.Print(2, names, good)
		checkError(t, "bad names", text == "", e, api.ErrForm)
		text, e = path.Print(2, names, read(t, "child::c"))
		checkError(t, "bad names and a bad path", text == "", e, api.ErrArg)
	}
	for _, bad := range samplepath.Bad(2) {
		text, e := path.Print(2, letters[:2], bad)
		checkError(t, "a bad path", text == "", e, api.ErrArg)
	}
	for _, n := range badLabels {
		text, e := path.Print(n, nil, good)
		checkError(t, "a bad number of labels", text == "", e, api.ErrArg)
	}
}

// P13.5, P13.9, P10
func TestRoundTrip(t *testing.T) {
	long := []string{"abcdefghijkl", "abcdefghijkm", "child", "desc", "next", "Aa", "aA", "x012345678"}
	check := func(n int, p path.Path) {
		t.Helper()
		for _, names := range [][]string{letters[:n], long[len(long)-n:]} {
			text, e := path.Print(n, names, p)
			if e != api.OK {
				t.Fatalf("%s: error %d", samplepath.Show(p), e)
			}
			got, e := path.Parse(n, names, text)
			checkPath(t, text, got, e, p, api.OK)
			if samplepath.Share(got, p) {
				t.Errorf("%s: memory is shared", text)
			}
		}
		if text, _ := path.Print(n, letters[:n], p); text != samplepath.Show(p) {
			t.Errorf("got %s, want %s", text, samplepath.Show(p))
		}
	}
	for _, p := range samplepath.Upto(2, 2) {
		check(2, p)
	}
	for _, p := range samplepath.All(1, 3) {
		check(1, p)
	}
	for n := 1; n <= api.MaxLabels; n++ {
		for _, p := range samplepath.RandomList(n, 200, api.MaxSteps) {
			check(n, p)
		}
	}
}

// P13.5: labels whose names are those of axes.
func TestParseNames(t *testing.T) {
	names := []string{"child", "desc", "next", "childs", "d"}
	got, e := path.Parse(5, names, "child::child/desc::desc[!next::next]/child::childs/next::d")
	checkPath(t, "names of axes", got, e, read(t, "child::a/desc::b[!next::c]/child::d/next::e"), api.OK)
	got, e = path.Parse(5, names, "childs::child")
	checkPath(t, "no axis", got, e, path.Path{}, api.ErrForm)
	got, e = path.Parse(2, []string{"a", "ab"}, "child::ab")
	checkPath(t, "a long name", got, e, read(t, "child::b"), api.OK)
}

// P13.5: blanks, and whatever else is not the printed form of a path.
func TestParseBadForm(t *testing.T) {
	texts := []string{
		"", " ", "a", "*", "/", "child", "child:", "child::", "::a", ":a", "child:a", "child:::a", "child::c", "child::A", "child::ab", "child::1", "child::-1",
		"Child::a", "childs::a", "self::a", "parent::a", "descendant::a", "next", "nextchild::a", "child::a/", "/child::a", "child::a//child::a", "child::a/a", "child::a child::a", "child::achild::a",
		"child::a[]", "child::a[", "child::a]", "child::a[!]", "child::a[!!child::a]", "child::a[child::a", "child::achild::a]", "child::a[child::a]]", "child::a[[child::a]]", "child::a[child::a/]",
		"child::a[child::a]child::a", "child::a[child::a][", "child::a[child::a][]", "child::a![child::a]", "!child::a", "[child::a]", "child::a[child::a]a", "child[child::a]::a", "child::[child::a]a",
		" child::a", "child::a ", "child ::a", "child: :a", "child:: a", "child::a /child::a", "child::a/ child::a", "child::a [child::a]", "child::a[ child::a]", "child::a[child::a ]", "child::a[! child::a]", "child::a[ !child::a]",
		"child::**", "child::*a", "child::a*", "child::*::a", "child::a\n", "\tchild::a", "child::a\x00", "\xff", "child::\u00e9", "child::a/*", "child::(a)", "child=a", "child::a|child::b", "child::a.",
		strings.Repeat("child::a/", 1000), strings.Repeat("child::a[", 1800), strings.Repeat("child::a]", 1800), strings.Repeat("[", api.MaxText), strings.Repeat("a", api.MaxText), strings.Repeat(" ", api.MaxText),
	}
	for _, text := range texts {
		got, e := path.Parse(2, letters[:2], text)
		checkPath(t, text, got, e, path.Path{}, api.ErrForm)
	}
	// A byte is removed, added or replaced in a printed form: what is accepted is
	// the printed form of what is returned.
	var s sample.Source
	for _, p := range samplepath.RandomList(2, 200, api.MaxSteps) {
		text := samplepath.Show(p)
		for range 30 {
			i := s.Below(len(text))
			b := " ab*:/[]!childesnxt\x00"[s.Below(20)]
			for _, odd := range []string{text[:i] + text[i+1:], text[:i] + string(b) + text[i:], text[:i] + string(b) + text[i+1:]} {
				got, e := path.Parse(2, letters[:2], odd)
				if e == api.OK && samplepath.Show(got) != odd || e != api.OK && (e != api.ErrForm && e != api.ErrFull || len(got.Steps) > 0) {
					t.Errorf("%s: %s, error %d", odd, samplepath.Show(got), e)
				}
			}
		}
	}
}

// P13.5: the limits, and the order of the errors.
func TestParseLimits(t *testing.T) {
	parse := func(what, text string, want path.Path, wantE api.Errno) {
		t.Helper()
		got, e := path.Parse(2, letters[:2], text)
		checkPath(t, what, got, e, want, wantE)
	}
	s := samplepath.Step(path.Child, 0)
	row := func(n int) string { return strings.Repeat("/child::a", n)[1:] }
	nested := func(n int) string { return strings.Repeat("[child::a", n)[1:] + strings.Repeat("]", n-1) }
	beside := func(n int) string { return "child::a" + strings.Repeat("[!child::a]", n-1) }
	parse("6 steps", row(6), samplepath.Of(slices.Repeat([]path.Step{s}, 6)...), api.OK)
	parse("6 nested steps", nested(6), samplepath.Nested(6, s), api.OK)
	parse("5 tests", beside(6), samplepath.Of(samplepath.Step(path.Child, 0, slices.Repeat([]path.Test{samplepath.Not(s)}, 5)...)), api.OK)
	for _, n := range []int{7, 8, 100, 1200} {
		parse("many steps", row(n), path.Path{}, api.ErrFull)
		parse("many nested steps", nested(n), path.Path{}, api.ErrFull)
		parse("many tests", beside(n), path.Path{}, api.ErrFull)
		parse("many steps, and no path", row(n)+"/", path.Path{}, api.ErrForm)
		parse("many nested steps, and no path", nested(n)+"]", path.Path{}, api.ErrForm)
		parse("many tests, and no path", beside(n)+"[]", path.Path{}, api.ErrForm)
	}
	parse("almost MaxText bytes", row(1820), path.Path{}, api.ErrFull)
	parse("MaxText bytes, and no path", strings.Repeat("[", api.MaxText), path.Path{}, api.ErrForm)
	parse("MaxText + 1 bytes, and no path", strings.Repeat("[", api.MaxText+1), path.Path{}, api.ErrFull)
	parse("far too many bytes", strings.Repeat("child::a[", 1<<18), path.Path{}, api.ErrFull)
}

// P13.5: ErrRange, ErrForm for the names, ErrFull for the length, in this order.
func TestParseErrors(t *testing.T) {
	long := strings.Repeat("a", api.MaxText+1)
	for _, text := range []string{"", "child::a", "child::", strings.Repeat("child::a/", 7) + "child::a", long} {
		for _, n := range badLabels {
			for _, names := range [][]string{nil, {"a"}, letters[:2]} {
				got, e := path.Parse(n, names, text)
				checkPath(t, "a bad number of labels", got, e, path.Path{}, api.ErrRange)
			}
		}
		for _, names := range badNames() {
			got, e := path.Parse(2, names, text)
			checkPath(t, "bad names", got, e, path.Path{}, api.ErrForm)
		}
	}
	got, e := path.Parse(2, letters[:2], long)
	checkPath(t, "a long text", got, e, path.Path{}, api.ErrFull)
}
