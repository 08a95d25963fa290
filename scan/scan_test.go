package scan_test

import (
	"boskage/api"
	"boskage/scan"
	"slices"
	"testing"
)

// tokens lists the tokens of a text.
func tokens(text string) []string {
	var list []string
	r := scan.NewReader(text)
	for r.Peek() != "" {
		first := r.Peek()
		if next := r.Next(); next != first {
			return nil
		}
		list = append(list, first)
	}
	return list
}

func TestTokens(t *testing.T) {
	tests := []struct {
		text string
		want []string
	}{
		{"", nil},
		{"   ", nil},
		{"a", []string{"a"}},
		{"  ab1 (c,2d)  e ", []string{"ab1", "(", "c", ",", "2d", ")", "e"}},
		{"a\tb\x00", []string{"a", "\t", "b", "\x00"}},
		{"::", []string{":", ":"}},
	}
	for _, test := range tests {
		if got := tokens(test.text); !slices.Equal(got, test.want) {
			t.Errorf("%q: got %q, want %q", test.text, got, test.want)
		}
	}
}

// cause calls f and returns the error of its panic, or OK.
func cause(f func()) (e api.Errno) {
	defer func() {
		if r := recover(); r != nil {
			e = scan.Cause(r)
		}
	}()
	f()
	return api.OK
}

func TestExpectAndPick(t *testing.T) {
	r := scan.NewReader(" b ( 1a")
	if i := r.Pick([]string{"a", "b"}); i != 1 {
		t.Errorf("picked %d", i)
	}
	if e := cause(func() { r.Expect("(") }); e != api.OK {
		t.Errorf("error %d", e)
	}
	if e := cause(func() { r.Pick([]string{"a"}) }); e != api.ErrForm {
		t.Errorf("error %d", e)
	}
	if e := cause(func() { r.Expect("") }); e != api.OK {
		t.Errorf("error %d", e)
	}
	if e := cause(func() { r.Expect(")") }); e != api.ErrForm {
		t.Errorf("error %d", e)
	}
}

func TestCause(t *testing.T) {
	if e := scan.Cause(scan.Failure{Errno: api.ErrFull}); e != api.ErrFull {
		t.Errorf("error %d", e)
	}
	if e := scan.Cause("something else"); e != api.ErrForm {
		t.Errorf("error %d", e)
	}
}

func TestNames(t *testing.T) {
	if !scan.Names(nil, 0) || !scan.Names([]string{"a", "A", "a1"}, 3) {
		t.Error("these are names")
	}
	for _, list := range [][]string{nil, {"a"}, {"a", "a"}, {"a", "1"}, {"a", "b", "c"}} {
		if scan.Names(list, 2) {
			t.Errorf("%q are not two names", list)
		}
	}
	if scan.Names(nil, -1) {
		t.Error("there are no negative numbers of names")
	}
}
