package scan_test

import (
	"boskage/api"
	"boskage/scan"
	"testing"
)

func TestJoin(t *testing.T) {
	tests := []struct {
		got, want string
	}{
		{scan.Join("in"), "in"},
		{scan.Join("d", 0), "d 0"},
		{scan.Join("domain", 12, -1, 300), "domain 12 -1 300"},
	}
	for _, test := range tests {
		if test.got != test.want {
			t.Errorf("got %q, want %q", test.got, test.want)
		}
	}
}

func TestNumber(t *testing.T) {
	for text, want := range map[string]int{"0": 0, "7": 7, "10": 10, "299": 299} {
		got := -1
		if e := cause(func() { got = scan.Number(text, 300) }); e != api.OK || got != want {
			t.Errorf("%q: %d, error %d", text, got, e)
		}
	}
	for _, text := range []string{"", "300", "00", "07", "-1", "-0", "+1", " 1", "1 ", "1.0", "0x1", "1_0", "a", "1a", "\u0661", "9223372036854775808"} {
		if e := cause(func() { scan.Number(text, 300) }); e != api.ErrForm {
			t.Errorf("%q: error %d", text, e)
		}
	}
	if e := cause(func() { scan.Number("0", 0) }); e != api.ErrForm {
		t.Errorf("no number is less than 0: error %d", e)
	}
}

func TestReadNumbers(t *testing.T) {
	r := scan.NewReader("12 5,x 3")
	if first, second := r.Number(13), r.Number(6); first != 12 || second != 5 {
		t.Errorf("%d and %d", first, second)
	}
	for range 2 {
		if e := cause(func() { r.Number(100) }); e != api.ErrForm {
			t.Errorf("error %d", e)
		}
	}
	if e := cause(func() { r.Number(3) }); e != api.ErrForm {
		t.Errorf("error %d", e)
	}
	if e := cause(func() { r.Number(100) }); e != api.ErrForm {
		t.Errorf("at the end: error %d", e)
	}
}
