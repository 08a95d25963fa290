package work_test

import (
	"boskage/work"
	"slices"
	"testing"
)

func TestItemsAreHandledOnce(t *testing.T) {
	var l work.List[int]
	var handled []int
	l.Add(12)
	l.Add(5)
	l.Add(12)
	for item := range l.All() {
		handled = append(handled, item)
		l.Add(item / 2)
		l.Add(12)
	}
	if !slices.Equal(handled, []int{12, 5, 6, 2, 3, 1, 0}) {
		t.Errorf("%v", handled)
	}
}

func TestRestRemains(t *testing.T) {
	var l work.List[string]
	for range l.All() {
		t.Error("the list is empty")
	}
	for _, item := range []string{"a", "b", "a", "c"} {
		l.Add(item)
	}
	for range l.All() {
		break
	}
	if rest := slices.Collect(l.All()); !slices.Equal(rest, []string{"b", "c"}) {
		t.Errorf("%v", rest)
	}
}
