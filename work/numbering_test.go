package work_test

import (
	"boskage/work"
	"slices"
	"testing"
)

func TestKeysAreNumbered(t *testing.T) {
	var n work.Numbering[string]
	if n.Len() != 0 {
		t.Errorf("%d keys", n.Len())
	}
	for i, key := range []string{"b", "a", "b", "c", "a"} {
		if got := n.Of(key); got != []int{0, 1, 0, 2, 1}[i] {
			t.Errorf("%s has the number %d", key, got)
		}
	}
	if n.Len() != 3 || n.Key(0) != "b" || n.Key(2) != "c" {
		t.Errorf("%d keys, %s, %s", n.Len(), n.Key(0), n.Key(2))
	}
}

func TestKeysFoundMeanwhile(t *testing.T) {
	var n work.Numbering[int]
	n.Of(12)
	var keys []int
	for number, key := range n.All() {
		if number != len(keys) {
			t.Errorf("%d has the number %d", key, number)
		}
		keys = append(keys, key)
		n.Of(key / 2)
		n.Of(12)
	}
	if !slices.Equal(keys, []int{12, 6, 3, 1, 0}) {
		t.Errorf("%v", keys)
	}
	for range n.All() {
		break
	}
}
