package work

import "iter"

// Numbering numbers keys from 0, in the order in which they are found. The zero
// value has no keys.
type Numbering[K comparable] struct {
	keys    []K
	numbers map[K]int
}

// Of returns the number of a key, which is the next one if it has none.
func (n *Numbering[K]) Of(key K) int {
	number, known := n.numbers[key]
	if known {
		return number
	}
	if n.numbers == nil {
		n.numbers = map[K]int{}
	}
	number = len(n.keys)
	n.numbers[key] = number
	n.keys = append(n.keys, key)
	return number
}

// Key returns the key with a number.
func (n *Numbering[K]) Key(number int) K {
	return n.keys[number]
}

// Len returns how many keys have a number.
func (n *Numbering[K]) Len() int {
	return len(n.keys)
}

// All yields the keys with their numbers, and goes on with those that are found
// meanwhile.
func (n *Numbering[K]) All() iter.Seq2[int, K] {
	return func(yield func(int, K) bool) {
		for number := 0; number < len(n.keys); number++ {
			if !yield(number, n.keys[number]) {
				return
			}
		}
	}
}
