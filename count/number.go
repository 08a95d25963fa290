package count

import (
	"boskage/api"
	"math/bits"
)

// number is a number of trees. All numbers above MaxCount are kept as many.
type number uint64

const many number = api.MaxCount + 1

func (x number) plus(y number) number {
	return min(x+y, many)
}

func (x number) times(y number) number {
	high, low := bits.Mul64(uint64(x), uint64(y))
	if high > 0 {
		return many
	}
	return min(number(low), many)
}

// result returns x, or ErrFull if it is above MaxCount.
func (x number) result() (int, api.Errno) {
	if x == many {
		return 0, api.ErrFull
	}
	return int(x), api.OK
}

// fold combines all numbers of a list with start, one after the other.
func fold(combine func(x, y number) number, start number, list []number) number {
	for _, x := range list {
		start = combine(start, x)
	}
	return start
}
