// Package bits: numbers as bits, the greatest bit first; see doc/01-bits.md.
package bits

import "rainbook/api"

// Put answers l, and behind it n in width bits.
func Put(l []bool, n, width int) ([]bool, api.Errno) {
	if !widthFits(width) || !numberFits(n, width) {
		return nil, api.ErrRange
	}
	out := make([]bool, len(l)+width)
	// Not append: it could write into the spare room behind l.
	copy(out, l)
	for i := range width {
		out[len(l)+i] = n>>(width-1-i)&1 == 1
	}
	return out, api.OK
}

// Take answers the number of the first width bits of l, and the bits behind them.
func Take(l []bool, width int) (int, []bool, api.Errno) {
	if !widthFits(width) {
		return 0, nil, api.ErrRange
	}
	if len(l) < width {
		return 0, nil, api.ErrTorn
	}
	n := 0
	for _, bit := range l[:width] {
		n <<= 1
		if bit {
			n |= 1
		}
	}
	// Not a piece of l: an answer shares no memory with what was handed in.
	rest := make([]bool, len(l)-width)
	copy(rest, l[width:])
	return n, rest, api.OK
}

func widthFits(width int) bool { return width >= 0 && width <= api.MaxWidth }

// numberFits asks by a shift of n, since one of 1 could overflow where an int is short; width must fit.
func numberFits(n, width int) bool { return n >= 0 && n>>width == 0 }
