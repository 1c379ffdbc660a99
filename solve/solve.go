// Package solve: what was made by rows of factors, led back to what it was
// made of.
package solve

import (
	"slices"

	"wattle/field"
)

// Inverse answers the rows that undo these: what these make of some pieces,
// its rows make those pieces of. There are as many rows as each has factors,
// and none is a sum of multiples of the others.
func Inverse(rows [][]byte) [][]byte {
	wide := withUnits(rows)
	for c := range wide {
		bringUp(wide, c)
		scale(wide[c], field.Inv(wide[c][c]))
		for r := range wide {
			if r != c {
				addTimes(wide[r], wide[r][c], wide[c])
			}
		}
	}
	back := make([][]byte, len(rows))
	for r, row := range wide {
		back[r] = slices.Clone(row[len(rows):])
	}
	return back
}

// withUnits lengthens copies of the rows by the rows that change nothing:
// whatever is done to both halves alike turns these into the inverse.
func withUnits(rows [][]byte) [][]byte {
	wide := make([][]byte, len(rows))
	for r, row := range rows {
		wide[r] = make([]byte, 2*len(rows))
		copy(wide[r], row)
		wide[r][len(rows)+r] = 1
	}
	return wide
}

// bringUp swaps rows from c on so that row c is not 0 at c, as its inverse is
// asked for there.
func bringUp(rows [][]byte, c int) {
	for r := c; r < len(rows); r++ {
		if rows[r][c] != 0 {
			rows[c], rows[r] = rows[r], rows[c]
			return
		}
	}
}

func scale(row []byte, factor byte) {
	for k := range row {
		row[k] = field.Mul(row[k], factor)
	}
}

func addTimes(row []byte, factor byte, other []byte) {
	for k := range row {
		row[k] ^= field.Mul(factor, other[k])
	}
}
