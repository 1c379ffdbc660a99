// Package reckon: sums of pieces times factors, in three ways that come to
// the same.
package reckon

import "wattle/api"

// Sums answers for each row of factors the sum of the pieces, each times its
// factor. There are from 1 to MaxData pieces, all of the same length, and at
// most MaxSpare rows, each with a factor for each piece.
func Sums(way int, rows [][]byte, pieces [][]byte) [][]byte {
	switch way {
	case api.Planes:
		return sumsByPlanes(rows, pieces)
	case api.Plans:
		return sumsByPlan(rows, pieces)
	default:
		return sumsByTables(rows, pieces)
	}
}
