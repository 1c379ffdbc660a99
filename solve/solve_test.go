package solve

import (
	"bytes"
	"slices"
	"testing"

	"wattle/field"
)

// times multiplies two squares of rows.
func times(a, b [][]byte) [][]byte {
	out := make([][]byte, len(a))
	for i := range a {
		out[i] = make([]byte, len(a))
		for j := range a {
			for k := range a {
				out[i][j] ^= field.Mul(a[i][k], b[k][j])
			}
		}
	}
	return out
}

func checkInverse(t *testing.T, rows [][]byte) {
	t.Helper()
	was := slices.Concat(rows...)
	back := Inverse(rows)
	if !bytes.Equal(slices.Concat(rows...), was) {
		t.Fatalf("P2: Inverse wrote into its rows: %v, were %v", rows, was)
	}
	if len(back) != len(rows) {
		t.Fatalf("P5: the inverse of %v is %v", rows, back)
	}
	for i, row := range times(back, rows) {
		for j, v := range row {
			if (i == j) != (v == 1) || v > 1 {
				t.Fatalf("P5: the inverse of %v is %v", rows, back)
			}
		}
	}
}

func TestInverseOfSmallRows(t *testing.T) {
	checkInverse(t, nil)
	checkInverse(t, [][]byte{{1}})
	checkInverse(t, [][]byte{{2}})
	checkInverse(t, [][]byte{{255}})
	checkInverse(t, [][]byte{{1, 0}, {0, 1}})
	checkInverse(t, [][]byte{{0, 1}, {1, 0}})
	checkInverse(t, [][]byte{{0, 1}, {142, 244}})
	checkInverse(t, [][]byte{{1, 1, 0}, {1, 1, 1}, {0, 1, 1}})
	checkInverse(t, [][]byte{{0, 0, 3}, {0, 2, 7}, {9, 1, 1}})
}

// Products of rows that are 0 below, and of such as are 0 above: these have an
// inverse, whatever else they have.
func TestInverseOfManyRows(t *testing.T) {
	state := uint32(1)
	some := func() byte {
		state = state*1664525 + 1013904223
		return byte(state >> 24)
	}
	for count := 1; count <= 10; count++ {
		for range 20 {
			upper, lower := make([][]byte, count), make([][]byte, count)
			for i := range count {
				upper[i], lower[i] = make([]byte, count), make([]byte, count)
				for j := range count {
					switch {
					case i == j:
						upper[i][j], lower[i][j] = some()|1, some()|2
					case i < j:
						upper[i][j] = some()
					default:
						lower[i][j] = some()
					}
				}
			}
			checkInverse(t, times(upper, lower))
			slices.Reverse(upper)
			checkInverse(t, upper)
		}
	}
}
