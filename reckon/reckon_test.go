package reckon

import (
	"bytes"
	"slices"
	"testing"

	"wattle/api"
	"wattle/field"
)

// someBytes are bytes of all kinds, others for each seed.
func someBytes(seed, length int) []byte {
	out := make([]byte, length)
	state := uint32(seed)*2654435761 + 12345
	for k := range out {
		state = state*1664525 + 1013904223
		out[k] = byte(state >> 24)
	}
	return out
}

func plainSum(row []byte, pieces [][]byte) []byte {
	sum := make([]byte, len(pieces[0]))
	for j := range pieces {
		for k := range sum {
			sum[k] ^= field.Mul(row[j], pieces[j][k])
		}
	}
	return sum
}

func checkSums(t *testing.T, rows, pieces [][]byte) {
	t.Helper()
	for _, way := range []int{api.Tables, api.Planes, api.Plans} {
		sums := Sums(way, rows, pieces)
		if len(sums) != len(rows) {
			t.Fatalf("P4: way %d: %d sums of %d rows", way, len(sums), len(rows))
		}
		for i, row := range rows {
			if want := plainSum(row, pieces); !bytes.Equal(sums[i], want) {
				t.Errorf("P4: way %d: row %v of %v = %v, want %v", way, row, pieces, sums[i], want)
			}
		}
	}
}

func TestSumsOfManyShapes(t *testing.T) {
	for _, length := range []int{0, 1, 7, 8, 9, 63, 64, 65, 127, 128, 129, 400} {
		for count := 1; count <= api.MaxData; count++ {
			var pieces [][]byte
			for j := range count {
				pieces = append(pieces, someBytes(1000*length+j, length))
			}
			var rows [][]byte
			for i := range api.MaxSpare {
				rows = append(rows, someBytes(77*count+i, count))
			}
			checkSums(t, rows, pieces)
		}
	}
}

func TestSumsOfEachFactorAndByte(t *testing.T) {
	all := make([]byte, 256)
	for b := range all {
		all[b] = byte(b)
	}
	for first := 0; first < 256; first += api.MaxSpare {
		var rows [][]byte
		for factor := first; factor < min(first+api.MaxSpare, 256); factor++ {
			rows = append(rows, []byte{byte(factor)})
		}
		checkSums(t, rows, [][]byte{all})
	}
}

func TestSumsWithFactorsZero(t *testing.T) {
	pieces := [][]byte{{255, 1, 0}, {128, 255, 7}}
	checkSums(t, [][]byte{{0, 0}, {0, 1}, {1, 0}}, pieces)
	checkSums(t, nil, pieces)
}

func TestSumsLeaveThePiecesAlone(t *testing.T) {
	for way := range 3 {
		row, piece := []byte{3, 200}, someBytes(5, 70)
		other := slices.Clone(piece)
		Sums(way, [][]byte{row, row}, [][]byte{piece, other})
		if !bytes.Equal(piece, someBytes(5, 70)) || !bytes.Equal(other, piece) || !bytes.Equal(row, []byte{3, 200}) {
			t.Errorf("P2: way %d wrote into what it was given", way)
		}
	}
}
