package parts

import (
	"bytes"
	"slices"

	"wattle/reckon"
	"wattle/solve"
)

// Gather works out a text of that size, and all its pieces, of those that are
// left. What is handed in goes together, and no more than the spare ones are
// lost.
func Gather(data, spare, way, size int, pieces []string, lost []int) (string, []string) {
	cut := rebuild(data, spare, way, pieces, lost)
	text := bytes.Join(cut, nil)[:size]
	return string(text), whole(spare, way, cut)
}

// rebuild answers the data pieces: those that are left as they are, the lost
// ones made of the pieces that are taken.
func rebuild(data, spare, way int, pieces []string, lost []int) [][]byte {
	taken := firstLeft(data, lost)
	left := make([][]byte, data)
	for n, p := range taken {
		left[n] = []byte(pieces[p])
	}
	made := reckon.Sums(way, wayBack(data, spare, taken, lost), left)
	cut := make([][]byte, data)
	for j := range cut {
		// Both lists rise, and left begins with the data pieces.
		if slices.Contains(lost, j) {
			cut[j], made = made[0], made[1:]
		} else {
			cut[j], left = left[0], left[1:]
		}
	}
	return cut
}

// firstLeft are the least numbers that are not lost, rising.
func firstLeft(count int, lost []int) []int {
	numbers := make([]int, 0, count)
	for p := 0; len(numbers) < count; p++ {
		if !slices.Contains(lost, p) {
			numbers = append(numbers, p)
		}
	}
	return numbers
}

// wayBack has a row for each lost data piece, with a factor for each of the
// pieces that are taken.
func wayBack(data, spare int, taken, lost []int) [][]byte {
	var rows [][]byte
	for j, row := range solve.Inverse(madeBy(data, spare, taken)) {
		if slices.Contains(lost, j) {
			rows = append(rows, row)
		}
	}
	return rows
}

// madeBy has for each of these pieces the factors by which the data pieces
// make it. Any such rows, as many as data pieces, can be undone: each factor
// is the inverse of a spare piece's number plus a data piece's, which makes a
// Cauchy matrix, and a square cut out of one always has an inverse.
func madeBy(data, spare int, numbers []int) [][]byte {
	factors := Factors(data, spare)
	rows := make([][]byte, len(numbers))
	for n, p := range numbers {
		if p < data {
			rows[n] = make([]byte, data)
			rows[n][p] = 1
		} else {
			rows[n] = factors[p-data]
		}
	}
	return rows
}
