// Package parts: texts in data pieces and the spare pieces made of them.
package parts

import (
	"slices"

	"wattle/field"
	"wattle/reckon"
)

// Spread cuts a text in data pieces, and makes spare ones; the counts, the way
// and the text's length are such as may be.
func Spread(data, spare, way int, text string) []string {
	return whole(spare, way, Cut(data, text))
}

// Length is how many bytes each piece of a text of that size has.
func Length(data, size int) int {
	return (size + data - 1) / data
}

// Cut makes the data pieces of a text, filled up with bytes 0.
func Cut(data int, text string) [][]byte {
	length := Length(data, len(text))
	cut := make([][]byte, data)
	for j := range cut {
		cut[j] = make([]byte, length)
		start := min(j*length, len(text))
		copy(cut[j], text[start:])
	}
	return cut
}

// Factors has a row for each spare piece, with a factor for each data piece.
func Factors(data, spare int) [][]byte {
	rows := make([][]byte, spare)
	for i := range rows {
		rows[i] = make([]byte, data)
		for j := range data {
			rows[i][j] = field.Inv(byte((data + i) ^ j))
		}
	}
	return rows
}

// whole are the data pieces and the spare ones that they make.
func whole(spare, way int, cut [][]byte) []string {
	made := reckon.Sums(way, Factors(len(cut), spare), cut)
	return asTexts(slices.Concat(cut, made))
}

func asTexts(pieces [][]byte) []string {
	texts := make([]string, len(pieces))
	for p, piece := range pieces {
		texts[p] = string(piece)
	}
	return texts
}
