package reckon

import "wattle/field"

// A word here has the bits of eight bytes of a piece as eight planes side by
// side: bit b of byte k is the word's bit 8 b + k. Behind a piece's end the
// word has bits 0, whose products are 0 too.

func sumsByPlanes(rows [][]byte, pieces [][]byte) [][]byte {
	words := make([][]uint64, len(pieces))
	for j, piece := range pieces {
		words[j] = toPlanes(piece)
	}
	sums := make([][]byte, len(rows))
	for i, row := range rows {
		sums[i] = fromPlanes(sumOfWords(row, words), len(pieces[0]))
	}
	return sums
}

func sumOfWords(row []byte, words [][]uint64) []uint64 {
	sum := make([]uint64, len(words[0]))
	for j, piece := range words {
		moves := planeMoves(row[j])
		for k, word := range piece {
			sum[k] ^= movePlanes(moves, word)
		}
	}
	return sum
}

// planeMoves has at b a word with the lowest bit of each plane to which a
// product by the factor adds plane b.
func planeMoves(factor byte) [8]uint64 {
	var moves [8]uint64
	for b, column := range field.Columns(factor) {
		for to := range 8 {
			moves[b] |= uint64(column>>to&1) << (8 * to)
		}
	}
	return moves
}

// movePlanes multiplies eight bytes at once. The product of a move and a
// plane is that plane's copies: a plane is below 256, so none runs into the
// next.
func movePlanes(moves [8]uint64, word uint64) uint64 {
	var sum uint64
	for b := range 8 {
		plane := word >> (8 * b) & 255
		sum ^= moves[b] * plane
	}
	return sum
}

func toPlanes(piece []byte) []uint64 {
	words := make([]uint64, (len(piece)+7)/8)
	for k, value := range piece {
		for b := range 8 {
			words[k/8] |= uint64(value>>b&1) << (8*b + k%8)
		}
	}
	return words
}

func fromPlanes(words []uint64, length int) []byte {
	piece := make([]byte, length)
	for k := range length {
		for b := range 8 {
			piece[k] |= byte(words[k/8]>>(8*b+k%8)&1) << b
		}
	}
	return piece
}
