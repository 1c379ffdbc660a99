package reckon

import "wattle/field"

// products are a factor's products with all bytes, kept by the byte's lower
// and upper half: pieces are short, and a table of all 256 would cost more to
// make than it saves.
type products struct {
	low, high [16]byte
}

func productsOf(factor byte) products {
	var p products
	for i := range 16 {
		p.low[i] = field.Mul(factor, byte(i))
		p.high[i] = field.Mul(factor, byte(i<<4))
	}
	return p
}

func (p products) with(b byte) byte {
	return p.low[b&15] ^ p.high[b>>4]
}

func sumsByTables(rows [][]byte, pieces [][]byte) [][]byte {
	sums := make([][]byte, len(rows))
	for i, row := range rows {
		sums[i] = sumByTables(row, pieces)
	}
	return sums
}

func sumByTables(row []byte, pieces [][]byte) []byte {
	sum := make([]byte, len(pieces[0]))
	for j, piece := range pieces {
		table := productsOf(row[j])
		for k, b := range piece {
			sum[k] ^= table.with(b)
		}
	}
	return sum
}
