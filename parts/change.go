package parts

import "wattle/field"

// Change writes a text over a part of the one that the pieces have, from a
// place on; it ends within them.
func Change(data, spare int, pieces []string, at int, text string) []string {
	changed := make([][]byte, len(pieces))
	for p, piece := range pieces {
		changed[p] = []byte(piece)
	}
	factors := Factors(data, spare)
	length := len(pieces[0])
	for k := range len(text) {
		j, place := (at+k)/length, (at+k)%length
		added := changed[j][place] ^ text[k]
		changed[j][place] ^= added
		for i, row := range factors {
			changed[data+i][place] ^= field.Mul(row[j], added)
		}
	}
	return asTexts(changed)
}
