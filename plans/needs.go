package plans

import (
	"slices"

	"wattle/field"
)

// needs are the slots of one piece, or helpers made of them, that the bits of
// the sums need: for each bit a list, rising, and for each pair of slots how
// many lists have both.
type needs struct {
	lists [][]int
	pairs map[[2]int]int
}

func needsOf(rows [][]byte, piece int) needs {
	n := needs{lists: make([][]int, 8*len(rows)), pairs: make(map[[2]int]int)}
	for i, row := range rows {
		columns := field.Columns(row[piece])
		for bit := range 8 {
			slots := turners(columns, bit, 8*piece)
			n.lists[8*i+bit] = slots
			n.count(slots, 1)
		}
	}
	return n
}

// turners are the slots, from the first one on, whose columns have the bit.
func turners(columns [8]byte, bit, first int) []int {
	var slots []int
	for b, column := range columns {
		if column>>bit&1 == 1 {
			slots = append(slots, first+b)
		}
	}
	return slots
}

func (n needs) count(slots []int, by int) {
	for k, second := range slots {
		for _, first := range slots[:k] {
			n.pairs[[2]int{first, second}] += by
		}
	}
}

// mostNeeded is the pair that most lists have, and how many do. Of pairs that
// are needed equally often it is the least one: the map's order is not to be
// seen.
func (n needs) mostNeeded() ([2]int, int) {
	var best [2]int
	most := 0
	for pair, times := range n.pairs {
		if times > most || times == most && slices.Compare(pair[:], best[:]) < 0 {
			best, most = pair, times
		}
	}
	return best, most
}

// replace puts the helper in the pair's place in each list that has both. It
// is the greatest slot so far, so the lists keep rising.
func (n needs) replace(pair [2]int, helper int) {
	for bit, slots := range n.lists {
		if !slices.Contains(slots, pair[0]) || !slices.Contains(slots, pair[1]) {
			continue
		}
		n.count(slots, -1)
		rest := slices.DeleteFunc(slots, func(slot int) bool {
			return slot == pair[0] || slot == pair[1]
		})
		n.lists[bit] = append(rest, helper)
		n.count(n.lists[bit], 1)
	}
}
