package reckon

import (
	"wattle/api"
	"wattle/plans"
)

// block is how many places of the pieces a plan is run on at once: a slot is a
// word with a bit for each of them.
const block = 64

func sumsByPlan(rows [][]byte, pieces [][]byte) [][]byte {
	steps := plans.Steps(rows, len(pieces))
	length := len(pieces[0])
	sums := make([][]byte, len(rows))
	for i := range sums {
		sums[i] = make([]byte, length)
	}
	for start := 0; start < length; start += block {
		end := min(start+block, length)
		var slots [api.MaxSlots]uint64
		for j, piece := range pieces {
			fillSlots(slots[8*j:8*j+8], piece[start:end])
		}
		runSteps(steps, slots[:])
		for i, sum := range sums {
			first := 8 * (len(pieces) + i)
			readSlots(slots[first:first+8], sum[start:end])
		}
	}
	return sums
}

func runSteps(steps []api.Step, slots []uint64) {
	for _, step := range steps {
		if step.Fresh {
			slots[step.To] = slots[step.From]
		} else {
			slots[step.To] ^= slots[step.From]
		}
	}
}

func fillSlots(slots []uint64, part []byte) {
	for k, value := range part {
		for b := range 8 {
			slots[b] |= uint64(value>>b&1) << k
		}
	}
}

func readSlots(slots []uint64, part []byte) {
	for k := range part {
		for b := range 8 {
			part[k] |= byte(slots[b]>>k&1) << b
		}
	}
}
