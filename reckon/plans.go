package reckon

import (
	"wattle/api"
	"wattle/field"
)

// block is how many places of the pieces a plan is run on at once: a slot is a
// word with a bit for each of them.
const block = 64

func sumsByPlan(rows [][]byte, pieces [][]byte) [][]byte {
	steps := stepsOf(rows, len(pieces))
	length := len(pieces[0])
	sums := make([][]byte, len(rows))
	for i := range sums {
		sums[i] = make([]byte, length)
	}
	for start := 0; start < length; start += block {
		end := min(start+block, length)
		slots := make([]uint64, 8*(len(pieces)+len(rows)))
		for j, piece := range pieces {
			fillSlots(slots[8*j:8*j+8], piece[start:end])
		}
		runSteps(steps, slots)
		for i, sum := range sums {
			first := 8 * (len(pieces) + i)
			readSlots(slots[first:first+8], sum[start:end])
		}
	}
	return sums
}

// stepsOf is a plan that shares nothing: a step for each pair of a bit of a
// sum and a bit of a piece that turns it.
func stepsOf(rows [][]byte, count int) []api.Step {
	var steps []api.Step
	for i, row := range rows {
		columns := make([][8]byte, count)
		for j, factor := range row {
			columns[j] = field.Columns(factor)
		}
		for bit := range 8 {
			to := 8*(count+i) + bit
			for n, from := range turners(columns, bit) {
				steps = append(steps, api.Step{To: to, From: from, Fresh: n == 0})
			}
		}
	}
	return steps
}

// turners are the slots of the pieces that turn one bit of a sum.
func turners(columns [][8]byte, bit int) []int {
	var slots []int
	for j, column := range columns {
		for b := range 8 {
			if column[b]>>bit&1 == 1 {
				slots = append(slots, 8*j+b)
			}
		}
	}
	return slots
}

func runSteps(steps []api.Step, slots []uint64) {
	for _, step := range steps {
		if step.Fresh {
			slots[step.To] = slots[step.From]
		} else {
			slots[step.To] ^= slots[step.From]
		}
	}
}

func fillSlots(slots []uint64, part []byte) {
	for k, value := range part {
		for b := range 8 {
			slots[b] |= uint64(value>>b&1) << k
		}
	}
}

func readSlots(slots []uint64, part []byte) {
	for k := range part {
		for b := range 8 {
			part[k] |= byte(slots[b]>>k&1) << b
		}
	}
}
