package plans

import (
	"slices"
	"testing"

	"wattle/api"
	"wattle/field"
)

// someRows are rows of factors of all kinds, 0 among them, others for each
// seed.
func someRows(seed, count, pieces int) [][]byte {
	rows := make([][]byte, count)
	state := uint32(seed)*2654435761 + 12345
	for i := range rows {
		rows[i] = make([]byte, pieces)
		for j := range rows[i] {
			state = state*1664525 + 1013904223
			if state>>20&7 != 0 {
				rows[i][j] = byte(state >> 24)
			}
		}
	}
	return rows
}

// sources has for each slot of the sums which slots of the pieces turn it.
func sources(rows [][]byte, pieces int) [][8 * api.MaxData]bool {
	out := make([][8 * api.MaxData]bool, 8*len(rows))
	for i, row := range rows {
		for j := range pieces {
			for b := range 8 {
				for bit := range 8 {
					out[8*i+bit][8*j+b] = field.Mul(row[j], 1<<b)>>bit&1 == 1
				}
			}
		}
	}
	return out
}

// follow does the steps with the pieces' slots as unknowns: behind them each
// slot has a list of which of these it is the sum.
func follow(t *testing.T, steps []api.Step, pieces, sums int) [api.MaxSlots][8 * api.MaxData]bool {
	t.Helper()
	var slots [api.MaxSlots][8 * api.MaxData]bool
	var filled [api.MaxSlots]bool
	for slot := range 8 * pieces {
		slots[slot][slot] = true
		filled[slot] = true
	}
	for n, step := range steps {
		if step.To < 8*pieces || step.To >= api.MaxSlots || step.From < 0 || step.From >= api.MaxSlots {
			t.Fatalf("P7: step %d, %+v, is outside the slots", n, step)
		}
		if !filled[step.From] || !filled[step.To] && !step.Fresh || step.From == step.To {
			t.Fatalf("P7: step %d, %+v, asks a slot that is not filled, or itself", n, step)
		}
		if step.Fresh {
			if step.To < 8*(pieces+sums) && filled[step.To] {
				t.Fatalf("P7: step %d, %+v, begins a sum anew", n, step)
			}
			slots[step.To] = [8 * api.MaxData]bool{}
		}
		filled[step.To] = true
		for slot, has := range slots[step.From] {
			slots[step.To][slot] = slots[step.To][slot] != has
		}
	}
	return slots
}

func checkSteps(t *testing.T, rows [][]byte, pieces int) {
	t.Helper()
	steps := Steps(rows, pieces)
	slots := follow(t, steps, pieces, len(rows))
	pairs := 0
	for bit, want := range sources(rows, pieces) {
		if slots[8*pieces+bit] != want {
			t.Errorf("P7: rows %v: bit %d is the sum of the slots %v, want %v", rows, bit, slots[8*pieces+bit], want)
		}
		for _, turns := range want {
			if turns {
				pairs++
			}
		}
	}
	if len(steps) > pairs {
		t.Errorf("P7: rows %v: %d steps of %d pairs", rows, len(steps), pairs)
	}
}

func TestStepsOfManyRows(t *testing.T) {
	for pieces := 1; pieces <= api.MaxData; pieces++ {
		for count := range api.MaxSpare + 1 {
			for seed := range 10 {
				checkSteps(t, someRows(100*pieces+10*count+seed, count, pieces), pieces)
			}
		}
	}
}

func TestStepsOfEachFactor(t *testing.T) {
	for factor := range 256 {
		checkSteps(t, [][]byte{{byte(factor)}}, 1)
		checkSteps(t, [][]byte{{byte(factor)}, {byte(factor)}, {byte(factor)}}, 1)
		checkSteps(t, [][]byte{{0, byte(factor)}, {byte(factor), 0}}, 2)
	}
}

func TestStepsOfOnesAndZeros(t *testing.T) {
	if steps := Steps([][]byte{{0, 0}, {0, 0}}, 2); len(steps) != 0 {
		t.Errorf("P7: factors 0 make the steps %v", steps)
	}
	if steps := Steps(nil, 3); len(steps) != 0 {
		t.Errorf("P7: no rows make the steps %v", steps)
	}
	if steps := Steps([][]byte{{1}, {1}}, 1); len(steps) != 16 {
		t.Errorf("P7: two sums of one piece have %d steps", len(steps))
	}
}

// Pairs that are needed again and again are made once.
func TestStepsShareThePairs(t *testing.T) {
	rows := [][]byte{{3}, {3}, {3}, {3}}
	pairs := 0
	for _, turners := range sources(rows, 1) {
		for _, turns := range turners {
			if turns {
				pairs++
			}
		}
	}
	if steps := Steps(rows, 1); len(steps) >= pairs {
		t.Errorf("P7: %d steps of %d pairs, though four sums are the same", len(steps), pairs)
	}
}

// Of equal counts the least pair is the one, whatever the map's order.
func TestMostNeeded(t *testing.T) {
	for _, c := range []struct {
		lists [][]int
		pair  [2]int
		times int
	}{
		{nil, [2]int{}, 0},
		{[][]int{nil, {3}}, [2]int{}, 0},
		{[][]int{{2, 5}, {1, 7}, {1, 3}}, [2]int{1, 3}, 1},
		{[][]int{{2, 5}, {1, 7}, {1, 3}, {2, 4, 5}}, [2]int{2, 5}, 2},
		{[][]int{{0, 1, 2, 3}, {1, 2, 3}, {0, 2, 3}}, [2]int{2, 3}, 3},
		{[][]int{{4, 5, 6}, {4, 5, 6}}, [2]int{4, 5}, 2},
	} {
		n := needs{lists: c.lists, pairs: make(map[[2]int]int)}
		for _, slots := range c.lists {
			n.count(slots, 1)
		}
		for range 20 {
			if pair, times := n.mostNeeded(); pair != c.pair || times != c.times {
				t.Fatalf("P7: of %v the pair needed most is %v, %d times, want %v, %d times", c.lists, pair, times, c.pair, c.times)
			}
		}
	}
}

func TestReplace(t *testing.T) {
	n := needs{lists: [][]int{{0, 1, 2}, {1, 2}, {0, 1}, nil}, pairs: make(map[[2]int]int)}
	for _, slots := range n.lists {
		n.count(slots, 1)
	}
	n.replace([2]int{1, 2}, 9)
	want := [][]int{{0, 9}, {9}, {0, 1}, nil}
	if !slices.EqualFunc(n.lists, want, slices.Equal) {
		t.Errorf("P7: the lists are %v, want %v", n.lists, want)
	}
	for pair, times := range n.pairs {
		if wanted := pair == [2]int{0, 9} || pair == [2]int{0, 1}; wanted != (times == 1) || times > 1 {
			t.Errorf("P7: the pair %v is counted %d times", pair, times)
		}
	}
}
