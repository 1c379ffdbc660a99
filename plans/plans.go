// Package plans: sums of pieces times factors, as steps of exclusive ors
// between slots of one bit.
package plans

import "wattle/api"

// worth is how many bits of sums have to need a pair for a helper to pay: its
// own two steps are made up for by one step less for each of them.
const worth = 3

// plan grows piece by piece. Its slots are those of the pieces, then those of
// the sums, then the helpers.
type plan struct {
	steps       []api.Step
	begun       []bool // which bits of the sums have had a step
	firstSum    int
	firstHelper int
}

// Steps is a plan for the sums that rows of factors ask for: each row has a
// factor for each of so many pieces, and makes the sum whose slots come next
// behind those of the pieces and of the rows ahead. There are at most MaxData
// pieces and MaxSpare rows.
func Steps(rows [][]byte, pieces int) []api.Step {
	p := plan{
		begun:       make([]bool, 8*len(rows)),
		firstSum:    8 * pieces,
		firstHelper: 8 * (pieces + len(rows)),
	}
	for j := range pieces {
		p.addPiece(needsOf(rows, j))
	}
	return p.steps
}

// addPiece shares pairs within one piece alone: there are few of them, so that
// a plan costs little, and every sum has some.
//
// The helpers of the piece ahead are done with and are taken again. They stay
// below MaxSlots: each takes away at least worth of the slots that are needed,
// which are no more than 8 for each of 8 MaxSpare bits.
func (p *plan) addPiece(n needs) {
	helper := p.firstHelper
	for {
		pair, times := n.mostNeeded()
		if times < worth {
			break
		}
		p.makeHelper(helper, pair)
		n.replace(pair, helper)
		helper++
	}
	for bit, slots := range n.lists {
		for _, from := range slots {
			p.addToSum(bit, from)
		}
	}
}

func (p *plan) makeHelper(helper int, pair [2]int) {
	p.steps = append(p.steps,
		api.Step{To: helper, From: pair[0], Fresh: true},
		api.Step{To: helper, From: pair[1]})
}

func (p *plan) addToSum(bit, from int) {
	p.steps = append(p.steps, api.Step{To: p.firstSum + bit, From: from, Fresh: !p.begun[bit]})
	p.begun[bit] = true
}
