package wattle

import (
	"math"
	"slices"
	"strings"
	"testing"

	"wattle/api"
)

// plainPairs counts the pairs of a bit of a spare byte and a bit of a data byte
// that turns it.
func plainPairs(d, s int) int {
	pairs := 0
	for _, row := range longFactors(d, s) {
		for _, factor := range row {
			for b := range 8 {
				product := longMul(factor, 1<<b)
				for bit := range 8 {
					pairs += product >> bit & 1
				}
			}
		}
	}
	return pairs
}

// checkSlots: each step takes and fills slots that it may.
func checkSlots(t *testing.T, d, s int, steps []api.Step) {
	t.Helper()
	var filled, given [api.MaxSlots]bool
	for slot := range 8 * d {
		filled[slot] = true
	}
	for n, step := range steps {
		switch {
		case step.To < 8*d || step.To >= api.MaxSlots:
			t.Fatalf("P7: Plan(%d, %d): step %d, %+v, fills a slot that it may not", d, s, n, step)
		case step.From < 0 || step.From >= api.MaxSlots || !filled[step.From]:
			t.Fatalf("P7: Plan(%d, %d): step %d, %+v, takes a slot that is not filled", d, s, n, step)
		case !given[step.To] && !step.Fresh:
			t.Fatalf("P7: Plan(%d, %d): step %d, %+v, is the first with its To, and not Fresh", d, s, n, step)
		}
		filled[step.To], given[step.To] = true, true
	}
}

// checkUse: no step is in vain.
func checkUse(t *testing.T, d, s int, steps []api.Step) {
	t.Helper()
	for n, step := range steps {
		if step.To < 8*(d+s) {
			continue
		}
		used := false
		for _, later := range steps[n+1:] {
			if later.From == step.To {
				used = true
				break
			}
			if later.To == step.To && later.Fresh {
				break
			}
		}
		if !used {
			t.Errorf("P7: Plan(%d, %d): step %d, %+v, is in vain", d, s, n, step)
		}
	}
}

func TestPlanIsAsItMustBe(t *testing.T) {
	for d := 1; d <= api.MaxData; d++ {
		for s := 0; s <= api.MaxSpare; s++ {
			steps, e := Plan(d, s)
			if e != api.OK {
				t.Fatalf("P7: Plan(%d, %d): %d", d, s, e)
			}
			if pairs := plainPairs(d, s); len(steps) > pairs {
				t.Errorf("P7: Plan(%d, %d) has %d steps, of %d pairs", d, s, len(steps), pairs)
			}
			if s == 0 && len(steps) != 0 {
				t.Errorf("P7: Plan(%d, 0) has %d steps", d, len(steps))
			}
			checkSlots(t, d, s, steps)
			checkUse(t, d, s, steps)
		}
	}
}

func TestPlanByExample(t *testing.T) {
	steps, e := Plan(1, 1)
	if len(steps) != 8 || e != api.OK {
		t.Fatalf("P7: Plan(1, 1) = %v, %d", steps, e)
	}
	for b := range 8 {
		if !slices.Contains(steps, api.Step{To: 8 + b, From: b, Fresh: true}) {
			t.Errorf("P7: Plan(1, 1) = %v has no step from slot %d to slot %d", steps, b, 8+b)
		}
	}
}

// dataBytes are lists of d data bytes of every kind: all 0, all 255, one byte
// 255, each bit alone, and many drawn ones.
func dataBytes(d int) []string {
	lists := []string{strings.Repeat("\x00", d), strings.Repeat("\xff", d)}
	for j := range d {
		one := make([]byte, d)
		one[j] = 255
		lists = append(lists, string(one))
		for b := range 8 {
			one[j] = 1 << b
			lists = append(lists, string(one))
		}
	}
	for seed := range 100 {
		lists = append(lists, someText(1000*d+seed, d))
	}
	return lists
}

// comesTo does a plan's steps bit by bit, and answers the spare bytes. What the
// other slots have at the start is not to count.
func comesTo(steps []api.Step, d, s int, data string, start int) string {
	var slots [api.MaxSlots]int
	for slot := range slots {
		slots[slot] = start
		if slot < 8*d {
			slots[slot] = int(data[slot/8]) >> (slot % 8) & 1
		}
	}
	for _, step := range steps {
		if step.Fresh {
			slots[step.To] = 0
		}
		slots[step.To] ^= slots[step.From]
	}
	out := make([]byte, s)
	for bit := range 8 * s {
		out[bit/8] |= byte(slots[8*d+bit] << (bit % 8))
	}
	return string(out)
}

// spareBytes answers for each list of d data bytes the spare bytes by their
// definition, all lists at once: each is one place of the pieces.
func spareBytes(d, s int, lists []string) []string {
	var text []byte
	for j := range d {
		for _, data := range lists {
			text = append(text, data[j])
		}
	}
	pieces := plainSpread(d, s, string(text))
	out := make([]string, len(lists))
	for k := range lists {
		for _, piece := range pieces[d:] {
			out[k] += piece[k : k+1]
		}
	}
	return out
}

func TestPlanComesToTheSpareBytes(t *testing.T) {
	for d := 1; d <= api.MaxData; d++ {
		lists := dataBytes(d)
		for s := 0; s <= api.MaxSpare; s++ {
			steps, _ := Plan(d, s)
			want := spareBytes(d, s, lists)
			for k, data := range lists {
				if got := comesTo(steps, d, s, data, k%2); got != want[k] {
					t.Fatalf("P7: Plan(%d, %d) of the bytes %q comes to %q, want %q", d, s, data, got, want[k])
				}
			}
		}
	}
}

func TestPlanRefuses(t *testing.T) {
	check := func(d, s int) {
		t.Helper()
		if steps, e := Plan(d, s); len(steps) != 0 || e != api.ErrCount {
			t.Errorf("P7: Plan(%d, %d) = %d steps, %d, want none, %d", d, s, len(steps), e, api.ErrCount)
		}
	}
	badData := []int{0, -1, api.MaxData + 1, 257, math.MaxInt, math.MinInt}
	badSpare := []int{-1, api.MaxSpare + 1, 256, math.MaxInt, math.MinInt}
	for _, d := range badData {
		for s := 0; s <= api.MaxSpare; s++ {
			check(d, s)
		}
		for _, s := range badSpare {
			check(d, s)
		}
	}
	for _, s := range badSpare {
		for d := 1; d <= api.MaxData; d++ {
			check(d, s)
		}
	}
}

func TestPlanAnswersTheSameAgain(t *testing.T) {
	for _, c := range [][2]int{{1, 1}, {1, 6}, {3, 2}, {10, 1}, {10, 6}} {
		first, _ := Plan(c[0], c[1])
		for range 30 {
			if again, e := Plan(c[0], c[1]); e != api.OK || !slices.Equal(first, again) {
				t.Fatalf("P2: Plan(%d, %d) answers another plan", c[0], c[1])
			}
		}
	}
}

func TestPlanAnswersNewMemory(t *testing.T) {
	for _, c := range [][2]int{{1, 0}, {1, 1}, {3, 2}, {10, 6}} {
		want, _ := Plan(c[0], c[1])
		want = slices.Clone(want)
		first, _ := Plan(c[0], c[1])
		second, _ := Plan(c[0], c[1])
		_ = append(first, api.Step{To: 1})
		room := first[:cap(first)]
		for k := range room {
			room[k] = api.Step{To: -1, From: -1}
		}
		third, _ := Plan(c[0], c[1])
		if !slices.Equal(second, want) || !slices.Equal(third, want) {
			t.Errorf("P2: writing into one answer of Plan(%d, %d) changed another", c[0], c[1])
		}
	}
}

// checkSameWays: with the way Plans pieces and texts come out as with the other
// two.
func checkSameWays(t *testing.T, d, s int, text string, lists [][]int) {
	t.Helper()
	want, _ := Spread(d, s, api.Tables, text)
	for _, way := range []int{api.Planes, api.Plans} {
		if got, e := Spread(d, s, way, text); e != api.OK || !slices.Equal(got, want) {
			t.Fatalf("P4: Spread(%d, %d, %d, %q) = %q, %d, want %q", d, s, way, text, got, e, want)
		}
	}
	for _, lost := range lists {
		for _, way := range allWays {
			checkBack(t, d, s, way, text, want, lost)
		}
	}
}

func TestPlansAsTheOtherWays(t *testing.T) {
	for d := 1; d <= api.MaxData; d++ {
		for s := 0; s <= api.MaxSpare; s++ {
			lists := losses(d+s, s)
			first, last := lists[len(lists)/3], lists[len(lists)-1]
			for _, n := range []int{0, 1, 3*d + 1, api.MaxText - d, api.MaxText} {
				checkSameWays(t, d, s, someText(7*d+s+n, n), [][]int{nil, first, last})
			}
		}
	}
}

func TestPlansAtAllSizes(t *testing.T) {
	for n := range api.MaxText + 1 {
		d, s := 1+n%api.MaxData, 1+n%api.MaxSpare
		checkSameWays(t, d, s, someText(n, n), [][]int{{n % (d + s)}})
	}
}
