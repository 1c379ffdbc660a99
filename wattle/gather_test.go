package wattle

import (
	"math"
	"slices"
	"strings"
	"testing"

	"wattle/api"
)

// noNumbers are numbers of no piece, however many there are.
var noNumbers = []int{-1, math.MinInt, math.MinInt + 1, 16, 17, 256, math.MaxInt}

// plainLength is how many bytes a piece has.
func plainLength(d, size int) int {
	length := 0
	for d*length < size {
		length++
	}
	return length
}

// somePieces are pieces that nobody made of a text, of the right length.
func somePieces(seed, count, length int) []string {
	var pieces []string
	for p := range count {
		pieces = append(pieces, someText(1000*seed+p, length))
	}
	return pieces
}

// losses are all lists of at most s numbers below count, rising.
func losses(count, s int) [][]int {
	var lists [][]int
	for set := range 1 << count {
		var lost []int
		for p := range count {
			if set>>p&1 == 1 {
				lost = append(lost, p)
			}
		}
		if len(lost) <= s {
			lists = append(lists, lost)
		}
	}
	return lists
}

// someOf thins out a long list to some hundreds, its first and last with them.
func someOf(lists [][]int) [][]int {
	step := 1 + len(lists)/300
	var some [][]int
	for k, list := range lists {
		if k%step == 0 || k == len(lists)-1 {
			some = append(some, list)
		}
	}
	return some
}

// spoil puts other things into the places of the lost pieces: longer ones,
// shorter ones, none.
func spoil(pieces []string, lost []int) []string {
	spoilt := slices.Clone(pieces)
	for k, p := range lost {
		spoilt[p] = [...]string{"", "\x00", "something else", spoilt[p] + "x", strings.Repeat("y", 1000)}[(k+p)%5]
	}
	return spoilt
}

// checkGather holds an answer against what P5 says of it, whatever the pieces
// are: those that are taken stand in it, its data pieces make all others, and
// the text is cut out of them. No other list of pieces is such.
func checkGather(t *testing.T, d, s, way, size int, pieces []string, lost []int) {
	t.Helper()
	text, all, e := Gather(d, s, way, size, pieces, lost)
	if e != api.OK || len(all) != d+s {
		t.Fatalf("P5: Gather(%d, %d, %d, %d, %q, %v) = %q, %q, %d", d, s, way, size, pieces, lost, text, all, e)
	}
	for p, taken := 0, 0; taken < d; p++ {
		if !slices.Contains(lost, p) {
			taken++
			if all[p] != pieces[p] {
				t.Fatalf("P5: Gather(%d, %d, %d, %d, %q, %v): piece %d is %q", d, s, way, size, pieces, lost, p, all[p])
			}
		}
	}
	joined := strings.Join(all[:d], "")
	if len(joined) != d*plainLength(d, size) || text != joined[:size] || !slices.Equal(all, plainSpread(d, s, joined)) {
		t.Fatalf("P5: Gather(%d, %d, %d, %d, %q, %v) = %q, %q, which do not go together", d, s, way, size, pieces, lost, text, all)
	}
}

// checkBack: a text and its pieces come back, with some of them lost.
func checkBack(t *testing.T, d, s, way int, text string, pieces []string, lost []int) {
	t.Helper()
	got, all, e := Gather(d, s, way, len(text), spoil(pieces, lost), lost)
	if got != text || !slices.Equal(all, pieces) || e != api.OK {
		t.Fatalf("P12: of %d and %d pieces in way %d, %v lost: %q, %q, %d, want %q, %q", d, s, way, lost, got, all, e, text, pieces)
	}
}

func TestGatherByExample(t *testing.T) {
	for _, c := range []struct {
		d, s, size int
		pieces     []string
		lost       []int
		text       string
		all        []string
	}{
		{1, 1, 2, []string{"??", "ab"}, []int{0}, "ab", []string{"ab", "ab"}},
		{1, 1, 2, []string{"ab", "??"}, []int{1}, "ab", []string{"ab", "ab"}},
		{1, 1, 2, []string{"ab", "cd"}, nil, "ab", []string{"ab", "ab"}},
		{1, 0, 0, []string{""}, nil, "", []string{""}},
		{2, 1, 2, []string{"\x01", "", "\x7a"}, []int{1}, "\x01\x01", []string{"\x01", "\x01", "\x7a"}},
		{2, 1, 2, []string{"long", "\x01", "\x7a"}, []int{0}, "\x01\x01", []string{"\x01", "\x01", "\x7a"}},
		{2, 1, 2, []string{"\x01", "\x01", "\x00"}, []int{}, "\x01\x01", []string{"\x01", "\x01", "\x7a"}},
		{1, 2, 1, []string{"", "x", "\x8e"}, []int{1, 0}, "\x01", []string{"\x01", "\x01", "\x8e"}},
		{2, 0, 3, []string{"ab", "cd"}, nil, "abc", []string{"ab", "cd"}},
		{4, 0, 5, []string{"ab", "cd", "ef", "gh"}, nil, "abcde", []string{"ab", "cd", "ef", "gh"}},
		{3, 1, 0, []string{"", "", "lost", ""}, []int{2}, "", []string{"", "", "", ""}},
	} {
		for _, way := range allWays {
			text, all, e := Gather(c.d, c.s, way, c.size, c.pieces, c.lost)
			if text != c.text || !slices.Equal(all, c.all) || e != api.OK {
				t.Errorf("P5: Gather(%d, %d, %d, %d, %q, %v) = %q, %q, %d, want %q, %q", c.d, c.s, way, c.size, c.pieces, c.lost, text, all, e, c.text, c.all)
			}
		}
	}
}

// What Spread made comes back, whatever is lost (P12).
func TestGatherOfAllLosses(t *testing.T) {
	text := someText(5, 13)
	for _, c := range [][2]int{{1, 6}, {3, 3}, {5, 2}} {
		d, s := c[0], c[1]
		want := plainSpread(d, s, text)
		for _, lost := range losses(d+s, s) {
			for _, way := range allWays {
				checkBack(t, d, s, way, text, want, lost)
			}
		}
	}
}

func TestGatherOfManyLosses(t *testing.T) {
	for d := 1; d <= api.MaxData; d++ {
		for s := 0; s <= api.MaxSpare; s++ {
			n := 3*d - d/2
			text := someText(10*d+s, n)
			want := plainSpread(d, s, text)
			for k, lost := range someOf(losses(d+s, s)) {
				way := allWays[k%3]
				checkBack(t, d, s, way, text, want, lost)
			}
		}
	}
}

func TestGatherOfManySizes(t *testing.T) {
	for d := 1; d <= api.MaxData; d++ {
		for _, s := range []int{0, 1, api.MaxSpare} {
			for _, n := range []int{0, 1, d - 1, d, d + 1, 8*d + 1, 39 * d, api.MaxText - 1, api.MaxText} {
				text := someText(d+n, n)
				want := plainSpread(d, s, text)
				lost := losses(d, s)
				for _, list := range [][]int{nil, lost[len(lost)-1]} {
					for _, way := range allWays {
						checkBack(t, d, s, way, text, want, list)
					}
				}
			}
		}
	}
}

// Pieces that contradict each other, and such as have bytes behind the text's
// end: those of the least numbers count.
func TestGatherOfPiecesThatNobodyMade(t *testing.T) {
	for _, c := range [][3]int{{1, 1, 3}, {1, 6, 9}, {2, 1, 5}, {3, 2, 7}, {4, 3, 9}, {5, 0, 11}, {6, 2, 64}, {10, 2, 31}, {7, 3, 0}, {10, 6, 1}} {
		d, s, size := c[0], c[1], c[2]
		pieces := somePieces(10*d+s, d+s, plainLength(d, size))
		for k, lost := range someOf(losses(d+s, s)) {
			checkGather(t, d, s, allWays[k%3], size, spoil(pieces, lost), lost)
			checkGather(t, d, s, allWays[(k+1)%3], size, spoil(pieces, lost), lost)
		}
	}
}

func TestGatherWhateverTheOrderOfLost(t *testing.T) {
	pieces := somePieces(3, 9, 4)
	for _, lost := range [][]int{{4, 0, 2}, {8, 7, 6, 5}, {3, 8, 1, 4}, {5}, {0, 1, 2, 3}, {3, 2, 1, 0}} {
		for _, way := range allWays {
			checkGather(t, 5, 4, way, 18, spoil(pieces, lost), lost)
		}
	}
}

func checkNoGather(t *testing.T, d, s, way, size int, pieces []string, lost []int, want api.Errno) {
	t.Helper()
	if text, all, e := Gather(d, s, way, size, pieces, lost); text != "" || len(all) != 0 || e != want {
		t.Errorf("P5: Gather(%d, %d, %d, %d, %q, %v) = %q, %q, %d, want nothing, %d", d, s, way, size, pieces, lost, text, all, e, want)
	}
}

// The errors ahead of the pieces: each row keeps to all that is named ahead of
// its error; once all that comes behind it is kept to, once nothing of it.
func TestGatherRefusesNumbers(t *testing.T) {
	good, bad := []string{"ab", "cd", "ef"}, []string{"a", "cd"}
	for _, d := range []int{0, -1, 11, 257, math.MaxInt, math.MinInt} {
		checkNoGather(t, d, 1, 0, 4, good, nil, api.ErrCount)
		checkNoGather(t, d, 7, 3, 401, bad, []int{-1}, api.ErrCount)
	}
	for _, s := range []int{-1, 7, 257, math.MaxInt, math.MinInt} {
		checkNoGather(t, 2, s, 0, 4, good, nil, api.ErrCount)
		checkNoGather(t, 2, s, -1, -1, bad, []int{0, 0}, api.ErrCount)
	}
	for _, way := range []int{-1, 3, 256, math.MaxInt, math.MinInt} {
		checkNoGather(t, 2, 1, way, 4, good, nil, api.ErrWay)
		checkNoGather(t, 2, 1, way, 401, bad, []int{7}, api.ErrWay)
	}
	for _, size := range []int{-1, 401, 65540, math.MaxInt, math.MinInt} {
		for _, way := range allWays {
			checkNoGather(t, 2, 1, way, size, good, nil, api.ErrLong)
			checkNoGather(t, 2, 1, way, size, bad, []int{0, 1, 2}, api.ErrLong)
		}
	}
}

func TestGatherRefusesShapes(t *testing.T) {
	good := []string{"ab", "cd", "ef", "gh"}
	for _, pieces := range [][]string{nil, {}, good[:1], good[:3], {"ab", "cd", "ef", "gh", "ij"}, {"ab", "cd", "ef", "gh", ""}} {
		checkNoGather(t, 2, 2, 0, 4, pieces, nil, api.ErrShape)
		checkNoGather(t, 2, 2, 0, 4, pieces, []int{0, 1, 2}, api.ErrShape)
	}
	for _, number := range append([]int{4, 5}, noNumbers...) {
		checkNoGather(t, 2, 2, 0, 4, good, []int{number}, api.ErrShape)
		checkNoGather(t, 2, 2, 0, 4, good, []int{0, 1, number}, api.ErrShape)
		checkNoGather(t, 2, 2, 0, 4, good, []int{0, 1, 2, 3, number}, api.ErrShape)
	}
	for p := range 4 {
		checkNoGather(t, 2, 2, 0, 4, good, []int{p, p}, api.ErrShape)
		checkNoGather(t, 2, 2, 0, 4, good, []int{p, (p + 1) % 4, p}, api.ErrShape)
		checkNoGather(t, 2, 2, 0, 4, good, []int{0, 1, 2, 3, p}, api.ErrShape)
		for _, piece := range []string{"", "a", "abc", strings.Repeat("a", 258)} {
			pieces := slices.Clone(good)
			pieces[p] = piece
			other, third := (p+1)%4, (p+2)%4
			checkNoGather(t, 2, 2, 0, 4, pieces, nil, api.ErrShape)
			checkNoGather(t, 2, 2, 0, 4, pieces, []int{other}, api.ErrShape)
			checkNoGather(t, 2, 2, 0, 4, pieces, []int{other, third, (p + 3) % 4}, api.ErrShape)
			checkGather(t, 2, 2, 0, 4, pieces, []int{p})
		}
	}
	for _, size := range []int{0, 1, 2, 5, 6, 400} {
		checkNoGather(t, 2, 2, 0, size, good, []int{0}, api.ErrShape)
	}
	checkNoGather(t, 10, 6, 0, 0, make([]string, 15), nil, api.ErrShape)
	checkNoGather(t, 10, 6, 0, 0, make([]string, 17), nil, api.ErrShape)
	checkNoGather(t, 10, 6, 0, 0, make([]string, 16), make([]int, 1<<20), api.ErrShape)
	checkNoGather(t, 1, 0, 0, 0, nil, nil, api.ErrShape)
}

func TestGatherRefusesOneLossTooMany(t *testing.T) {
	for d := 1; d <= api.MaxData; d++ {
		for s := 0; s <= api.MaxSpare; s++ {
			pieces := somePieces(d, d+s, 2)
			var first, last []int
			for k := range s + 1 {
				first, last = append(first, k), append(last, d+s-1-k)
			}
			for _, way := range allWays {
				checkNoGather(t, d, s, way, 2*d, pieces, first, api.ErrFew)
				checkNoGather(t, d, s, way, 2*d, pieces, last, api.ErrFew)
				checkGather(t, d, s, way, 2*d, pieces, first[1:])
				checkGather(t, d, s, way, 2*d, pieces, last[1:])
			}
		}
	}
	checkNoGather(t, 2, 2, 0, 5, []string{"", "a", "abc", ""}, []int{3, 2, 1, 0}, api.ErrFew)
}

func TestGatherLeavesTheListsAlone(t *testing.T) {
	for _, way := range allWays {
		pieces := []string{"ab", "cd", "??", "gh", "room", "behind"}
		lost := []int{2, 0, 77, 78}
		was, gone := slices.Clone(pieces), slices.Clone(lost)
		checkGather(t, 2, 2, way, 3, pieces[:4], lost[:2])
		checkGather(t, 2, 2, way, 3, pieces[:4], lost[:0])
		checkNoGather(t, 2, 2, way, 9, pieces[:4], lost[:2], api.ErrShape)
		if !slices.Equal(pieces, was) || !slices.Equal(lost, gone) {
			t.Errorf("P2: Gather wrote into its lists: %q, %v", pieces, lost)
		}
	}
}

func TestGatherAnswersNewMemory(t *testing.T) {
	for _, way := range allWays {
		for _, lost := range [][]int{nil, {1}, {0, 3}} {
			pieces := plainSpread(2, 2, "abc")
			want := slices.Clone(pieces)
			_, all, _ := Gather(2, 2, way, 3, pieces, lost)
			_, again, _ := Gather(2, 2, way, 3, pieces, lost)
			overwrite(all)
			if !slices.Equal(again, want) || !slices.Equal(pieces, want) {
				t.Errorf("P2: way %d: writing into one answer changed another, or what was handed in: %q, %q, want %q", way, again, pieces, want)
			}
			checkGather(t, 2, 2, way, 3, pieces, lost)
		}
	}
}
