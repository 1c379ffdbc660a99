package wattle

import (
	"math"
	"strings"
	"testing"

	"wattle/api"
)

func checkEdit(t *testing.T, pack string, way, at int, text, want string) {
	t.Helper()
	if got, e := Edit(pack, way, at, text); got != want || e != api.OK {
		t.Fatalf("P11: Edit(%q, %d, %d, %q) = %q, %d, want %q", pack, way, at, text, got, e, want)
	}
}

func checkNoEdit(t *testing.T, pack string, way, at int, text string, want api.Errno) {
	t.Helper()
	if got, e := Edit(pack, way, at, text); got != "" || e != want {
		t.Fatalf("P11: Edit(%.50q, %d, %d, %d bytes) = %q, %d, want nothing, %d", pack, way, at, len(text), got, e, want)
	}
}

func TestEditByExample(t *testing.T) {
	for _, way := range allWays {
		checkEdit(t, packOf(2, 1, "\x01\x01"), way, 1, "\x00", plainPack(2, 1, 2, []string{"\x01", "\x00", "\x8e"}))
		checkEdit(t, packOf(1, 1, ""), way, 0, "", packOf(1, 1, ""))
		checkEdit(t, packOf(3, 0, "abcdefg"), way, 2, "XYZ", packOf(3, 0, "abXYZfg"))
		checkEdit(t, packOf(10, 6, "a"), way, 0, "b", packOf(10, 6, "b"))
		checkEdit(t, packOf(10, 6, "a"), way, 1, "", packOf(10, 6, "a"))
	}
}

// Edits one behind the other, of packs that are whole and of spoilt ones, come
// to the pack of the edited text (P12).
func TestEditAgainAndAgain(t *testing.T) {
	for _, c := range [][3]int{{1, 0, 7}, {1, 6, 20}, {2, 1, 9}, {3, 3, 31}, {7, 2, 40}, {10, 0, 95}, {10, 6, 95}, {10, 6, api.MaxText}, {3, 6, api.MaxText - 1}} {
		d, s, n := c[0], c[1], c[2]
		text := []byte(someText(d, n))
		pack := packOf(d, s, string(text))
		lists := losses(d+s, s)
		for round := range 30 {
			at := round * 37 % (n + 1)
			over := someText(round, min(n-at, round*round%(n+1)))
			copy(text[at:], over)
			want := packOf(d, s, string(text))
			bad := lists[round*101%len(lists)]
			checkEdit(t, pack, (round+1)%3, at, over, want)
			checkEdit(t, spoilFrames(d, n, pack, bad, round), round%3, at, over, want)
			pack = want
		}
	}
}

func TestEditOfAllCounts(t *testing.T) {
	for d := 1; d <= api.MaxData; d++ {
		for s := 0; s <= api.MaxSpare; s++ {
			n := 2*d + 1
			text := someText(d+s, n)
			pack := packOf(d, s, text)
			lists := losses(d+s, s)
			for at := range n + 1 {
				over := someText(at, min(3, n-at))
				want := packOf(d, s, text[:at]+over+text[at+len(over):])
				for _, way := range allWays {
					bad := lists[(at*61+way)%len(lists)]
					checkEdit(t, spoilFrames(d, n, pack, bad, at), way, at, over, want)
				}
			}
		}
	}
}

// Pieces that nobody made: it is as Change says of what Gather answers, the
// bytes behind the text's end with it.
func TestEditOfPiecesThatNobodyMade(t *testing.T) {
	for _, c := range [][3]int{{1, 1, 3}, {2, 1, 5}, {3, 2, 7}, {5, 0, 11}, {10, 2, 31}, {4, 3, 1}} {
		d, s, n := c[0], c[1], c[2]
		pieces := somePieces(10*d+s, d+s, plainLength(d, n))
		pack := plainPack(d, s, n, pieces)
		for k, bad := range someOf(losses(d+s, s)) {
			_, all, _ := Gather(d, s, api.Tables, n, pieces, bad)
			at := k % (n + 1)
			over := someText(k, (n-at+1)/2)
			want := plainPack(d, s, n, plainChange(d, s, n, all, at, over))
			checkEdit(t, spoilFrames(d, n, pack, bad, k), k%3, at, over, want)
		}
	}
}

func TestEditRefusesRanges(t *testing.T) {
	for _, c := range [][3]int{{1, 0, 0}, {2, 1, 3}, {3, 0, 7}, {10, 6, 95}, {10, 6, api.MaxText}} {
		d, s, n := c[0], c[1], c[2]
		pack := packOf(d, s, someText(n, n))
		for _, at := range []int{-1, -n - 1, n + 1, n + 2, 1 << 16, math.MaxInt, math.MaxInt - 1, math.MinInt, math.MinInt + 1} {
			checkNoEdit(t, pack, 0, at, "", api.ErrRange)
			checkNoEdit(t, pack, 1, at, "x", api.ErrRange)
			checkNoEdit(t, pack, 0, at, strings.Repeat("x", n), api.ErrRange)
		}
		for at := range n + 1 {
			fits := strings.Repeat("x", n-at)
			checkNoEdit(t, pack, at%2, at, fits+"x", api.ErrRange)
		}
		checkNoEdit(t, pack, 2, 0, strings.Repeat("x", 1<<20), api.ErrRange)
		checkEdit(t, pack, 0, 0, strings.Repeat("x", n), packOf(d, s, strings.Repeat("x", n)))
		checkEdit(t, pack, 0, n, "", pack)
	}
}

// The place comes last: behind the way and the bad pieces; but a pack that
// heals has it asked all the same.
func TestEditRefusesInOrder(t *testing.T) {
	pack := packOf(2, 1, "text")
	one := spoilFrames(2, 4, pack, []int{1}, 3)
	two := spoilFrames(2, 4, pack, []int{0, 2}, 3)
	for _, at := range []int{-1, 5, math.MaxInt, math.MinInt} {
		checkNoEdit(t, pack, 3, at, "x", api.ErrWay)
		checkNoEdit(t, two, -1, at, "x", api.ErrWay)
		checkNoEdit(t, two, 2, at, "x", api.ErrFew)
		checkNoEdit(t, one, 2, at, "x", api.ErrRange)
		checkNoEdit(t, pack+"x", 3, at, "x", api.ErrCut)
		checkNoEdit(t, "x"+pack, 3, at, "x", api.ErrHead)
	}
}
