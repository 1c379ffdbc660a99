package wattle

import (
	"slices"
	"testing"

	"wattle/api"
)

// checkHeal: the text and the pack come back, with these frames spoilt.
func checkHeal(t *testing.T, way int, spoilt string, bad []int, text, pack string) {
	t.Helper()
	if got, e := Read(spoilt, way); got != text || e != api.OK {
		t.Fatalf("P10: Read(%q, %d) = %q, %d, want %q", spoilt, way, got, e, text)
	}
	if got, numbers, e := Heal(spoilt, way); got != pack || !slices.Equal(numbers, bad) || e != api.OK {
		t.Fatalf("P10: Heal(%q, %d) = %q, %v, %d, want %q, %v", spoilt, way, got, numbers, e, pack, bad)
	}
}

// checkNoHeal: neither Read nor Heal takes this pack, nor does Edit, whatever
// its place.
func checkNoHeal(t *testing.T, pack string, way int, want api.Errno) {
	t.Helper()
	if text, e := Read(pack, way); text != "" || e != want {
		t.Fatalf("P10: Read(%q, %d) = %q, %d, want nothing, %d", pack, way, text, e, want)
	}
	if healed, bad, e := Heal(pack, way); healed != "" || len(bad) != 0 || e != want {
		t.Fatalf("P10: Heal(%q, %d) = %q, %v, %d, want nothing, %d", pack, way, healed, bad, e, want)
	}
	for _, at := range []int{0, -1} {
		if edited, e := Edit(pack, way, at, ""); edited != "" || e != want {
			t.Fatalf("P11: Edit(%q, %d, %d) = %q, %d, want nothing, %d", pack, way, at, edited, e, want)
		}
	}
}

// Whatever frames are spoilt, wherever in them (P12).
func TestHealOfAllSpoiltFrames(t *testing.T) {
	for _, c := range [][3]int{{1, 6, 5}, {3, 3, 0}, {3, 3, 13}, {5, 2, 13}} {
		d, s, n := c[0], c[1], c[2]
		text := someText(n, n)
		pack := packOf(d, s, text)
		for seed, bad := range losses(d+s, s) {
			for _, way := range allWays {
				checkHeal(t, way, spoilFrames(d, n, pack, bad, seed+way), bad, text, pack)
			}
		}
	}
}

func TestHealOfAllCounts(t *testing.T) {
	for d := 1; d <= api.MaxData; d++ {
		for s := 0; s <= api.MaxSpare; s++ {
			n := 3*d - d/2
			text := someText(10*d+s, n)
			pack := packOf(d, s, text)
			lists := losses(d+s, s)
			step := 1 + len(lists)/40
			for k := 0; k < len(lists); k += step {
				bad := lists[len(lists)-1-k]
				for _, way := range allWays {
					checkHeal(t, way, spoilFrames(d, n, pack, bad, k), bad, text, pack)
				}
			}
		}
	}
}

func TestHealOfAllSizes(t *testing.T) {
	for n := range api.MaxText + 1 {
		d, s := 1+n%api.MaxData, n%(api.MaxSpare+1)
		text := someText(n, n)
		pack := packOf(d, s, text)
		lists := losses(d+s, s)
		bad := lists[n*31%len(lists)]
		for _, way := range allWays {
			checkHeal(t, way, pack, nil, text, pack)
			checkHeal(t, way, spoilFrames(d, n, pack, bad, n), bad, text, pack)
		}
	}
}

// Each place of a frame alone, and whole frames.
func TestHealOfEachPlace(t *testing.T) {
	text := "packs heal"
	pack := packOf(3, 1, text)
	for number := range 4 {
		f := frameOf(3, len(text), number)
		for at := f.from; at < f.to; at++ {
			for _, by := range []byte{1, 16, 128, 255} {
				checkHeal(t, at%3, turned(pack, at, by), []int{number}, text, pack)
			}
		}
		nothing := string(make([]byte, f.to-f.from))
		checkHeal(t, number%3, pack[:f.from]+nothing+pack[f.to:], []int{number}, text, pack)
	}
}

func TestHealRefusesOneTooMany(t *testing.T) {
	for d := 1; d <= api.MaxData; d++ {
		for s := 0; s <= api.MaxSpare; s++ {
			text := someText(d+s, 2*d)
			pack := packOf(d, s, text)
			var first, last, all []int
			for k := range d + s {
				if k <= s {
					first = append(first, k)
				}
				if k >= d-1 {
					last = append(last, k)
				}
				all = append(all, k)
			}
			for _, way := range allWays {
				for seed, bad := range [][]int{first, last, all} {
					checkNoHeal(t, spoilFrames(d, 2*d, pack, bad, seed), way, api.ErrFew)
				}
				checkHeal(t, way, spoilFrames(d, 2*d, pack, first[1:], d), first[1:], text, pack)
				checkHeal(t, way, spoilFrames(d, 2*d, pack, last[1:], d), last[1:], text, pack)
			}
		}
	}
}

// The way comes ahead of the bad pieces, and behind the head and the length
// (checkNoPack asks that).
func TestHealRefusesWays(t *testing.T) {
	pack := packOf(2, 1, "text")
	for _, way := range noWays {
		checkNoHeal(t, pack, way, api.ErrWay)
		checkNoHeal(t, spoilFrames(2, 4, pack, []int{1}, 3), way, api.ErrWay)
		checkNoHeal(t, spoilFrames(2, 4, pack, []int{0, 1, 2}, 3), way, api.ErrWay)
	}
}

// Pieces that contradict each other, or have bytes behind the text's end, with
// right checks: it is as Gather says.
func TestHealOfPiecesThatNobodyMade(t *testing.T) {
	for _, c := range [][3]int{{1, 1, 3}, {1, 6, 9}, {2, 1, 5}, {3, 2, 7}, {5, 0, 11}, {10, 2, 31}, {7, 3, 0}, {4, 3, 1}, {10, 6, 391}} {
		d, s, n := c[0], c[1], c[2]
		pieces := somePieces(10*d+s, d+s, plainLength(d, n))
		pack := plainPack(d, s, n, pieces)
		for k, bad := range someOf(losses(d+s, s)) {
			way := allWays[k%3]
			text, all, e := Gather(d, s, api.Tables, n, pieces, bad)
			if e != api.OK {
				t.Fatalf("P5: Gather(%d, %d, %d, .., %v): %d", d, s, n, bad, e)
			}
			checkHeal(t, way, spoilFrames(d, n, pack, bad, k), bad, text, plainPack(d, s, n, all))
		}
	}
}

func TestHealByExample(t *testing.T) {
	pack := plainPack(1, 1, 1, []string{"a", "b"})
	checkHeal(t, 0, pack, nil, "a", plainPack(1, 1, 1, []string{"a", "a"}))
	checkHeal(t, 1, turned(pack, 11, 1), []int{0}, "b", plainPack(1, 1, 1, []string{"b", "b"}))
	behind := plainPack(2, 1, 3, []string{"ab", "cd", "??"})
	all := plainSpread(2, 1, "abcd")
	checkHeal(t, 2, behind, nil, "abc", plainPack(2, 1, 3, all))
}

func TestHealAnswersTheSameAgain(t *testing.T) {
	text := "some text"
	pack := packOf(3, 4, text)
	for seed, bad := range losses(7, 4) {
		spoilt := spoilFrames(3, 9, pack, bad, seed)
		_, first, _ := Heal(spoilt, seed%3)
		_, second, _ := Heal(spoilt, seed%3)
		overwriteNumbers(first)
		if !slices.Equal(second, bad) {
			t.Errorf("P2: writing into one answer of Heal changed another: %v, want %v", second, bad)
		}
		checkHeal(t, seed%3, spoilt, bad, text, pack)
		checkHeal(t, (seed+1)%3, pack, nil, text, pack)
	}
}
