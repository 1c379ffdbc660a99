package wattle

import (
	"math"
	"slices"
	"strings"
	"testing"

	"wattle/api"
)

// plainChange writes byte for byte by the definition.
func plainChange(d, s, size int, pieces []string, at int, text string) []string {
	length, factors := plainLength(d, size), longFactors(d, s)
	var out [][]byte
	for _, piece := range pieces {
		out = append(out, []byte(piece))
	}
	for j := range d {
		for k := range length {
			from := j*length + k - at
			if from < 0 || from >= len(text) {
				continue
			}
			added := int(pieces[j][k] ^ text[from])
			out[j][k] = text[from]
			for i := range s {
				out[d+i][k] ^= byte(longMul(factors[i][j], added))
			}
		}
	}
	var changed []string
	for _, piece := range out {
		changed = append(changed, string(piece))
	}
	return changed
}

func checkChange(t *testing.T, d, s, size int, pieces []string, at int, text string, want []string) {
	t.Helper()
	if got, e := Change(d, s, size, pieces, at, text); e != api.OK || !slices.Equal(got, want) {
		t.Fatalf("P6: Change(%d, %d, %d, %q, %d, %q) = %q, %d, want %q", d, s, size, pieces, at, text, got, e, want)
	}
}

func TestChangeByExample(t *testing.T) {
	three := []string{"\x01", "\x01", "\x7a"}
	checkChange(t, 2, 1, 2, three, 1, "\x00", []string{"\x01", "\x00", "\x8e"})
	checkChange(t, 2, 1, 2, three, 0, "\x00", []string{"\x00", "\x01", "\xf4"})
	checkChange(t, 2, 1, 2, three, 0, "\x00\x00", []string{"\x00", "\x00", "\x00"})
	checkChange(t, 2, 1, 2, three, 0, "\x01\x01", three)
	for at := range 3 {
		checkChange(t, 2, 1, 2, three, at, "", three)
	}
	checkChange(t, 2, 1, 2, []string{"\x01", "\x01", "\x00"}, 1, "\x00", []string{"\x01", "\x00", "\xf4"})
	checkChange(t, 2, 0, 3, []string{"ab", "cd"}, 1, "XY", []string{"aX", "Yd"})
	checkChange(t, 2, 0, 3, []string{"ab", "cd"}, 0, "XYZ", []string{"XY", "Zd"})
	checkChange(t, 1, 2, 3, []string{"abc", "abc", "..."}, 3, "", []string{"abc", "abc", "..."})
	checkChange(t, 1, 0, 0, []string{""}, 0, "", []string{""})
	checkChange(t, 10, 6, 0, make([]string, 16), 0, "", make([]string, 16))
}

// Pieces that no Spread answered: only what is added counts for the spare ones.
func TestChangeOfPiecesThatNobodyMade(t *testing.T) {
	for d := 1; d <= api.MaxData; d++ {
		for s := 0; s <= api.MaxSpare; s++ {
			for _, size := range []int{1, d, 3*d + 1, 3*d + d/2 + 1} {
				pieces := somePieces(100*d+10*s+size, d+s, plainLength(d, size))
				for at := 0; at <= size; at++ {
					for _, n := range []int{0, 1, 2, 5, size - at} {
						if at+n <= size {
							text := someText(at+n, n)
							checkChange(t, d, s, size, pieces, at, text, plainChange(d, s, size, pieces, at, text))
						}
					}
				}
			}
		}
	}
}

func TestChangeOfEachByte(t *testing.T) {
	pieces := somePieces(9, 4, 1)
	for b := range 256 {
		text := string([]byte{byte(b)})
		for at := range 2 {
			checkChange(t, 2, 2, 2, pieces, at, text, plainChange(2, 2, 2, pieces, at, text))
		}
	}
}

// What Change makes of what Spread answered is what Spread answers of the
// changed text (P12), also of many changes one behind the other.
func TestChangeOfSpreadTexts(t *testing.T) {
	for _, c := range [][3]int{{1, 6, 20}, {2, 1, 9}, {3, 3, 31}, {7, 2, 40}, {10, 6, 95}, {10, 6, api.MaxText}, {1, 1, api.MaxText}, {3, 6, api.MaxText - 1}} {
		d, s, size := c[0], c[1], c[2]
		text := []byte(someText(d, size))
		pieces, _ := Spread(d, s, api.Tables, string(text))
		for round := range 30 {
			at := round * 37 % (size + 1)
			over := someText(round, min(size-at, round*round%(size+1)))
			copy(text[at:], over)
			want := plainSpread(d, s, string(text))
			checkChange(t, d, s, size, pieces, at, over, want)
			pieces = want
		}
	}
}

func checkNoChange(t *testing.T, d, s, size int, pieces []string, at int, text string, want api.Errno) {
	t.Helper()
	if got, e := Change(d, s, size, pieces, at, text); len(got) != 0 || e != want {
		t.Errorf("P6: Change(%d, %d, %d, %q, %d, %d bytes) = %q, %d, want nothing, %d", d, s, size, pieces, at, len(text), got, e, want)
	}
}

// Each row keeps to all that is named ahead of its error; once all that comes
// behind it is kept to, once nothing of it.
func TestChangeRefusesNumbers(t *testing.T) {
	good, bad := []string{"ab", "cd", "ef"}, []string{"a", "cd"}
	for _, d := range []int{0, -1, 11, 257, math.MaxInt, math.MinInt} {
		checkNoChange(t, d, 1, 4, good, 0, "x", api.ErrCount)
		checkNoChange(t, d, 7, 401, bad, -1, "", api.ErrCount)
	}
	for _, s := range []int{-1, 7, 257, math.MaxInt, math.MinInt} {
		checkNoChange(t, 2, s, 4, good, 0, "x", api.ErrCount)
		checkNoChange(t, 2, s, -1, bad, 5, "", api.ErrCount)
	}
	for _, size := range []int{-1, 401, 65540, math.MaxInt, math.MinInt} {
		checkNoChange(t, 2, 1, size, good, 0, "", api.ErrLong)
		checkNoChange(t, 2, 1, size, bad, -1, "", api.ErrLong)
	}
}

func TestChangeRefusesShapes(t *testing.T) {
	good := []string{"ab", "cd", "ef", "gh"}
	for _, pieces := range [][]string{nil, {}, good[:3], {"ab", "cd", "ef", "gh", "ij"}, {"ab", "cd", "ef", "gh", ""}} {
		checkNoChange(t, 2, 2, 4, pieces, 0, "", api.ErrShape)
		checkNoChange(t, 2, 2, 4, pieces, -1, "", api.ErrShape)
	}
	for p := range 4 {
		for _, piece := range []string{"", "a", "abc", strings.Repeat("a", 258)} {
			pieces := slices.Clone(good)
			pieces[p] = piece
			checkNoChange(t, 2, 2, 4, pieces, 0, "", api.ErrShape)
			checkNoChange(t, 2, 2, 4, pieces, 5, "", api.ErrShape)
		}
	}
	for _, size := range []int{0, 1, 2, 5, 6, 400} {
		checkNoChange(t, 2, 2, size, good, 0, "", api.ErrShape)
		checkNoChange(t, 2, 2, size, good, -1, "", api.ErrShape)
	}
	checkNoChange(t, 1, 0, 0, nil, 0, "", api.ErrShape)
	checkNoChange(t, 10, 6, 0, make([]string, 15), 0, "", api.ErrShape)
	checkNoChange(t, 10, 6, 0, make([]string, 17), 0, "", api.ErrShape)
}

func TestChangeRefusesRanges(t *testing.T) {
	for _, c := range [][3]int{{1, 0, 0}, {2, 1, 3}, {3, 0, 7}, {10, 6, 395}, {10, 6, api.MaxText}} {
		d, s, size := c[0], c[1], c[2]
		pieces := somePieces(size, d+s, plainLength(d, size))
		for _, at := range []int{-1, -size - 1, size + 1, size + 2, d * plainLength(d, size+1), math.MaxInt, math.MaxInt - 1, math.MinInt, math.MinInt + 1} {
			checkNoChange(t, d, s, size, pieces, at, "", api.ErrRange)
			checkNoChange(t, d, s, size, pieces, at, "x", api.ErrRange)
			checkNoChange(t, d, s, size, pieces, at, strings.Repeat("x", size), api.ErrRange)
		}
		for at := range size + 1 {
			fits := strings.Repeat("x", size-at)
			checkNoChange(t, d, s, size, pieces, at, fits+"x", api.ErrRange)
			checkChange(t, d, s, size, pieces, at, fits, plainChange(d, s, size, pieces, at, fits))
		}
		checkNoChange(t, d, s, size, pieces, 0, strings.Repeat("x", 1<<20), api.ErrRange)
	}
}

func TestChangeLeavesTheListAlone(t *testing.T) {
	pieces := []string{"ab", "cd", "ef", "room", "behind"}
	was := slices.Clone(pieces)
	checkChange(t, 2, 1, 4, pieces[:3], 1, "xy", plainChange(2, 1, 4, was[:3], 1, "xy"))
	checkChange(t, 2, 1, 4, pieces[:3], 4, "", was[:3])
	checkNoChange(t, 2, 1, 4, pieces[:3], 3, "xy", api.ErrRange)
	if !slices.Equal(pieces, was) {
		t.Errorf("P2: Change wrote into its list: %q", pieces)
	}
}

func TestChangeAnswersNewMemory(t *testing.T) {
	for _, text := range []string{"", "x", "xyz"} {
		pieces := plainSpread(2, 2, "abc")
		was := slices.Clone(pieces)
		want := plainChange(2, 2, 3, pieces, 0, text)
		got, _ := Change(2, 2, 3, pieces, 0, text)
		again, _ := Change(2, 2, 3, pieces, 0, text)
		overwrite(got)
		if !slices.Equal(again, want) || !slices.Equal(pieces, was) {
			t.Errorf("P2: writing into one answer changed another, or what was handed in: %q, %q", again, pieces)
		}
		checkChange(t, 2, 2, 3, pieces, 0, text, want)
	}
}
