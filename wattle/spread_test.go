package wattle

import (
	"math"
	"slices"
	"strings"
	"testing"

	"wattle/api"
)

var allWays = []int{api.Tables, api.Planes, api.Plans}

// someText is a text with bytes of all kinds, another one for each seed.
func someText(seed, length int) string {
	out := make([]byte, length)
	state := uint32(seed)*2654435761 + 12345
	for k := range out {
		state = state*1664525 + 1013904223
		out[k] = byte(state >> 24)
	}
	return string(out)
}

func longInv(a int) int {
	for b := range 256 {
		if longMul(a, b) == 1 {
			return b
		}
	}
	return 0
}

// longFactors has at [i][j] the factor F(i, j).
func longFactors(d, s int) [][]int {
	rows := make([][]int, s)
	for i := range rows {
		for j := range d {
			rows[i] = append(rows[i], longInv((d+i)^j))
		}
	}
	return rows
}

// plainSpread reckons the pieces by the definition, place by place.
func plainSpread(d, s int, text string) []string {
	length := len(text) / d
	if len(text)%d != 0 {
		length++
	}
	at := func(j, k int) int {
		if j*length+k < len(text) {
			return int(text[j*length+k])
		}
		return 0
	}
	factors := longFactors(d, s)
	var out []string
	for p := range d + s {
		piece := make([]byte, length)
		for k := range length {
			sum := 0
			if p < d {
				sum = at(p, k)
			} else {
				for j := range d {
					sum ^= longMul(factors[p-d][j], at(j, k))
				}
			}
			piece[k] = byte(sum)
		}
		out = append(out, string(piece))
	}
	return out
}

func checkSpread(t *testing.T, d, s int, text string, want []string) {
	t.Helper()
	for _, way := range allWays {
		if got, e := Spread(d, s, way, text); e != api.OK || !slices.Equal(got, want) {
			t.Errorf("P4: Spread(%d, %d, %d, %q) = %q, %d, want %q", d, s, way, text, got, e, want)
		}
	}
}

func TestSpreadByExample(t *testing.T) {
	checkSpread(t, 1, 1, "ab", []string{"ab", "ab"})
	checkSpread(t, 2, 0, "abc", []string{"ab", "c\x00"})
	checkSpread(t, 3, 2, "", []string{"", "", "", "", ""})
	checkSpread(t, 2, 1, "\x01\x01", []string{"\x01", "\x01", "\x7a"})
	checkSpread(t, 1, 2, "\x01", []string{"\x01", "\x01", "\x8e"})
	checkSpread(t, 4, 0, "abcde", []string{"ab", "cd", "e\x00", "\x00\x00"})
}

func TestSpreadOfAllCounts(t *testing.T) {
	for d := 1; d <= api.MaxData; d++ {
		for s := 0; s <= api.MaxSpare; s++ {
			for _, n := range []int{0, 1, d - 1, d, d + 1, 8 * d, 8*d + 1, 37} {
				text := someText(100*d+10*s+n, n)
				checkSpread(t, d, s, text, plainSpread(d, s, text))
			}
		}
	}
}

func TestSpreadOfLongTexts(t *testing.T) {
	for d := 1; d <= api.MaxData; d++ {
		for _, n := range []int{64 * d, 64*d + 1, api.MaxText - 1, api.MaxText} {
			if n <= api.MaxText {
				text := someText(n, n)
				checkSpread(t, d, api.MaxSpare, text, plainSpread(d, api.MaxSpare, text))
			}
		}
	}
}

func TestSpreadOfOneBitTexts(t *testing.T) {
	for j := range api.MaxData {
		for b := range 8 {
			text := make([]byte, api.MaxData)
			text[j] = 1 << b
			checkSpread(t, api.MaxData, api.MaxSpare, string(text), plainSpread(api.MaxData, api.MaxSpare, string(text)))
		}
	}
}

// The errors, in the order that the document names them: each row keeps to all
// that is named ahead of its error, and breaks every later rule too.
func TestSpreadRefuses(t *testing.T) {
	long := strings.Repeat("x", api.MaxText+1)
	check := func(d, s, way int, text string, want api.Errno) {
		t.Helper()
		if got, e := Spread(d, s, way, text); len(got) != 0 || e != want {
			t.Errorf("P4: Spread(%d, %d, %d, %d bytes) = %q, %d, want no pieces, %d", d, s, way, len(text), got, e, want)
		}
	}
	ways := []int{-1, 3, 256, math.MaxInt, math.MinInt}
	for _, d := range []int{0, -1, 11, 257, math.MaxInt, math.MinInt} {
		check(d, 0, 0, "", api.ErrCount)
		check(d, 7, -1, long, api.ErrCount)
		check(d, 6, 3, "a", api.ErrCount)
	}
	for _, s := range []int{-1, 7, 256, math.MaxInt, math.MinInt} {
		check(1, s, 0, "", api.ErrCount)
		check(10, s, -1, long, api.ErrCount)
	}
	for _, way := range ways {
		check(1, 0, way, "", api.ErrWay)
		check(10, 6, way, long, api.ErrWay)
	}
	for _, way := range allWays {
		check(1, 0, way, long, api.ErrLong)
		check(10, 6, way, long, api.ErrLong)
		check(10, 6, way, strings.Repeat("x", 1<<20), api.ErrLong)
	}
}

// overwrite writes into a list and into all the room behind it.
func overwrite(list []string) {
	_ = append(list, "more")
	_ = append(list[:0], "less")
	room := list[:cap(list)]
	for i := range room {
		room[i] = "spoilt"
	}
}

func TestSpreadAnswersNewMemory(t *testing.T) {
	for _, way := range allWays {
		for _, text := range []string{"", "a", "some text"} {
			want := plainSpread(3, 2, text)
			got, _ := Spread(3, 2, way, text)
			again, _ := Spread(3, 2, way, text)
			overwrite(got)
			if !slices.Equal(again, want) {
				t.Errorf("P2: way %d: writing into one answer changed another: %q, want %q", way, again, want)
			}
			checkSpread(t, 3, 2, text, want)
		}
	}
}
