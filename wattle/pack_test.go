package wattle

import (
	"hash/crc32"
	"math"
	"strings"
	"testing"

	"wattle/api"
)

// noWays are numbers of no way.
var noWays = []int{-1, 3, 256, 257, math.MaxInt, math.MinInt}

func plainCheck(text string) string {
	c := crc32.ChecksumIEEE([]byte(text))
	return string([]byte{byte(c >> 24), byte(c >> 16), byte(c >> 8), byte(c)})
}

// plainHead are the ten bytes of a head and its check, whatever it says.
func plainHead(mark, version, d, s, n int) string {
	head := string([]byte{byte(mark), byte(version), byte(d), byte(s), byte(n / 256), byte(n % 256)})
	return head + plainCheck(head)
}

// plainPack is a pack of any pieces, byte for byte by the definition.
func plainPack(d, s, n int, pieces []string) string {
	pack := plainHead(119, 1, d, s, n)
	head := pack[:6]
	for p, piece := range pieces {
		frame := string([]byte{byte(p)}) + piece
		pack += frame + plainCheck(head+frame)
	}
	return pack
}

// packOf is the pack of a text, by the definitions alone.
func packOf(d, s int, text string) string {
	return plainPack(d, s, len(text), plainSpread(d, s, text))
}

func checkPack(t *testing.T, d, s int, text string) {
	t.Helper()
	want := packOf(d, s, text)
	for _, way := range allWays {
		if got, e := Pack(d, s, way, text); got != want || e != api.OK {
			t.Fatalf("P8: Pack(%d, %d, %d, %q) = %q, %d, want %q", d, s, way, text, got, e, want)
		}
	}
}

func TestPackByExample(t *testing.T) {
	for _, c := range []struct {
		d, s int
		text string
		want []byte
	}{
		{1, 1, "", []byte{119, 1, 1, 1, 0, 0, 35, 251, 184, 56, 0, 250, 35, 172, 171, 1, 141, 36, 156, 61}},
		{2, 1, "\x01\x01", []byte{119, 1, 2, 1, 0, 2, 223, 64, 118, 250, 0, 1, 97, 235, 32, 23, 1, 1, 120, 240, 17, 86, 2, 122, 148, 10, 234, 33}},
	} {
		for _, way := range allWays {
			if got, e := Pack(c.d, c.s, way, c.text); got != string(c.want) || e != api.OK {
				t.Errorf("P8: Pack(%d, %d, %d, %q) = %v, %d, want %v", c.d, c.s, way, c.text, []byte(got), e, c.want)
			}
		}
	}
}

func TestPackOfAllCounts(t *testing.T) {
	for d := 1; d <= api.MaxData; d++ {
		for s := 0; s <= api.MaxSpare; s++ {
			for _, n := range []int{0, 1, d, d + 1, 37, 255, 256, api.MaxText - 1, api.MaxText} {
				checkPack(t, d, s, someText(100*d+10*s+n, n))
			}
		}
	}
}

func TestPackOfAllSizes(t *testing.T) {
	for n := range api.MaxText + 1 {
		checkPack(t, 1+n%api.MaxData, n%(api.MaxSpare+1), someText(n, n))
	}
}

func TestPackOfPlainTexts(t *testing.T) {
	for _, b := range []string{"\x00", "\xff", "w", "\x80"} {
		checkPack(t, 3, 2, strings.Repeat(b, 50))
	}
}

// Each row keeps to all that is named ahead of its error; once all that comes
// behind it is kept to, once nothing of it.
func TestPackRefuses(t *testing.T) {
	long := strings.Repeat("x", api.MaxText+1)
	check := func(d, s, way int, text string, want api.Errno) {
		t.Helper()
		if got, e := Pack(d, s, way, text); got != "" || e != want {
			t.Errorf("P8: Pack(%d, %d, %d, %d bytes) = %q, %d, want nothing, %d", d, s, way, len(text), got, e, want)
		}
	}
	for _, d := range []int{0, -1, 11, 257, math.MaxInt, math.MinInt} {
		check(d, 0, 0, "", api.ErrCount)
		check(d, 7, 3, long, api.ErrCount)
	}
	for _, s := range []int{-1, 7, 256, math.MaxInt, math.MinInt} {
		check(1, s, 0, "", api.ErrCount)
		check(10, s, -1, long, api.ErrCount)
	}
	for _, way := range noWays {
		check(1, 0, way, "", api.ErrWay)
		check(10, 6, way, long, api.ErrWay)
	}
	for _, way := range allWays {
		check(1, 0, way, long, api.ErrLong)
		check(10, 6, way, long, api.ErrLong)
		check(3, 3, way, strings.Repeat("x", 1<<16), api.ErrLong)
		check(10, 6, way, strings.Repeat("x", 1<<20), api.ErrLong)
	}
}
