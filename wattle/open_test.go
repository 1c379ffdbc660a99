package wattle

import (
	"slices"
	"strings"
	"testing"

	"wattle/api"
)

// stretch are the bytes of a pack from a place on, up to another.
type stretch struct{ from, to int }

// frameOf tells where a frame stands in a pack.
func frameOf(d, n, number int) stretch {
	size := 1 + plainLength(d, n) + 4
	return stretch{10 + number*size, 10 + (number+1)*size}
}

// turned is a text with one byte exclusive or that.
func turned(text string, at int, by byte) string {
	out := []byte(text)
	out[at] ^= by
	return string(out)
}

// spoilFrames spoils these frames of a pack, each in another of its places (its
// number, its bytes, its check), moved on by the seed.
func spoilFrames(d, n int, pack string, numbers []int, seed int) string {
	for k, number := range numbers {
		f := frameOf(d, n, number)
		at := f.from + (seed+3*k+number)%(f.to-f.from)
		pack = turned(pack, at, byte(1+(37*seed+k)%255))
	}
	return pack
}

// checkOpen: the head, the pieces as they stand, and the bad ones.
func checkOpen(t *testing.T, d, s, n int, pack string, bad []int) {
	t.Helper()
	head, pieces, got, e := Open(pack)
	if e != api.OK || head != (api.Head{Data: d, Spare: s, Size: n}) || len(pieces) != d+s || !slices.Equal(got, bad) {
		t.Fatalf("P9: Open(%q) = %+v, %d pieces, %v, %d, want bad %v", pack, head, len(pieces), got, e, bad)
	}
	for p, piece := range pieces {
		f := frameOf(d, n, p)
		if want := pack[f.from+1 : f.to-4]; piece != want {
			t.Fatalf("P9: Open(%q): piece %d is %q, want %q", pack, p, piece, want)
		}
	}
}

// checkNoPack: none of the calls that take a pack takes this one, whatever else
// comes with it.
func checkNoPack(t *testing.T, pack string, want api.Errno) {
	t.Helper()
	if head, pieces, bad, e := Open(pack); head != (api.Head{}) || len(pieces) != 0 || len(bad) != 0 || e != want {
		t.Fatalf("P9: Open(%.50q) = %+v, %q, %v, %d, want nothing, %d", pack, head, pieces, bad, e, want)
	}
	for _, way := range []int{api.Tables, api.Plans, -1, 3} {
		if text, e := Read(pack, way); text != "" || e != want {
			t.Fatalf("P10: Read(%.50q, %d) = %q, %d, want nothing, %d", pack, way, text, e, want)
		}
		if healed, bad, e := Heal(pack, way); healed != "" || len(bad) != 0 || e != want {
			t.Fatalf("P10: Heal(%.50q, %d) = %q, %v, %d, want nothing, %d", pack, way, healed, bad, e, want)
		}
		for _, at := range []int{0, -1} {
			if edited, e := Edit(pack, way, at, ""); edited != "" || e != want {
				t.Fatalf("P11: Edit(%.50q, %d, %d) = %q, %d, want nothing, %d", pack, way, at, edited, e, want)
			}
		}
	}
}

func TestOpenOfWholePacks(t *testing.T) {
	for d := 1; d <= api.MaxData; d++ {
		for s := 0; s <= api.MaxSpare; s++ {
			for _, n := range []int{0, 1, d, d + 1, 255, 256, 257, api.MaxText - 1, api.MaxText} {
				pieces := somePieces(d+s+n, d+s, plainLength(d, n))
				checkOpen(t, d, s, n, plainPack(d, s, n, pieces), nil)
			}
		}
	}
}

func TestOpenOfEachSpoiltByte(t *testing.T) {
	for _, c := range [][3]int{{1, 0, 0}, {1, 1, 0}, {2, 1, 3}, {3, 2, 7}, {10, 6, 11}} {
		d, s, n := c[0], c[1], c[2]
		pack := plainPack(d, s, n, somePieces(n, d+s, plainLength(d, n)))
		for number := range d + s {
			f := frameOf(d, n, number)
			for at := f.from; at < f.to; at++ {
				for b := range 8 {
					checkOpen(t, d, s, n, turned(pack, at, 1<<b), []int{number})
				}
				checkOpen(t, d, s, n, turned(pack, at, 255), []int{number})
			}
		}
	}
}

// Any of the frames, none of them and all: more than the spare ones too.
func TestOpenOfSpoiltFrames(t *testing.T) {
	for _, c := range [][3]int{{1, 0, 5}, {2, 0, 0}, {1, 6, 9}, {3, 2, 0}, {3, 2, 14}, {10, 0, 99}, {10, 6, 33}, {5, 4, api.MaxText}} {
		d, s, n := c[0], c[1], c[2]
		pack := plainPack(d, s, n, somePieces(7*n, d+s, plainLength(d, n)))
		for seed, bad := range someOf(losses(d+s, d+s)) {
			checkOpen(t, d, s, n, spoilFrames(d, n, pack, bad, seed), bad)
		}
	}
}

// A number that is not right, though the check is that of the wrong one; and a
// check that is not right, though it is that of another pack's head.
func TestOpenOfFramesElsewhere(t *testing.T) {
	pieces := []string{"ab", "cd", "ef"}
	pack := plainPack(2, 1, 3, pieces)
	swapped := pack[:10] + pack[17:24] + pack[10:17] + pack[24:]
	checkOpen(t, 2, 1, 3, swapped, []int{0, 1})
	checkOpen(t, 2, 1, 3, pack[:10]+pack[24:]+pack[17:24]+pack[24:], []int{0})
	checkOpen(t, 2, 1, 3, pack[:17]+pack[10:17]+pack[10:17], []int{1, 2})
	for wrong := 1; wrong < 256; wrong++ {
		frame := string([]byte{byte(wrong)}) + "ab"
		checkOpen(t, 2, 1, 3, pack[:10]+frame+plainCheck(pack[:6]+frame)+pack[17:], []int{0})
	}
	other := plainPack(2, 1, 4, pieces)
	checkOpen(t, 2, 1, 3, pack[:10]+other[10:], []int{0, 1, 2})
	checkOpen(t, 2, 1, 3, pack[:17]+other[17:24]+pack[24:], []int{1})
	checkOpen(t, 2, 1, 3, pack[:13]+plainCheck("\x00ab")+pack[17:], []int{0})
}

// Any change within four bytes of a frame is told (P12).
func TestOpenTellsBursts(t *testing.T) {
	d, s, n := 2, 1, 20
	pack := packOf(d, s, someText(8, n))
	for number := range d + s {
		f := frameOf(d, n, number)
		for _, part := range []stretch{{f.from, f.to - 4}, {f.to - 4, f.to}} {
			for at := part.from; at < part.to; at++ {
				for seed := range 200 {
					burst := someText(1000*at+seed, min(4, part.to-at))
					spoilt := pack[:at] + burst + pack[at+len(burst):]
					if spoilt != pack {
						checkOpen(t, d, s, n, spoilt, []int{number})
					}
				}
			}
		}
	}
}

func TestOpenRefusesShortPacks(t *testing.T) {
	pack := packOf(3, 2, "some text")
	for n := range 10 {
		checkNoPack(t, pack[:n], api.ErrHead)
		checkNoPack(t, strings.Repeat("\x00", n), api.ErrHead)
	}
	checkNoPack(t, strings.Repeat("\x00", 10), api.ErrHead)
	checkNoPack(t, strings.Repeat("w", 1<<20), api.ErrHead)
}

func TestOpenRefusesSpoiltHeads(t *testing.T) {
	pack := packOf(3, 2, "some text")
	for at := range 10 {
		for by := 1; by < 256; by++ {
			checkNoPack(t, turned(pack, at, byte(by)), api.ErrHead)
		}
	}
	// The head comes ahead of the length.
	checkNoPack(t, turned(pack, 9, 1)+"x", api.ErrHead)
	checkNoPack(t, turned(pack, 0, 1)[:10], api.ErrHead)
}

// Heads whose check is right, and what they say may not be.
func TestOpenRefusesWrongHeads(t *testing.T) {
	frames := packOf(3, 2, "some text")[10:]
	for b := range 256 {
		for _, behind := range []string{"", frames} {
			if b != 119 {
				checkNoPack(t, plainHead(b, 1, 3, 2, 9)+behind, api.ErrHead)
			}
			if b != 1 {
				checkNoPack(t, plainHead(119, b, 3, 2, 9)+behind, api.ErrHead)
			}
			if b < 1 || b > api.MaxData {
				checkNoPack(t, plainHead(119, 1, b, 2, 9)+behind, api.ErrHead)
			}
			if b > api.MaxSpare {
				checkNoPack(t, plainHead(119, 1, 3, b, 9)+behind, api.ErrHead)
			}
		}
	}
	for _, n := range []int{401, 402, 511, 512, 32767, 32768, 65279, 65535} {
		checkNoPack(t, plainHead(119, 1, 3, 2, n), api.ErrHead)
		checkNoPack(t, plainPack(3, 2, n, somePieces(n, 5, plainLength(3, n))), api.ErrHead)
	}
	checkNoPack(t, plainPack(11, 0, 11, somePieces(1, 11, 1)), api.ErrHead)
	checkNoPack(t, plainPack(1, 7, 1, somePieces(1, 8, 1)), api.ErrHead)
	checkNoPack(t, plainPack(0, 1, 0, []string{""}), api.ErrHead)
	checkNoPack(t, plainPack(0, 0, 0, nil), api.ErrHead)
}

func TestOpenRefusesCutPacks(t *testing.T) {
	for _, c := range [][3]int{{1, 0, 0}, {1, 1, 1}, {3, 2, 9}, {10, 6, 0}, {10, 6, 21}} {
		pack := packOf(c[0], c[1], someText(c[2], c[2]))
		for n := 10; n < len(pack); n++ {
			checkNoPack(t, pack[:n], api.ErrCut)
		}
		for _, behind := range []string{"\x00", "x", "xyzvw", pack, strings.Repeat("\x00", 256), strings.Repeat("x", 1<<20)} {
			checkNoPack(t, pack+behind, api.ErrCut)
		}
	}
	checkNoPack(t, plainPack(2, 1, 3, []string{"ab", "cd"}), api.ErrCut)
	checkNoPack(t, plainPack(2, 1, 3, []string{"ab", "cd", "ef", "gh"}), api.ErrCut)
	checkNoPack(t, plainPack(2, 1, 3, []string{"a", "b", "c"}), api.ErrCut)
	checkNoPack(t, plainPack(2, 1, 3, []string{"abc", "def", "ghi"}), api.ErrCut)
}

// overwriteNumbers writes into a list and into all the room behind it.
func overwriteNumbers(list []int) {
	_ = append(list, -7)
	room := list[:cap(list)]
	for k := range room {
		room[k] = -1
	}
}

func TestOpenAnswersNewMemory(t *testing.T) {
	pack := packOf(3, 4, "some text")
	for seed, bad := range losses(7, 7) {
		spoilt := spoilFrames(3, 9, pack, bad, seed)
		_, pieces, numbers, _ := Open(spoilt)
		_, again, others, _ := Open(spoilt)
		was := slices.Clone(again)
		overwrite(pieces)
		overwriteNumbers(numbers)
		if !slices.Equal(again, was) || !slices.Equal(others, bad) {
			t.Errorf("P2: writing into one answer of Open changed another: %q, %v", again, others)
		}
		checkOpen(t, 3, 4, 9, spoilt, bad)
	}
}
