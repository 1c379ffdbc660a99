package packs

import (
	"hash/crc32"
	"slices"
	"strings"
	"testing"

	"wattle/api"
)

func TestCheckOf(t *testing.T) {
	for _, c := range []struct{ text, want string }{
		{"", "\x00\x00\x00\x00"},
		{"\x00", "\xd2\x02\xef\x8d"},
		{"a", "\xe8\xb7\xbe\x43"},
		{"123456789", "\xcb\xf4\x39\x26"},
		{"\xff\xff\xff\xff", "\xff\xff\xff\xff"},
		{"w\x01\x01\x01\x00\x00", "\x23\xfb\xb8\x38"},
	} {
		if got := checkOf(c.text); got != c.want {
			t.Errorf("P8: the check of %q is %q, want %q", c.text, got, c.want)
		}
	}
	for b := range 256 {
		for _, n := range []int{1, 2, 7, 417} {
			text := strings.Repeat(string([]byte{byte(b), byte(b * 7)}), n)
			if got, want := checkOf(text), written(crc32.ChecksumIEEE([]byte(text))); got != want {
				t.Errorf("P8: the check of %q is %q, want %q", text, got, want)
			}
		}
	}
}

func TestWritten(t *testing.T) {
	if got := written(0x01fe0380); got != "\x01\xfe\x03\x80" {
		t.Errorf("P8: a check is written as %q", got)
	}
}

func TestSize(t *testing.T) {
	for _, c := range []struct{ d, s, size, want int }{
		{1, 0, 0, 15}, {1, 1, 0, 20}, {2, 1, 3, 31}, {1, 0, 400, 415}, {10, 6, 0, 90}, {10, 6, 400, 730}, {10, 6, 391, 730}, {10, 6, 390, 714},
	} {
		if got := Size(api.Head{Data: c.d, Spare: c.s, Size: c.size}); got != c.want {
			t.Errorf("P9: a pack of %d and %d pieces and %d bytes has %d, want %d", c.d, c.s, c.size, got, c.want)
		}
	}
}

// The head alone, whatever stands behind it and whatever it says.
func TestHeadOf(t *testing.T) {
	for _, head := range []api.Head{{Data: 1}, {Data: 10, Spare: 6, Size: 400}, {Size: 65535}, {Data: 255, Spare: 254, Size: 256}} {
		bare := bareHead(head)
		whole := bare + checkOf(bare)
		for _, behind := range []string{"", "x", strings.Repeat("y", 1000)} {
			if got, ok := HeadOf(whole + behind); !ok || got != head {
				t.Errorf("P9: the head of %q is %+v, %v, want %+v", whole, got, ok, head)
			}
		}
		for n := range len(whole) {
			if got, ok := HeadOf(whole[:n]); ok || got != (api.Head{}) {
				t.Errorf("P9: %d bytes have the head %+v", n, got)
			}
		}
	}
}

func TestWriteAndPieces(t *testing.T) {
	head := api.Head{Data: 2, Spare: 1, Size: 3}
	pieces := []string{"ab", "cd", "ef"}
	pack := Write(head, pieces)
	if got, ok := HeadOf(pack); got != head || !ok || len(pack) != Size(head) {
		t.Errorf("P9: %q has the head %+v, %v", pack, got, ok)
	}
	if got := Pieces(head, pack); !slices.Equal(got, pieces) {
		t.Errorf("P9: %q has the pieces %q", pack, got)
	}
	if bad := Bad(head, pack, 3); len(bad) != 0 {
		t.Errorf("P9: %q has the bad pieces %v", pack, bad)
	}
}

// turned is a pack in which the first byte of these frames is another one.
func turned(head api.Head, pack string, numbers ...int) string {
	out := []byte(pack)
	for _, number := range numbers {
		out[headSize+number*frameSize(head)] ^= 128
	}
	return string(out)
}

// As soon as there are too many the rest is not looked at: were it, the cut
// pack's missing frames would be asked for, and the call would panic.
func TestBadLooksNoFurther(t *testing.T) {
	head := api.Head{Data: 3, Spare: 3, Size: 7}
	pack := Write(head, []string{"abc", "def", "g\x00\x00", "xyz", "uvw", "rst"})
	spoilt := turned(head, pack, 0, 2, 3, 5)
	for most, want := range [][]int{{0}, {0, 2}, {0, 2, 3}, {0, 2, 3, 5}, {0, 2, 3, 5}} {
		if bad := Bad(head, spoilt, most); !slices.Equal(bad, want) {
			t.Errorf("P10: when %d may be bad, %v are, want %v", most, bad, want)
		}
		last := want[len(want)-1]
		if len(want) > most {
			cut := spoilt[:headSize+(last+1)*frameSize(head)]
			if bad := Bad(head, cut, most); !slices.Equal(bad, want) {
				t.Errorf("P10: of a cut pack, when %d may be bad, %v are, want %v", most, bad, want)
			}
		}
	}
	for most := range 7 {
		if bad := Bad(head, pack, most); len(bad) != 0 {
			t.Errorf("P10: of a whole pack %v are bad", bad)
		}
	}
}
