package wattle

import (
	"slices"
	"testing"

	"wattle/api"
)

// checkAnyPack asks all that take a pack, of bytes of any kind: what they
// answer goes together, and comes again.
func checkAnyPack(t *testing.T, pack string, way, at int, text string) {
	t.Helper()
	head, pieces, bad, opened := Open(pack)
	if opened != api.OK {
		checkNoPack(t, pack, opened)
		return
	}
	want := api.OK
	switch {
	case !slices.Contains(allWays, way):
		want = api.ErrWay
	case len(bad) > head.Spare:
		want = api.ErrFew
	}
	if want != api.OK {
		checkNoHeal(t, pack, way, want)
		return
	}
	whole, all, e := Gather(head.Data, head.Spare, way, head.Size, pieces, bad)
	if e != api.OK {
		t.Fatalf("P10: Gather of what Open(%q) answers: %d", pack, e)
	}
	checkHeal(t, way, pack, bad, whole, plainPack(head.Data, head.Spare, head.Size, all))
	changed, e := Change(head.Data, head.Spare, head.Size, all, at, text)
	if e != api.OK {
		checkNoEdit(t, pack, way, at, text, e)
		return
	}
	checkEdit(t, pack, way, at, text, plainPack(head.Data, head.Spare, head.Size, changed))
}

func TestPacksOfAnyBytes(t *testing.T) {
	for seed := range 2000 {
		bytes := someText(seed, seed%300)
		checkAnyPack(t, bytes, seed%5-1, seed%7-1, bytes[:seed%300/2])
	}
	for _, length := range []int{1 << 12, 1 << 16, 1 << 20} {
		checkAnyPack(t, someText(length, length), 0, 0, "")
	}
}

// Bytes of any kind behind a head that may be, just as many as it asks for,
// and packs spoilt in any places.
func TestPacksOfAnyFrames(t *testing.T) {
	for seed := range 1500 {
		d, s, n := 1+seed%api.MaxData, seed%(api.MaxSpare+1), seed*7%(api.MaxText+1)
		pack := packOf(d, s, someText(seed, n))
		checkAnyPack(t, pack[:10]+someText(seed, len(pack)-10), seed%5-1, seed%7-1, "text")
		spoilt := pack
		for k, b := range []byte(someText(seed, seed%6)) {
			spoilt = turned(spoilt, (int(b)*31+k*97)%len(pack), b|1)
		}
		checkAnyPack(t, spoilt, seed%5-1, seed%7-1, someText(seed, seed%9))
	}
}
