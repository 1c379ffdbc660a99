package wattle

import (
	"wattle/api"
	"wattle/packs"
	"wattle/parts"
)

// mended is what a pack comes to when its bad pieces are taken for lost.
type mended struct {
	head   api.Head
	text   string
	pieces []string
	bad    []int
}

func mend(pack string, way int) (mended, api.Errno) {
	head, e := headOf(pack)
	if e != api.OK {
		return mended{}, e
	}
	if !isWay(way) {
		return mended{}, api.ErrWay
	}
	bad := packs.Bad(head, pack, head.Spare)
	if len(bad) > head.Spare {
		return mended{}, api.ErrFew
	}
	text, all := parts.Gather(head.Data, head.Spare, way, head.Size, packs.Pieces(head, pack), bad)
	return mended{head, text, all, bad}, api.OK
}

// headOf answers a pack's head, if it may be and the pack is as long as it
// asks for.
func headOf(pack string) (api.Head, api.Errno) {
	head, ok := packs.HeadOf(pack)
	if !ok || !areCounts(head.Data, head.Spare) || !isSize(head.Size) {
		return api.Head{}, api.ErrHead
	}
	if len(pack) != packs.Size(head) {
		return api.Head{}, api.ErrCut
	}
	return head, api.OK
}
