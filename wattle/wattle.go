// Package wattle: texts in pieces, some of which may be lost: see DOC.md.
package wattle

import (
	"wattle/api"
	"wattle/field"
	"wattle/packs"
	"wattle/parts"
	"wattle/plans"
)

// Mul multiplies two bytes of the field (P3).
func Mul(a int, b int) (int, api.Errno) {
	if !isByte(a) || !isByte(b) {
		return 0, api.ErrByte
	}
	return int(field.Mul(byte(a), byte(b))), api.OK
}

// Inv is the inverse of a byte (P3).
func Inv(a int) (int, api.Errno) {
	if !isByte(a) {
		return 0, api.ErrByte
	}
	if a == 0 {
		return 0, api.ErrZero
	}
	return int(field.Inv(byte(a))), api.OK
}

// Spread cuts a text in pieces, and makes spare ones (P4).
func Spread(data int, spare int, way int, text string) ([]string, api.Errno) {
	if !areCounts(data, spare) {
		return nil, api.ErrCount
	}
	if !isWay(way) {
		return nil, api.ErrWay
	}
	if len(text) > api.MaxText {
		return nil, api.ErrLong
	}
	return parts.Spread(data, spare, way, text), api.OK
}

// Gather works a text and all pieces out of those that are left (P5).
func Gather(data int, spare int, way int, size int, pieces []string, lost []int) (string, []string, api.Errno) {
	if e := gatherFault(data, spare, way, size, pieces, lost); e != api.OK {
		return "", nil, e
	}
	text, all := parts.Gather(data, spare, way, size, pieces, lost)
	return text, all, api.OK
}

// Change writes over a part of the text, in the pieces (P6).
func Change(data int, spare int, size int, pieces []string, at int, text string) ([]string, api.Errno) {
	if e := changeFault(data, spare, size, pieces, at, text); e != api.OK {
		return nil, e
	}
	return parts.Change(data, spare, pieces, at, text), api.OK
}

// Plan is a plan of exclusive ors that makes the spare pieces (P7).
func Plan(data int, spare int) ([]api.Step, api.Errno) {
	if !areCounts(data, spare) {
		return nil, api.ErrCount
	}
	return plans.Steps(parts.Factors(data, spare), data), api.OK
}

// Pack writes a text as a pack (P8).
func Pack(data int, spare int, way int, text string) (string, api.Errno) {
	pieces, e := Spread(data, spare, way, text)
	if e != api.OK {
		return "", e
	}
	head := api.Head{Data: data, Spare: spare, Size: len(text)}
	return packs.Write(head, pieces), api.OK
}

// Open takes a pack apart (P9).
func Open(pack string) (api.Head, []string, []int, api.Errno) {
	head, e := headOf(pack)
	if e != api.OK {
		return api.Head{}, nil, nil, e
	}
	// All of them may be bad: none is left out here.
	bad := packs.Bad(head, pack, head.Data+head.Spare)
	return head, packs.Pieces(head, pack), bad, api.OK
}

// Read tells a pack's text (P10).
func Read(pack string, way int) (string, api.Errno) {
	m, e := mend(pack, way)
	return m.text, e
}

// Heal makes a pack whole (P10).
func Heal(pack string, way int) (string, []int, api.Errno) {
	m, e := mend(pack, way)
	if e != api.OK {
		return "", nil, e
	}
	return packs.Write(m.head, m.pieces), m.bad, api.OK
}

// Edit writes over a part of a pack's text (P11).
func Edit(pack string, way int, at int, text string) (string, api.Errno) {
	m, e := mend(pack, way)
	if e != api.OK {
		return "", e
	}
	if !isWithin(m.head.Size, at, text) {
		return "", api.ErrRange
	}
	changed := parts.Change(m.head.Data, m.head.Spare, m.pieces, at, text)
	return packs.Write(m.head, changed), api.OK
}
