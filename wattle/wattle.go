// Package wattle: texts in pieces, some of which may be lost: see DOC.md.
package wattle

import (
	"wattle/api"
	"wattle/field"
	"wattle/parts"
	"wattle/plans"
)

// Mul multiplies two bytes of the field (P3).
func Mul(a int, b int) (int, api.Errno) {
	if !isByte(a) || !isByte(b) {
		return 0, api.ErrByte
	}
	return int(field.Mul(byte(a), byte(b))), api.OK
}

// Inv is the inverse of a byte (P3).
func Inv(a int) (int, api.Errno) {
	if !isByte(a) {
		return 0, api.ErrByte
	}
	if a == 0 {
		return 0, api.ErrZero
	}
	return int(field.Inv(byte(a))), api.OK
}

// Spread cuts a text in pieces, and makes spare ones (P4).
func Spread(data int, spare int, way int, text string) ([]string, api.Errno) {
	if !areCounts(data, spare) {
		return nil, api.ErrCount
	}
	if !isWay(way) {
		return nil, api.ErrWay
	}
	if len(text) > api.MaxText {
		return nil, api.ErrLong
	}
	return parts.Spread(data, spare, way, text), api.OK
}

// Gather works a text and all pieces out of those that are left (P5).
func Gather(data int, spare int, way int, size int, pieces []string, lost []int) (string, []string, api.Errno) {
	if e := gatherFault(data, spare, way, size, pieces, lost); e != api.OK {
		return "", nil, e
	}
	text, all := parts.Gather(data, spare, way, size, pieces, lost)
	return text, all, api.OK
}

// Change writes over a part of the text, in the pieces (P6).
func Change(data int, spare int, size int, pieces []string, at int, text string) ([]string, api.Errno) {
	if e := changeFault(data, spare, size, pieces, at, text); e != api.OK {
		return nil, e
	}
	return parts.Change(data, spare, pieces, at, text), api.OK
}

// Plan is a plan of exclusive ors that makes the spare pieces (P7).
func Plan(data int, spare int) ([]api.Step, api.Errno) {
	if !areCounts(data, spare) {
		return nil, api.ErrCount
	}
	return plans.Steps(parts.Factors(data, spare), data), api.OK
}

// Pack writes a text as a pack (P8).
func Pack(data int, spare int, way int, text string) (string, api.Errno) { return "", api.OK }

// Open takes a pack apart (P9).
func Open(pack string) (api.Head, []string, []int, api.Errno) {
	return api.Head{}, nil, nil, api.OK
}

// Read tells a pack's text (P10).
func Read(pack string, way int) (string, api.Errno) { return "", api.OK }

// Heal makes a pack whole (P10).
func Heal(pack string, way int) (string, []int, api.Errno) { return "", nil, api.OK }

// Edit writes over a part of a pack's text (P11).
func Edit(pack string, way int, at int, text string) (string, api.Errno) { return "", api.OK }
