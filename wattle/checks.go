package wattle

import (
	"slices"

	"wattle/api"
	"wattle/parts"
)

func gatherFault(data, spare, way, size int, pieces []string, lost []int) api.Errno {
	switch {
	case !areCounts(data, spare):
		return api.ErrCount
	case !isWay(way):
		return api.ErrWay
	case !isSize(size):
		return api.ErrLong
	case !areNumbers(lost, data+spare) || !goTogether(data, spare, size, pieces, lost):
		return api.ErrShape
	case len(lost) > spare:
		return api.ErrFew
	}
	return api.OK
}

func changeFault(data, spare, size int, pieces []string, at int, text string) api.Errno {
	switch {
	case !areCounts(data, spare):
		return api.ErrCount
	case !isSize(size):
		return api.ErrLong
	case !goTogether(data, spare, size, pieces, nil):
		return api.ErrShape
	case !isWithin(size, at, text):
		return api.ErrRange
	}
	return api.OK
}

func isByte(a int) bool {
	return a >= 0 && a <= 255
}

func areCounts(data, spare int) bool {
	return data >= 1 && data <= api.MaxData && spare >= 0 && spare <= api.MaxSpare
}

func isWay(way int) bool {
	return way == api.Tables || way == api.Planes || way == api.Plans
}

func isSize(size int) bool {
	return size >= 0 && size <= api.MaxText
}

// areNumbers: numbers of that many pieces, none of them twice. It ends soon
// however long the list is: one that goes on has to repeat a number.
func areNumbers(list []int, count int) bool {
	for k, number := range list {
		if number < 0 || number >= count || slices.Contains(list[:k], number) {
			return false
		}
	}
	return true
}

// goTogether: as many pieces as the counts ask for, and those that are not
// lost of the length that a text of that size asks for.
func goTogether(data, spare, size int, pieces []string, lost []int) bool {
	if len(pieces) != data+spare {
		return false
	}
	length := parts.Length(data, size)
	for p, piece := range pieces {
		if len(piece) != length && !slices.Contains(lost, p) {
			return false
		}
	}
	return true
}

// isWithin takes away rather than adds: a sum with the greatest int would wrap
// round. Of a place behind the end less than nothing is left.
func isWithin(size, at int, text string) bool {
	return at >= 0 && len(text) <= size-at
}
