package wattle

import "wattle/api"

func isByte(a int) bool {
	return a >= 0 && a <= 255
}

func areCounts(data, spare int) bool {
	return data >= 1 && data <= api.MaxData && spare >= 0 && spare <= api.MaxSpare
}

func isWay(way int) bool {
	return way == api.Tables || way == api.Planes || way == api.Plans
}
