package packs

// turner has the bits that are turned in a check when a 1 falls out of it.
const turner = 3988292384

// checkOf is the check of bytes, as it is written in four bytes.
func checkOf(text string) string {
	check := ^uint32(0)
	for k := range len(text) {
		check = moveDown(check ^ uint32(text[k]))
	}
	return written(^check)
}

func moveDown(check uint32) uint32 {
	for range 8 {
		fell := check & 1
		check >>= 1
		if fell == 1 {
			check ^= turner
		}
	}
	return check
}

func written(check uint32) string {
	return string([]byte{byte(check >> 24), byte(check >> 16), byte(check >> 8), byte(check)})
}
