// Package field: the numbers 0 to 255 as polynomials, added by exclusive or.
package field

// highPowers has at i what x to the power 8 + i comes to: a product of two
// bytes goes no further than x to the power 14.
var highPowers = [7]byte{29, 58, 116, 232, 205, 135, 19}

// Mul is the product of two numbers of the field.
func Mul(a, b byte) byte {
	return remainder(product(a, b))
}

// Inv is the inverse of a number that is not 0 (of 0 it is 0).
func Inv(a byte) byte {
	// a to the power 255 is 1, so the inverse is a to the power 254,
	// which is 2 + 4 + .. + 128.
	inverse, power := byte(1), a
	for range 7 {
		power = Mul(power, power)
		inverse = Mul(inverse, power)
	}
	return inverse
}

// Columns has at b the product of a and x to the power b: a product by a is
// the sum of those whose bits the other number has.
func Columns(a byte) [8]byte {
	var columns [8]byte
	for b := range 8 {
		columns[b] = Mul(a, 1<<b)
	}
	return columns
}

func product(a, b byte) uint16 {
	var sum uint16
	for i := range 8 {
		if b>>i&1 == 1 {
			sum ^= uint16(a) << i
		}
	}
	return sum
}

func remainder(product uint16) byte {
	rest := byte(product & 255)
	for i := range 7 {
		if product>>(8+i)&1 == 1 {
			rest ^= highPowers[i]
		}
	}
	return rest
}
