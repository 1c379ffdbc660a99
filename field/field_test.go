package field

import "testing"

// slowMul multiplies by doubling: 285 is taken away as soon as x to the power
// 8 comes up, so that no higher power is ever met.
func slowMul(a, b int) int {
	sum := 0
	for ; b > 0; b >>= 1 {
		if b&1 == 1 {
			sum ^= a
		}
		a <<= 1
		if a > 255 {
			a ^= 285
		}
	}
	return sum
}

func TestHighPowers(t *testing.T) {
	for i, power := range highPowers {
		if want := slowMul(128, 2<<i); int(power) != want {
			t.Errorf("P3: x to the power %d is %d, want %d", 8+i, power, want)
		}
	}
}

func TestMulOfAllPairs(t *testing.T) {
	for a := range 256 {
		for b := range 256 {
			if v := Mul(byte(a), byte(b)); int(v) != slowMul(a, b) {
				t.Fatalf("P3: Mul(%d, %d) = %d, want %d", a, b, v, slowMul(a, b))
			}
		}
	}
}

func TestInvOfAll(t *testing.T) {
	for a := 1; a < 256; a++ {
		if v := Inv(byte(a)); slowMul(a, int(v)) != 1 {
			t.Errorf("P3: Inv(%d) = %d, their product is %d", a, v, slowMul(a, int(v)))
		}
	}
}

func TestColumns(t *testing.T) {
	for a := range 256 {
		columns := Columns(byte(a))
		for b := range 8 {
			if int(columns[b]) != slowMul(a, 1<<b) {
				t.Errorf("P3: column %d of %d is %d, want %d", b, a, columns[b], slowMul(a, 1<<b))
			}
		}
	}
}
