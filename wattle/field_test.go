package wattle

import (
	"math"
	"testing"

	"wattle/api"
)

var noBytes = []int{-1, 256, -256, 257, math.MaxInt, math.MinInt}

// longMul multiplies by the definition: the product, then its remainder by 285.
func longMul(a, b int) int {
	p := 0
	for i := range 8 {
		if b&(1<<i) != 0 {
			p ^= a << i
		}
	}
	for i := 14; i >= 8; i-- {
		if p&(1<<i) != 0 {
			p ^= 285 << (i - 8)
		}
	}
	return p
}

func TestMulOfSomeBytes(t *testing.T) {
	for _, c := range [][3]int{
		{2, 128, 29}, {3, 3, 5}, {255, 1, 255}, {2, 142, 1}, {3, 244, 1}, {4, 64, 29},
		{0, 0, 0}, {0, 1, 0}, {0, 128, 0}, {0, 255, 0}, {1, 1, 1}, {1, 128, 128}, {128, 128, 19}, {255, 255, 226}, {128, 255, 98},
	} {
		if v, e := Mul(c[0], c[1]); v != c[2] || e != api.OK {
			t.Errorf("P3: Mul(%d, %d) = %d, %d, want %d", c[0], c[1], v, e, c[2])
		}
		if v, e := Mul(c[1], c[0]); v != c[2] || e != api.OK {
			t.Errorf("P3: Mul(%d, %d) = %d, %d, want %d", c[1], c[0], v, e, c[2])
		}
	}
}

func TestMulOfAllBytes(t *testing.T) {
	for a := range 256 {
		for b := range 256 {
			if v, e := Mul(a, b); v != longMul(a, b) || e != api.OK {
				t.Fatalf("P3: Mul(%d, %d) = %d, %d, want %d", a, b, v, e, longMul(a, b))
			}
		}
	}
}

func TestMulOfNoBytes(t *testing.T) {
	for _, a := range noBytes {
		for _, b := range append([]int{0, 1, 128, 255}, noBytes...) {
			if v, e := Mul(a, b); v != 0 || e != api.ErrByte {
				t.Errorf("P3: Mul(%d, %d) = %d, %d, want 0, ErrByte", a, b, v, e)
			}
			if v, e := Mul(b, a); v != 0 || e != api.ErrByte {
				t.Errorf("P3: Mul(%d, %d) = %d, %d, want 0, ErrByte", b, a, v, e)
			}
		}
	}
}

func TestInv(t *testing.T) {
	for _, c := range [][2]int{{1, 1}, {2, 142}, {142, 2}, {3, 244}, {128, 27}, {255, 253}} {
		if v, e := Inv(c[0]); v != c[1] || e != api.OK {
			t.Errorf("P3: Inv(%d) = %d, %d, want %d", c[0], v, e, c[1])
		}
	}
	for a := 1; a < 256; a++ {
		v, e := Inv(a)
		if p, f := Mul(a, v); p != 1 || e != api.OK || f != api.OK {
			t.Errorf("P3: %d times its inverse %d is %d (%d, %d)", a, v, p, e, f)
		}
	}
}

func TestInvOfWrongNumbers(t *testing.T) {
	for _, a := range noBytes {
		if v, e := Inv(a); v != 0 || e != api.ErrByte {
			t.Errorf("P3: Inv(%d) = %d, %d, want 0, ErrByte", a, v, e)
		}
	}
	if v, e := Inv(0); v != 0 || e != api.ErrZero {
		t.Errorf("P3: Inv(0) = %d, %d, want 0, ErrZero", v, e)
	}
}
