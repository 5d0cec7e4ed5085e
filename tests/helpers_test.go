package tests

import (
	"fmt"
	"math"
	"math/rand"
	"testing"
)

// check compares two values by their texts.
func check(t *testing.T, what string, got, want any) {
	t.Helper()
	if g, w := fmt.Sprint(got), fmt.Sprint(want); g != w {
		t.Errorf("%s: got %s, want %s", what, g, w)
	}
}

// checkNumber compares two numbers by their bits.
func checkNumber(t *testing.T, what string, got, want float32) {
	t.Helper()
	if bits(got) != bits(want) {
		t.Errorf("%s: got %v (%s), want %v (%s)", what, got, bits(got), want, bits(want))
	}
}

// checkComplex compares two complex numbers by the bits of their parts.
func checkComplex(t *testing.T, what string, got, want complex64) {
	t.Helper()
	checkNumber(t, what+", real part", real(got), real(want))
	checkNumber(t, what+", imaginary part", imag(got), imag(want))
}

// bits returns a text that tells numbers apart that are not the same.
func bits(x float32) string {
	if x != x {
		return "nan"
	}
	return fmt.Sprintf("%08x", math.Float32bits(x))
}

// number returns the number with these bits, without the program's help.
func number(n uint32) float32 {
	return math.Float32frombits(n)
}

func nan() float32 {
	return float32(math.NaN())
}

func inf(sign int) float32 {
	return float32(math.Inf(sign))
}

func negativeZero() float32 {
	return number(0x80000000)
}

// oddNumbers returns zeros, subnormal numbers, limits, infinities and
// not-a-numbers, and some ordinary numbers.
func oddNumbers() []float32 {
	list := []float32{}
	for _, n := range []uint32{
		0x00000000, 0x00000001, 0x00000002, 0x00400000, 0x007fffff, 0x00800000, 0x00800001,
		0x3f7fffff, 0x3f800000, 0x3f800001, 0x7f7fffff, 0x7f800000, 0x7fc00000, 0x7f800001, 0x7fffffff,
	} {
		list = append(list, number(n), number(n|0x80000000))
	}
	for _, x := range []float32{0.1, 0.125, 0.25, 0.5, 0.75, 1.25, 1.5, 2, 3, 1e-30, 1e30, 1 << 24, 1 << 51, 1 << 52, 1 << 53} {
		list = append(list, x, -x)
	}
	return list
}

// manyNumbers returns finite numbers of all sizes, and of usual ones, always
// the same.
func manyNumbers(count int) []float32 {
	source := rand.New(rand.NewSource(1))
	list := []float32{}
	for len(list) < count {
		if x := number(source.Uint32()); x-x == 0 {
			list = append(list, x)
		}
		list = append(list, float32(source.NormFloat64()))
	}
	return list
}

// oddComplex returns complex numbers with odd parts.
func oddComplex() []complex64 {
	list := []complex64{}
	for i, x := range oddNumbers() {
		for k, y := range oddNumbers() {
			if i%3 == k%3 {
				list = append(list, complex(x, y))
			}
		}
	}
	return list
}
