package tests

import (
	"math"
	"testing"

	"loop.example/g01268/impl"
)

// repeated returns a list of count times the same item.
func repeated[T any](item T, count int) []T {
	list := make([]T, count)
	for i := range list {
		list[i] = item
	}
	return list
}

func checkSum(t *testing.T, list []float32, want float32) {
	t.Helper()
	got, ok := impl.SumNumbers(list)
	check(t, "SumNumbers succeeds", ok, true)
	checkNumber(t, "SumNumbers", got, want)
	parts := make([]complex64, len(list))
	for i, x := range list {
		parts[i] = complex(x, -x)
	}
	both, ok := impl.SumComplex(parts)
	check(t, "SumComplex succeeds", ok, true)
	checkNumber(t, "SumComplex, real part", real(both), want)
	if want != 0 {
		checkNumber(t, "SumComplex, imaginary part", imag(both), -want)
	}
}

func TestSums(t *testing.T) {
	minus := negativeZero()
	checkSum(t, nil, 0)
	checkSum(t, []float32{}, 0)
	checkSum(t, []float32{minus}, 0)
	checkSum(t, []float32{minus, minus}, 0)
	checkSum(t, []float32{1, -1}, 0)
	checkSum(t, []float32{1, 2, 3.5}, 6.5)
	checkSum(t, []float32{number(1), number(2)}, number(3))
	checkSum(t, []float32{inf(1), 1}, inf(1))
	checkSum(t, []float32{inf(1), inf(-1)}, nan())
	checkSum(t, []float32{nan(), 1}, nan())
	checkSum(t, []float32{math.MaxFloat32, math.MaxFloat32, -math.MaxFloat32}, inf(1))
}

func TestSumsAreRoundedFromLeftToRight(t *testing.T) {
	checkSum(t, []float32{1 << 24, 1, 1}, 1<<24)
	checkSum(t, []float32{1, 1, 1 << 24}, 1<<24+2)
	checkSum(t, []float32{1e30, 1, -1e30}, 0)
	checkSum(t, []float32{1e30, -1e30, 1}, 1)
}

func TestSumComplexOfZeros(t *testing.T) {
	minus := negativeZero()
	got, ok := impl.SumComplex([]complex64{complex(minus, minus)})
	check(t, "SumComplex succeeds", ok, true)
	checkComplex(t, "SumComplex of zeros", got, 0)
	got, ok = impl.SumComplex([]complex64{1, complex(2, 3), complex(0, inf(1))})
	check(t, "SumComplex succeeds", ok, true)
	checkComplex(t, "SumComplex", got, complex(3, inf(1)))
}

func TestSumsHaveAtMostMaxNumbers(t *testing.T) {
	check(t, "MaxNumbers", impl.MaxNumbers, 256)
	checkSum(t, repeated(float32(1), 256), 256)
	sum, ok := impl.SumNumbers(repeated(float32(1), 257))
	check(t, "SumNumbers of too many", ok, false)
	checkNumber(t, "the sum", sum, 0)
	both, ok := impl.SumComplex(repeated(complex64(1), 257))
	check(t, "SumComplex of too many", ok, false)
	checkComplex(t, "the sum", both, 0)
}

func TestDotNumbers(t *testing.T) {
	minus := negativeZero()
	for _, c := range []struct {
		a, b []float32
		want float32
	}{
		{nil, nil, 0}, {[]float32{}, nil, 0}, {[]float32{1, 2}, []float32{3, 4}, 11},
		{[]float32{minus}, []float32{1}, 0}, {[]float32{1}, []float32{minus}, 0},
		// Each product is rounded to 32 bits before it is added.
		{[]float32{1, number(0x3f800001)}, []float32{-1, number(0x3f7ffffe)}, 0},
		{[]float32{1e30, 1e30}, []float32{1e30, -1e30}, nan()},
		{[]float32{1 << 12, 1, 1}, []float32{1 << 12, 1, 1}, 1 << 24},
		{[]float32{1, 1, 1 << 12}, []float32{1, 1, 1 << 12}, 1<<24 + 2},
		{[]float32{number(1)}, []float32{0.5}, 0}, {[]float32{number(3)}, []float32{0.5}, number(2)},
		{[]float32{inf(1)}, []float32{0}, nan()}, {[]float32{inf(1), 1}, []float32{-1, 1}, inf(-1)},
		{[]float32{nan()}, []float32{0}, nan()},
	} {
		got, ok := impl.DotNumbers(c.a, c.b)
		check(t, "DotNumbers succeeds", ok, true)
		checkNumber(t, "DotNumbers", got, c.want)
	}
}

func TestDotComplex(t *testing.T) {
	minus := negativeZero()
	for _, c := range []struct {
		a, b            []complex64
		want, conjugate complex64
	}{
		{nil, []complex64{}, 0, 0},
		{[]complex64{complex(0, 1)}, []complex64{complex(0, 1)}, -1, 1},
		{[]complex64{complex(1, 2), complex(3, -1)}, []complex64{complex(3, -1), complex(0, 1)}, complex(6, 8), complex(0, -4)},
		{[]complex64{complex(minus, minus)}, []complex64{1}, 0, 0},
		// Each product is narrowed before it is added.
		{[]complex64{1 << 12, 1, 1}, []complex64{1 << 12, 1, 1}, 1 << 24, 1 << 24},
		{[]complex64{1, complex(number(0x3f800001), 0)}, []complex64{-1, complex(number(0x3f7ffffe), 0)}, 0, 0},
		{[]complex64{complex(inf(1), 0)}, []complex64{1}, complex(inf(1), nan()), complex(inf(1), nan())},
	} {
		got, ok := impl.DotComplex(c.a, c.b)
		check(t, "DotComplex succeeds", ok, true)
		checkComplex(t, "DotComplex", got, c.want)
		got, ok = impl.DotConjugate(c.a, c.b)
		check(t, "DotConjugate succeeds", ok, true)
		checkComplex(t, "DotConjugate", got, c.conjugate)
	}
}

func TestDotsOfOtherLengths(t *testing.T) {
	for _, c := range [][2]int{{0, 1}, {1, 0}, {2, 3}, {256, 255}, {257, 257}, {256, 257}, {257, 256}} {
		x, ok := impl.DotNumbers(repeated(float32(1), c[0]), repeated(float32(1), c[1]))
		check(t, "DotNumbers succeeds", ok, false)
		checkNumber(t, "DotNumbers", x, 0)
		y, ok := impl.DotComplex(repeated(complex64(1), c[0]), repeated(complex64(1), c[1]))
		check(t, "DotComplex succeeds", ok, false)
		checkComplex(t, "DotComplex", y, 0)
		y, ok = impl.DotConjugate(repeated(complex64(1), c[0]), repeated(complex64(1), c[1]))
		check(t, "DotConjugate succeeds", ok, false)
		checkComplex(t, "DotConjugate", y, 0)
	}
}

func TestDotsOfMaxNumbers(t *testing.T) {
	x, ok := impl.DotNumbers(repeated(float32(2), 256), repeated(float32(1), 256))
	check(t, "DotNumbers succeeds", ok, true)
	checkNumber(t, "DotNumbers", x, 512)
	i := repeated(complex(0, float32(1)), 256)
	y, ok := impl.DotComplex(i, i)
	check(t, "DotComplex succeeds", ok, true)
	checkNumber(t, "DotComplex", real(y), -256)
	y, ok = impl.DotConjugate(i, i)
	check(t, "DotConjugate succeeds", ok, true)
	checkNumber(t, "DotConjugate", real(y), 256)
}

func TestPowersOf(t *testing.T) {
	minus := negativeZero()
	for _, c := range []struct {
		list []complex64
		want float32
	}{
		{nil, 0}, {[]complex64{}, 0}, {[]complex64{complex(minus, minus)}, 0},
		{[]complex64{complex(3, 4), 1}, 26},
		// Powers are added as 64-bit numbers, and narrowed in the end.
		{[]complex64{1 << 12, 1, 1}, 1<<24 + 2}, {[]complex64{1 << 27, complex(1, 0)}, 1 << 54},
		{repeated(complex(number(0x1a000000), 0), 2), number(1)},
		{[]complex64{complex(1, inf(-1)), 2}, inf(1)}, {[]complex64{complex(nan(), 1)}, nan()},
		{[]complex64{complex(inf(1), nan())}, nan()}, {[]complex64{1e30}, inf(1)},
		{repeated(complex(1, float32(1)), 256), 512},
	} {
		got, ok := impl.PowersOf(c.list)
		check(t, "PowersOf succeeds", ok, true)
		checkNumber(t, "PowersOf", got, c.want)
	}
	got, ok := impl.PowersOf(repeated(complex64(1), 257))
	check(t, "PowersOf too many", ok, false)
	checkNumber(t, "PowersOf too many", got, 0)
}

func TestPowersOfAreAddedFromLeftToRight(t *testing.T) {
	// 1 is lost beside 2 to the power of 54, but two of them together are not.
	great, above := complex64(1<<27), float32(1<<54)
	list := append([]complex64{great}, repeated(complex64(1<<15), 2)...)
	got, _ := impl.PowersOf(list)
	checkNumber(t, "PowersOf", got, float32(float64(above)+1<<31))
	many := manyNumbers(500)
	parts, sum := []complex64{}, exactly(0)
	for i := 1; i < len(many) && len(parts) < 256; i += 2 {
		parts = append(parts, complex(many[i], many[i]/3))
		sum = plus(sum, referencePower(parts[len(parts)-1]))
	}
	got, ok := impl.PowersOf(parts)
	check(t, "PowersOf succeeds", ok, true)
	checkNumber(t, "PowersOf many", got, narrowed(sum))
}
