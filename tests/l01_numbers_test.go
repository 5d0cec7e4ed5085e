package tests

import (
	"math"
	"testing"

	"loop.example/g01268/impl"
)

func TestSameNumberTellsZerosApart(t *testing.T) {
	minus := negativeZero()
	for _, c := range []struct {
		a, b float32
		want bool
	}{
		{0, 0, true}, {minus, minus, true}, {0, minus, false}, {minus, 0, false},
		{1, 1, true}, {1, -1, false}, {1, number(0x3f800001), false},
		{inf(1), inf(1), true}, {inf(-1), inf(-1), true}, {inf(1), inf(-1), false},
		{number(1), number(1), true}, {number(1), 0, false}, {number(1), number(0x80000001), false},
		{nan(), nan(), true}, {nan(), number(0xffc00001), true}, {number(0x7f800001), number(0xffffffff), true},
		{nan(), 0, false}, {inf(1), nan(), false}, {math.MaxFloat32, inf(1), false},
	} {
		check(t, "SameNumber of "+bits(c.a)+" and "+bits(c.b), impl.SameNumber(c.a, c.b), c.want)
	}
}

func TestSameNumberOfOddNumbers(t *testing.T) {
	for _, a := range oddNumbers() {
		for _, b := range oddNumbers() {
			check(t, "SameNumber of "+bits(a)+" and "+bits(b), impl.SameNumber(a, b), bits(a) == bits(b))
		}
	}
}

func TestSameComplexComparesBothParts(t *testing.T) {
	minus := negativeZero()
	check(t, "zeros", impl.SameComplex(0, complex(0, 0)), true)
	check(t, "real zeros with signs", impl.SameComplex(complex(minus, 0), 0), false)
	check(t, "imaginary zeros with signs", impl.SameComplex(complex(0, minus), 0), false)
	check(t, "not-a-numbers", impl.SameComplex(complex(nan(), 1), complex(number(0xff800001), 1)), true)
	check(t, "both not-a-numbers", impl.SameComplex(complex(nan(), nan()), complex(nan(), nan())), true)
	check(t, "one not-a-number", impl.SameComplex(complex(nan(), 1), complex(1, nan())), false)
	check(t, "other real parts", impl.SameComplex(complex(1, 2), complex(2, 2)), false)
	check(t, "other imaginary parts", impl.SameComplex(complex(1, 2), complex(1, 1)), false)
	check(t, "infinities", impl.SameComplex(complex(inf(1), inf(-1)), complex(inf(1), inf(-1))), true)
}

func TestIsFinite(t *testing.T) {
	for _, x := range oddNumbers() {
		want := !math.IsNaN(float64(x)) && math.Abs(float64(x)) <= math.MaxFloat32
		check(t, "IsFinite of "+bits(x), impl.IsFinite(x), want)
		check(t, "IsFiniteComplex with the real part "+bits(x), impl.IsFiniteComplex(complex(x, 1)), want)
		check(t, "IsFiniteComplex with the imaginary part "+bits(x), impl.IsFiniteComplex(complex(1, x)), want)
	}
	check(t, "both infinite", impl.IsFiniteComplex(complex(inf(1), inf(-1))), false)
}

func TestBitsOf(t *testing.T) {
	for _, c := range []struct {
		x    float32
		want int64
	}{
		{0, 0}, {negativeZero(), 2147483648}, {1, 1065353216}, {-2, 3221225472}, {number(1), 1},
		{number(0x80000001), 2147483649}, {inf(1), 2139095040}, {inf(-1), 4286578688},
		{nan(), 2143289344}, {number(0x7f800001), 2143289344}, {number(0xffffffff), 2143289344},
	} {
		check(t, "BitsOf "+bits(c.x), impl.BitsOf(c.x), c.want)
	}
}

func TestFromBitsReadsBitsOf(t *testing.T) {
	for _, x := range append(oddNumbers(), manyNumbers(1000)...) {
		got, ok := impl.FromBits(impl.BitsOf(x))
		check(t, "FromBits succeeds", ok, true)
		checkNumber(t, "FromBits of BitsOf", got, x)
	}
}

func TestFromBitsLimits(t *testing.T) {
	for _, n := range []int64{-1, 4294967296, math.MinInt64, math.MaxInt64, -4294967296, 1 << 33} {
		got, ok := impl.FromBits(n)
		check(t, "FromBits of "+impl.Decimal(n), ok, false)
		checkNumber(t, "the number", got, 0)
	}
	for _, n := range []int64{2143289344, 2139095041, 2147483647, 4286578689, 4290772992, 4294967295} {
		got, ok := impl.FromBits(n)
		check(t, "FromBits of "+impl.Decimal(n), ok, true)
		checkNumber(t, "the not-a-number", got, nan())
	}
	got, ok := impl.FromBits(2147483648)
	check(t, "FromBits of -0", ok, true)
	checkNumber(t, "the zero", got, negativeZero())
}

func TestNarrowNumberRoundsToEven(t *testing.T) {
	const half, above = 1.0 / (1 << 24), 1.0 / (1 << 40)
	for _, c := range []struct {
		x    float64
		want float32
	}{
		{0, 0}, {math.Copysign(0, -1), negativeZero()}, {0.5, 0.5}, {0.1, number(0x3dcccccd)},
		{1 + half, 1}, {1 + half + above, number(0x3f800001)}, {1 + half - above, 1},
		{1 + 3*half, number(0x3f800002)}, {-1 - half, -1}, {-1 - 3*half, number(0xbf800002)},
		{0x1p-149, number(1)}, {0x1p-150, 0}, {-0x1p-150, negativeZero()}, {0x1.000001p-150, number(1)},
		{0x3p-150, number(2)}, {0x5p-150, number(2)}, {0x1p-126, number(0x00800000)}, {0x1.fffffep-127, number(0x00800000)},
		{math.SmallestNonzeroFloat64, 0}, {-math.SmallestNonzeroFloat64, negativeZero()},
		{math.MaxFloat32, math.MaxFloat32}, {0x1.fffffefffffffp127, math.MaxFloat32},
		{0x1.ffffffp127, inf(1)}, {-0x1.ffffffp127, inf(-1)}, {math.MaxFloat64, inf(1)},
		{math.Inf(1), inf(1)}, {math.Inf(-1), inf(-1)}, {math.NaN(), nan()},
	} {
		checkNumber(t, "NarrowNumber", impl.NarrowNumber(c.x), c.want)
		checkComplex(t, "NarrowComplex, real", impl.NarrowComplex(complex(c.x, 2)), complex(c.want, 2))
		checkComplex(t, "NarrowComplex, imaginary", impl.NarrowComplex(complex(2, c.x)), complex(2, c.want))
	}
}

func TestSubnormalNumbers(t *testing.T) {
	for _, c := range []struct {
		n         uint32
		subnormal bool
	}{
		{0, false}, {1, true}, {0x00400000, true}, {0x007fffff, true}, {0x00800000, false},
		{0x00800001, false}, {0x3f800000, false}, {0x7f7fffff, false}, {0x7f800000, false},
		{0x7f800001, false}, {0x7fc00000, false},
	} {
		for _, n := range []uint32{c.n, c.n | 0x80000000} {
			x := number(n)
			want := x
			if c.subnormal {
				want = number(n & 0x80000000)
			}
			check(t, "IsSubnormal of "+bits(x), impl.IsSubnormal(x), c.subnormal)
			checkNumber(t, "FlushNumber of "+bits(x), impl.FlushNumber(x), want)
		}
	}
}

func TestMulComplexOfSmallIntegersIsExact(t *testing.T) {
	checkComplex(t, "the example", impl.MulComplex(complex(1, 2), complex(3, -1)), complex(5, 5))
	for a := float32(-5); a <= 5; a++ {
		for b := float32(-5); b <= 5; b++ {
			for c := float32(-5); c <= 5; c++ {
				for d := float32(-5); d <= 5; d++ {
					got := impl.MulComplex(complex(a, b), complex(c, d))
					if got != complex(a*c-b*d, a*d+b*c) {
						t.Fatalf("product of %v and %v: %v", complex(a, b), complex(c, d), got)
					}
				}
			}
		}
	}
}

func TestMulComplexOfOddNumbers(t *testing.T) {
	minus := negativeZero()
	// The products differ by 2 to the power of -46, which 64-bit numbers keep.
	near := complex(number(0x3f800001), 1)
	checkComplex(t, "cancelled", impl.MulComplex(near, complex(number(0x3f800001), number(0x3f800002))), complex(0x1p-46, float32(2+0x3p-23)))
	checkComplex(t, "-0", impl.MulComplex(complex(minus, 0), 1), complex(minus, 0))
	checkComplex(t, "-0 and -0", impl.MulComplex(complex(minus, minus), 1), complex(0, minus))
	checkComplex(t, "infinite", impl.MulComplex(complex(inf(1), 0), 1), complex(inf(1), nan()))
	checkComplex(t, "both infinite", impl.MulComplex(complex(inf(1), inf(1)), complex(1, 1)), complex(nan(), inf(1)))
	checkComplex(t, "not-a-number", impl.MulComplex(complex(nan(), 0), complex(1, 2)), complex(nan(), nan()))
	checkComplex(t, "subnormal", impl.MulComplex(complex(number(3), 0), 0.5), complex(number(2), 0))
	checkComplex(t, "too great", impl.MulComplex(complex(math.MaxFloat32, 0), 2), complex(inf(1), 0))
	// Both products are too great for 32-bit numbers, but not their difference.
	checkComplex(t, "great", impl.MulComplex(complex(1e30, 1e30), complex(1e30, 1e30)), complex(0, inf(1)))
}

func TestProductsAndQuotientsAreRoundedOnce(t *testing.T) {
	list := manyNumbers(4000)
	for i := 0; i+3 < len(list); i += 2 {
		x, y := complex(list[i], list[i+1]), complex(list[i+2], list[i+3])
		if i%3 > 0 { // numbers of one size, whose products come near one another
			x, y = complex(list[i+1], list[i+3]), complex(list[i+3], -list[i+1])
		}
		a, b := referenceProduct(x, y)
		checkComplex(t, "MulComplex", impl.MulComplex(x, y), complex(narrowed(a), narrowed(b)))
		power := referencePower(y)
		checkNumber(t, "PowerOf", impl.PowerOf(y), narrowed(power))
		checkNumber(t, "LongOf", impl.LongOf(y), narrowed(root(power)))
		a, b = referenceProduct(x, complex(real(y), -imag(y)))
		checkComplex(t, "QuotientOf", impl.QuotientOf(x, y), complex(narrowed(over(a, power)), narrowed(over(b, power))))
	}
}

func TestScaleComplexScalesTheParts(t *testing.T) {
	minus := negativeZero()
	checkComplex(t, "ordinary", impl.ScaleComplex(complex(1, 2), 0.5), complex(0.5, 1))
	checkComplex(t, "by -0", impl.ScaleComplex(complex(1, -2), minus), complex(minus, 0))
	checkComplex(t, "zeros", impl.ScaleComplex(complex(0, minus), -1), complex(minus, 0))
	checkComplex(t, "infinite", impl.ScaleComplex(complex(1, inf(1)), 2), complex(2, inf(1)))
	checkComplex(t, "infinite by 0", impl.ScaleComplex(complex(1, inf(1)), 0), complex(0, nan()))
	checkComplex(t, "not-a-number", impl.ScaleComplex(complex(nan(), 3), 2), complex(nan(), 6))
	checkComplex(t, "by an infinity", impl.ScaleComplex(complex(1, 0), inf(-1)), complex(inf(-1), nan()))
	checkComplex(t, "subnormal", impl.ScaleComplex(complex(number(1), number(3)), 0.5), complex(0, number(2)))
	for _, a := range oddNumbers() {
		for _, b := range oddNumbers() {
			checkComplex(t, "ScaleComplex", impl.ScaleComplex(complex(a, -a), b), complex(a*b, -a*b))
		}
	}
}

func TestConjugateOf(t *testing.T) {
	minus := negativeZero()
	checkComplex(t, "ordinary", impl.ConjugateOf(complex(1, 2)), complex(1, -2))
	checkComplex(t, "+0", impl.ConjugateOf(complex(minus, 0)), complex(minus, minus))
	checkComplex(t, "-0", impl.ConjugateOf(complex(1, minus)), complex(1, 0))
	checkComplex(t, "infinite", impl.ConjugateOf(complex(inf(-1), inf(1))), complex(inf(-1), inf(-1)))
	checkComplex(t, "not-a-number", impl.ConjugateOf(complex(-1, nan())), complex(-1, nan()))
	checkComplex(t, "subnormal", impl.ConjugateOf(complex(0, number(1))), complex(0, number(0x80000001)))
}

func TestPowerOfAndLongOf(t *testing.T) {
	checkNumber(t, "PowerOf", impl.PowerOf(complex(3, 4)), 25)
	checkNumber(t, "LongOf", impl.LongOf(complex(3, 4)), 5)
	checkNumber(t, "PowerOf zeros", impl.PowerOf(complex(negativeZero(), negativeZero())), 0)
	checkNumber(t, "LongOf zeros", impl.LongOf(complex(negativeZero(), negativeZero())), 0)
	// LongOf takes the root of the power before it is narrowed.
	checkNumber(t, "PowerOf what is great", impl.PowerOf(complex(1e30, 0)), inf(1))
	checkNumber(t, "LongOf what is great", impl.LongOf(complex(0, 1e30)), 1e30)
	checkNumber(t, "PowerOf what is small", impl.PowerOf(complex(number(5), 0)), 0)
	checkNumber(t, "LongOf what is small", impl.LongOf(complex(number(5), 0)), number(5))
	checkNumber(t, "LongOf the greatest", impl.LongOf(complex(math.MaxFloat32, math.MaxFloat32)), inf(1))
	checkNumber(t, "PowerOf infinities", impl.PowerOf(complex(inf(-1), 1)), inf(1))
	checkNumber(t, "LongOf infinities", impl.LongOf(complex(1, inf(-1))), inf(1))
	checkNumber(t, "PowerOf a not-a-number", impl.PowerOf(complex(inf(1), nan())), nan())
	checkNumber(t, "LongOf a not-a-number", impl.LongOf(complex(nan(), inf(1))), nan())
}

func TestQuotientOf(t *testing.T) {
	minus := negativeZero()
	checkComplex(t, "the example", impl.QuotientOf(complex(0, 4), 2), complex(0, 2))
	checkComplex(t, "ordinary", impl.QuotientOf(complex(5, 5), complex(3, -1)), complex(1, 2))
	checkComplex(t, "small", impl.QuotientOf(1, 1e-30), 1e30)
	checkComplex(t, "smallest", impl.QuotientOf(complex(number(1), number(1)), complex(number(1), 0)), complex(1, 1))
	checkComplex(t, "great", impl.QuotientOf(1e30, complex(0, 1e30)), complex(0, -1))
	checkComplex(t, "by 0", impl.QuotientOf(1, 0), complex(nan(), nan()))
	checkComplex(t, "by -0", impl.QuotientOf(complex(-1, 2), complex(minus, minus)), complex(nan(), nan()))
	checkComplex(t, "0 by 0", impl.QuotientOf(0, 0), complex(nan(), nan()))
	checkComplex(t, "by what is infinite", impl.QuotientOf(1, complex(inf(1), 0)), complex(nan(), nan()))
	checkComplex(t, "infinite", impl.QuotientOf(complex(inf(1), 0), 1), complex(inf(1), nan()))
	// The conjugate of 1 has the imaginary part -0, and -0 times it is +0.
	checkComplex(t, "-0", impl.QuotientOf(complex(minus, minus), 1), complex(minus, 0))
	checkComplex(t, "the opposite", impl.QuotientOf(complex(1, 0), -1), complex(-1, minus))
}

func TestRootNumber(t *testing.T) {
	for _, c := range []struct{ x, want float32 }{
		{0, 0}, {negativeZero(), negativeZero()}, {9, 3}, {2, number(0x3fb504f3)}, {0.25, 0.5},
		{-1, nan()}, {number(0x80000001), nan()}, {inf(-1), nan()}, {inf(1), inf(1)}, {nan(), nan()},
		{number(1), number(0x1a3504f3)}, {number(4), number(0x1ab504f3)}, {math.MaxFloat32, number(0x5f7fffff)},
	} {
		checkNumber(t, "RootNumber of "+bits(c.x), impl.RootNumber(c.x), c.want)
	}
	for _, x := range manyNumbers(2000) {
		if x > 0 {
			checkNumber(t, "RootNumber of "+bits(x), impl.RootNumber(x), narrowed(root(exactly(float64(x)))))
		}
	}
}
