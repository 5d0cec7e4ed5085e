package tests

import (
	"fmt"
	"math"
	"testing"

	"loop.example/g01268/impl"
)

func TestSineTurnsOfQuarters(t *testing.T) {
	minus := negativeZero()
	for _, c := range []struct{ x, want float32 }{
		{0, 0}, {minus, minus}, {0.25, 1}, {0.5, minus}, {0.75, -1}, {1, 0}, {1.25, 1}, {1.5, minus},
		{-0.25, -1}, {-0.5, minus}, {-0.75, 1}, {-1, 0}, {-1.25, -1}, {1 << 22, 0}, {-(1 << 22), 0},
		{1<<22 + 0.5, minus}, {1 << 51, 0}, {-(1 << 51), 0},
		{1 << 52, 0}, {-(1 << 52), 0}, {math.MaxFloat32, 0}, {-math.MaxFloat32, 0},
		{inf(1), nan()}, {inf(-1), nan()}, {nan(), nan()},
	} {
		checkNumber(t, "SineTurns of "+bits(c.x), impl.SineTurns(c.x), c.want)
	}
}

func TestSineTurnsOfSubnormalNumbers(t *testing.T) {
	checkNumber(t, "smallest", impl.SineTurns(number(1)), number(6))
	// Less than 0, it becomes 1 when it is rounded, which is half a turn twice.
	checkNumber(t, "less than 0", impl.SineTurns(number(0x80000001)), negativeZero())
	checkNumber(t, "greatest", impl.SineTurns(number(0x007fffff)), narrowed(referenceSine(float64(number(0x007fffff)))))
}

func TestSineTurnsToTheLastBit(t *testing.T) {
	for _, x := range append(oddNumbers(), manyNumbers(4000)...) {
		if !(math.Abs(float64(x)) < 1<<52) {
			continue
		}
		got := impl.SineTurns(x)
		checkNumber(t, "SineTurns of "+bits(x), got, narrowed(referenceSine(float64(x))))
		if math.Abs(float64(x)) < 1000 && math.Abs(float64(got)-math.Sin(float64(x)*2*math.Pi)) > 1e-7 {
			t.Errorf("SineTurns of %v is no sine: %v", x, got)
		}
	}
}

// TestSineTurnsWhereFewerTermsShow has numbers whose sine is so near to the
// middle of two 32-bit numbers that the way it is computed decides.
func TestSineTurnsWhereFewerTermsShow(t *testing.T) {
	for _, c := range []struct{ x, want uint32 }{
		{0x3f401806, 0xbf7fffd4}, {0x3e98b49f, 0x3f7452f9}, {0x3f48a909, 0xbf7a3d1c}, {0x3e915212, 0x3f7a3d1c},
	} {
		x := number(c.x)
		checkNumber(t, "SineTurns of "+bits(x), impl.SineTurns(x), number(c.want))
		checkNumber(t, "the reference", narrowed(referenceSine(float64(x))), number(c.want))
	}
}

func TestPhasorOfQuarters(t *testing.T) {
	minus := negativeZero()
	none := complex(nan(), nan())
	for _, c := range []struct {
		turns float64
		want  complex64
	}{
		{0, 1}, {math.Copysign(0, -1), complex(1, minus)},
		{0.25, complex(0, 1)}, {0.5, complex(-1, 0)}, {0.75, complex(0, -1)}, {1, 1},
		{-0.25, complex(0, -1)}, {-0.5, complex(-1, 0)}, {-0.75, complex(0, 1)}, {-1, 1},
		{1e15 + 0.25, complex(0, 1)}, {1<<52 - 0.5, complex(-1, 0)}, {-(1<<52 - 0.5), complex(-1, 0)},
		{1 << 52, 1}, {-(1 << 52), 1}, {math.MaxFloat64, 1}, {-math.MaxFloat64, 1},
		{-1e-20, 1}, {-math.SmallestNonzeroFloat64, 1}, {math.SmallestNonzeroFloat64, 1},
		{math.Inf(1), none}, {math.Inf(-1), none}, {math.NaN(), none},
	} {
		checkComplex(t, "PhasorOf "+fmt.Sprint(c.turns), impl.PhasorOf(c.turns), c.want)
	}
}

func TestPhasorOfToTheLastBit(t *testing.T) {
	list := []float64{}
	for k := range 101 {
		list = append(list, float64(k)/100, -float64(k)/100, float64(k)/24+1000)
	}
	for _, x := range manyNumbers(2000) {
		list = append(list, float64(x)/3)
	}
	for _, turns := range list {
		if math.Abs(turns) >= 1<<52 {
			continue
		}
		got := impl.PhasorOf(turns)
		checkComplex(t, "PhasorOf "+fmt.Sprint(turns), got, referencePhasor(turns))
		if math.Abs(turns) < 1000 {
			sine, cosine := math.Sincos(turns * 2 * math.Pi)
			if math.Abs(float64(real(got))-cosine) > 1e-7 || math.Abs(float64(imag(got))-sine) > 1e-7 {
				t.Errorf("PhasorOf %v is no phasor: %v", turns, got)
			}
		}
	}
}

// TestPhasorOfBetweenNumbers looks at turns whose sine or cosine is so near to
// the middle of two 32-bit numbers that the last bits of 64-bit numbers decide.
func TestPhasorOfBetweenNumbers(t *testing.T) {
	for k := range 100 {
		low := number(0x3f000000 + uint32(k)*83773)
		middle := float64(low) + float64(math.Nextafter32(low, 2)-low)/2
		sine := math.Asin(middle) / (2 * math.Pi)
		for _, turns := range []float64{sine, 0.25 - sine, 0.25 + sine, 0.5 + sine, 0.75 + sine, -sine} {
			for range 12 {
				turns = math.Nextafter(turns, -1)
			}
			for range 24 {
				checkComplex(t, "PhasorOf "+fmt.Sprint(turns), impl.PhasorOf(turns), referencePhasor(turns))
				turns = math.Nextafter(turns, 1)
			}
		}
	}
}

func TestAngleTurnsOfAxes(t *testing.T) {
	minus := negativeZero()
	great := float32(math.MaxFloat32)
	for _, c := range []struct{ y, x, want float32 }{
		{0, 0, 0}, {minus, minus, 0}, {minus, 0, 0}, {0, minus, 0},
		{0, 1, 0}, {minus, 1, 0}, {1, 1, 0.125}, {1, 0, 0.25}, {1, minus, 0.25}, {1, -1, 0.375},
		{0, -1, 0.5}, {minus, -1, 0.5}, {-1, -1, -0.375}, {-1, 0, -0.25}, {-1, 1, -0.125},
		{number(1), number(1), 0.125}, {number(1), 0, 0.25}, {0, number(0x80000001), 0.5},
		{great, great, 0.125}, {great, -great, 0.375}, {number(1), great, 0}, {number(0x80000001), great, minus},
		{number(0x80000001), -great, -0.5}, {great, number(0x80000001), 0.25},
		{inf(1), 1, nan()}, {1, inf(-1), nan()}, {nan(), 1, nan()}, {0, nan(), nan()},
		{inf(1), inf(1), nan()}, {nan(), 0, nan()}, {0, inf(1), nan()},
	} {
		checkNumber(t, "AngleTurns of "+bits(c.y)+" and "+bits(c.x), impl.AngleTurns(c.y, c.x), c.want)
		checkNumber(t, "AngleOf "+bits(c.x)+" and "+bits(c.y), impl.AngleOf(complex(c.x, c.y)), c.want)
	}
}

func TestAngleTurnsToTheLastBit(t *testing.T) {
	list := append(manyNumbers(3000), 1, 2, 3, 0.5, -1, -2, number(1), number(0x807fffff))
	for i := 1; i < len(list); i++ {
		y, x := list[i-1], list[i]
		if x == 0 && y == 0 {
			continue
		}
		got := impl.AngleTurns(y, x)
		checkNumber(t, "AngleTurns of "+bits(y)+" and "+bits(x), got, referenceAngle(y, x))
		checkNumber(t, "AngleOf", impl.AngleOf(complex(x, y)), got)
		if math.Abs(float64(got)-math.Atan2(float64(y), float64(x))/(2*math.Pi)) > 1e-7 {
			t.Errorf("AngleTurns of %v and %v is no angle: %v", y, x, got)
		}
	}
}

// TestAngleTurnsWhereFewerTermsShow has points whose angle is so near to the
// middle of two 32-bit numbers that the way it is computed decides.
func TestAngleTurnsWhereFewerTermsShow(t *testing.T) {
	for _, c := range []struct{ y, x, want uint32 }{
		{0x3f97fc66, 0x3fa3c380, 0x3df3d8f1}, {0x3f051690, 0x3fd6886d, 0x3d44127a},
	} {
		y, x := number(c.y), number(c.x)
		checkNumber(t, "AngleTurns of "+bits(y)+" and "+bits(x), impl.AngleTurns(y, x), number(c.want))
		checkNumber(t, "the reference", referenceAngle(y, x), number(c.want))
	}
}

func TestAngleOfThePhasor(t *testing.T) {
	checkNumber(t, "the example", impl.AngleOf(impl.PhasorOf(0.25)), 0.25)
	for k := -49; k < 50; k++ {
		turns := float64(k) / 100
		if got := impl.AngleOf(impl.PhasorOf(turns)); math.Abs(float64(got)-turns) > 1e-7 {
			t.Errorf("the angle of the phasor of %v is %v", turns, got)
		}
	}
}

func TestTenthsOfPowers(t *testing.T) {
	for _, c := range []struct {
		power float32
		want  int64
	}{
		{1, 0}, {10, 100}, {100, 200}, {0.1, -100}, {0.01, -200}, {2, 30}, {4, 60}, {0.5, -30}, {0.25, -60},
		{1.5, 18}, {0.75, -12}, {1.01, 0}, {1.012, 1}, {0.99, 0}, {0.988, -1},
		{number(1), -4485}, {number(0x00800000), -3793}, {math.MaxFloat32, 3853},
	} {
		got, ok := impl.TenthsOf(c.power)
		check(t, "TenthsOf succeeds", ok, true)
		check(t, "TenthsOf "+bits(c.power), got, c.want)
	}
}

func TestTenthsOfNoPower(t *testing.T) {
	for _, power := range []float32{0, negativeZero(), -1, number(0x80000001), inf(1), inf(-1), nan(), number(0xffc00001)} {
		got, ok := impl.TenthsOf(power)
		check(t, "TenthsOf "+bits(power), ok, false)
		check(t, "the tenths", got, 0)
	}
}

func TestTenthsOfManyPowers(t *testing.T) {
	for _, x := range append(manyNumbers(4000), 0.75, 1.5, number(0x3f3fffff), number(0x3fbfffff)) {
		if !(x > 0) {
			continue
		}
		got, ok := impl.TenthsOf(x)
		check(t, "TenthsOf succeeds", ok, true)
		check(t, "TenthsOf "+bits(x), got, referenceTenths(x))
		if math.Abs(float64(got)-100*math.Log10(float64(x))) > 0.500001 {
			t.Errorf("TenthsOf %v are no tenths: %v", x, got)
		}
	}
}

// TestTenthsOfPowersBetweenTenths looks at the powers at which the tenths
// change, as near as 32-bit numbers come.
func TestTenthsOfPowersBetweenTenths(t *testing.T) {
	for n := -4450; n <= 3853; n++ {
		middle := float32(math.Pow(10, (float64(n)-0.5)/100))
		below, above := math.Nextafter32(middle, 0), math.Nextafter32(middle, 4*middle)
		for _, power := range []float32{below, middle, above} {
			got, ok := impl.TenthsOf(power)
			check(t, "TenthsOf succeeds", ok, true)
			check(t, "TenthsOf "+bits(power), got, referenceTenths(power))
		}
		if got, _ := impl.TenthsOf(below); !impl.IsSubnormal(below) && got != int64(n)-1 {
			t.Errorf("TenthsOf %v: got %d, want %d", below, got, n-1)
		}
		if got, _ := impl.TenthsOf(above); !impl.IsSubnormal(above) && got != int64(n) {
			t.Errorf("TenthsOf %v: got %d, want %d", above, got, n)
		}
	}
}
