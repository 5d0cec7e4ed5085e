package tests

import (
	"fmt"
	"math"
	"strings"
	"testing"

	"loop.example/g01268/impl"
)

// told returns a text of results in which numbers have their bits, so that
// results that are the same have equal texts.
func told(results ...any) string {
	texts := make([]string, len(results))
	for i, r := range results {
		switch x := r.(type) {
		case float32:
			texts[i] = bits(x)
		case complex64:
			texts[i] = bits(real(x)) + bits(imag(x))
		case []float32:
			for _, y := range x {
				texts[i] += bits(y) + ","
			}
		case []complex64:
			for _, y := range x {
				texts[i] += told(y) + ","
			}
		case impl.Grain:
			texts[i] = told(x.At, x.Speed, x.Radius, x.Mass, x.Turn, x.Spin, x.Held)
		case impl.Heap:
			for _, g := range x.Grains {
				texts[i] += told(g) + "\n"
			}
		default:
			texts[i] = fmt.Sprint(x)
		}
	}
	return strings.Join(texts, " ")
}

// withRoom returns lists that share one array with more items behind them.
func withRoom[T any](list []T, behind T) (short, whole []T) {
	whole = append(append(make([]T, 0, len(list)+8), list...), repeated(behind, 8)...)
	return whole[:len(list)], whole
}

func oneNumber(x float32) string {
	tenths, ok := impl.TenthsOf(x)
	return told(impl.IsFinite(x), impl.BitsOf(x), impl.IsSubnormal(x), impl.FlushNumber(x), impl.SineTurns(x),
		tenths, ok, impl.RootNumber(x), impl.PhasorOf(float64(x)), impl.PhasorOf(float64(x)/3), impl.NarrowNumber(float64(x)/3))
}

func twoNumbers(x, y float32) string {
	z := complex(x, y)
	return told(impl.SameNumber(x, y), impl.AngleTurns(x, y), impl.IsFiniteComplex(z), impl.ConjugateOf(z), impl.PowerOf(z),
		impl.LongOf(z), impl.AngleOf(z), impl.ScaleComplex(z, y), impl.NarrowComplex(complex(float64(x)/3, float64(y)/7)))
}

func twoComplex(x, y complex64) string {
	return told(impl.SameComplex(x, y), impl.MulComplex(x, y), impl.QuotientOf(x, y))
}

func TestNumbersReturnForAllArguments(t *testing.T) {
	for _, x := range oddNumbers() {
		check(t, "one number, again", oneNumber(x), oneNumber(x))
		for _, y := range oddNumbers() {
			check(t, "two numbers, again", twoNumbers(x, y), twoNumbers(x, y))
		}
	}
	list := oddComplex()
	for i, x := range list {
		y := list[(i*7+3)%len(list)]
		check(t, "two complex numbers, again", twoComplex(x, y), twoComplex(x, y))
	}
	for _, x := range []float64{0, 1e300, -1e300, 1e-300, math.MaxFloat64, math.SmallestNonzeroFloat64, math.Inf(-1), math.NaN()} {
		check(t, "PhasorOf, again", told(impl.PhasorOf(x)), told(impl.PhasorOf(x)))
		check(t, "NarrowNumber, again", told(impl.NarrowNumber(x)), told(impl.NarrowNumber(x)))
	}
}

func textsOf(s string) string {
	a, aOk := impl.ReadNumbers(s)
	b, bOk := impl.ReadComplex(s)
	c, cOk := impl.ReadDecimal(s)
	d, dOk := impl.ReadList(s)
	e, eOk := impl.CheckOf(3, s)
	return told(a, aOk, b, bOk, c, cOk, d, dOk, e, eOk, impl.IsName(s))
}

func TestTextsReturnForAllArguments(t *testing.T) {
	for _, s := range []string{
		"", "none", ",", "\x00", "\xff\xfe", "3f800000", "3f80000000000000,3f80000000000000", "1,2,3", "-",
		strings.Repeat(",", 100000), strings.Repeat("1", 100000), strings.Repeat("3f800000,", 10000), strings.Repeat("none", 10000),
	} {
		check(t, "the text, again", textsOf(s), textsOf(s))
	}
	for _, n := range []int64{0, -1, math.MinInt64, math.MaxInt64, 1 << 32} {
		x, ok := impl.FromBits(n)
		y, again := impl.FromBits(n)
		check(t, "FromBits, again", told(y, again), told(x, ok))
		a, ok := impl.CheckOf(n, "abc")
		b, again := impl.CheckOf(n, "abc")
		check(t, "CheckOf, again", told(b, again), told(a, ok))
	}
}

func listsOfNumbers(a, b []float32) string {
	sum, sumOk := impl.SumNumbers(a)
	dot, dotOk := impl.DotNumbers(a, b)
	text, textOk := impl.NumbersText(a)
	return told(sum, sumOk, dot, dotOk, text, textOk)
}

func listsOfComplex(a, b []complex64) string {
	sum, sumOk := impl.SumComplex(a)
	dot, dotOk := impl.DotComplex(a, b)
	other, otherOk := impl.DotConjugate(a, b)
	powers, powersOk := impl.PowersOf(a)
	text, textOk := impl.ComplexText(a)
	return told(sum, sumOk, dot, dotOk, other, otherOk, powers, powersOk, text, textOk)
}

func TestListsAreNotModified(t *testing.T) {
	for _, count := range []int{0, 1, 5, 256, 257, 1000} {
		short, whole := withRoom(manyNumbers(count)[:count], 99)
		before := told(whole)
		check(t, "lists of numbers, again", listsOfNumbers(short, short), listsOfNumbers(short, short))
		check(t, "the numbers behind", told(whole), before)
		pairs, all := withRoom(repeated(complex(float32(1), negativeZero()), count), 99)
		before = told(all)
		check(t, "lists of complex numbers, again", listsOfComplex(pairs, pairs), listsOfComplex(pairs, pairs))
		check(t, "the complex numbers behind", told(all), before)
	}
	for _, count := range []int{0, 1, 64, 65} {
		short, whole := withRoom(repeated(int64(-3), count), 99)
		before := told(whole)
		text, ok := impl.ListText(short)
		other, again := impl.ListText(short)
		check(t, "ListText, again", told(other, again), told(text, ok))
		check(t, "the integers behind", told(whole), before)
	}
}

func TestNoListIsAnEmptyList(t *testing.T) {
	check(t, "no numbers", listsOfNumbers(nil, []float32{}), listsOfNumbers([]float32{}, nil))
	check(t, "no complex numbers", listsOfComplex(nil, []complex64{}), listsOfComplex([]complex64{}, nil))
	check(t, "no numbers", listsOfNumbers(nil, nil), "00000000 true 00000000 true none true")
}

func TestListsThatAreReadAreNew(t *testing.T) {
	a, _ := impl.ReadNumbers("3f800000,c0000000")
	b, _ := impl.ReadNumbers("3f800000,c0000000")
	a[0] = 7
	checkNumber(t, "the other numbers", b[0], 1)
	c, _ := impl.ReadComplex("3f80000000000000")
	d, _ := impl.ReadComplex("3f80000000000000")
	c[0] = 7
	checkComplex(t, "the other complex numbers", d[0], 1)
	e, _ := impl.ReadList("1,2")
	f, _ := impl.ReadList("1,2")
	e[0] = 7
	check(t, "the other integers", f, "[1 2]")
}
