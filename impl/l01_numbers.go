package impl

import (
	"math"
	"strconv"
	"strings"
)

// Limits of chapter 1.
const (
	MaxNumbers = 256
	MaxValue   = 1000000000000000
	MaxItems   = 64
	CheckSize  = 65003
)

// Go may fuse a product and a sum into one operation that is rounded once.
// A conversion around a product forbids this, so every product that is added
// to something stands in one, also where the type is the same.

// number is what lists of this chapter are made of.
type number interface {
	float32 | complex64
}

// SameNumber reports whether two numbers are the same.
func SameNumber(a, b float32) bool {
	return BitsOf(a) == BitsOf(b)
}

// IsFinite reports whether x is finite.
func IsFinite(x float32) bool {
	return isFiniteLong(float64(x))
}

// isFiniteLong reports whether a 64-bit number is finite.
func isFiniteLong(x float64) bool {
	return !math.IsNaN(x) && !math.IsInf(x, 0)
}

// notNumber returns the one not-a-number.
func notNumber() float32 {
	return float32(math.NaN())
}

// BitsOf returns the bits of a number.
func BitsOf(x float32) int64 {
	if math.IsNaN(float64(x)) {
		return 2143289344
	}
	return int64(math.Float32bits(x))
}

// FromBits returns the number with the given bits.
func FromBits(n int64) (float32, bool) {
	if n < 0 || n > math.MaxUint32 {
		return 0, false
	}
	return math.Float32frombits(uint32(n)), true
}

// NarrowNumber returns the nearest 32-bit number.
func NarrowNumber(x float64) float32 {
	return float32(x)
}

// IsSubnormal reports whether x is subnormal.
func IsSubnormal(x float32) bool {
	return x != 0 && math.Abs(float64(x)) < 0x1p-126
}

// FlushNumber returns x, but a zero if it is subnormal.
func FlushNumber(x float32) float32 {
	if IsSubnormal(x) {
		return float32(math.Copysign(0, float64(x)))
	}
	return x
}

// SameComplex reports whether two complex numbers are the same.
func SameComplex(a, b complex64) bool {
	return SameNumber(real(a), real(b)) && SameNumber(imag(a), imag(b))
}

// IsFiniteComplex reports whether both parts are finite.
func IsFiniteComplex(x complex64) bool {
	return IsFinite(real(x)) && IsFinite(imag(x))
}

// NarrowComplex returns a number with narrowed parts.
func NarrowComplex(x complex128) complex64 {
	return complex(NarrowNumber(real(x)), NarrowNumber(imag(x)))
}

// mulLong returns a product with 64-bit parts. Go's own operator is not used
// because the language does not tell how it rounds.
func mulLong(x, y complex64) complex128 {
	a, b := float64(real(x)), float64(imag(x))
	c, d := float64(real(y)), float64(imag(y))
	return complex(float64(a*c)-float64(b*d), float64(a*d)+float64(b*c))
}

// MulComplex returns a product.
func MulComplex(x, y complex64) complex64 {
	return NarrowComplex(mulLong(x, y))
}

// mulNumber returns a product that is rounded on its own.
func mulNumber(x, y float32) float32 {
	return float32(x * y)
}

// ScaleComplex returns a product with a number.
func ScaleComplex(x complex64, by float32) complex64 {
	return complex(mulNumber(real(x), by), mulNumber(imag(x), by))
}

// ConjugateOf returns the conjugate.
func ConjugateOf(x complex64) complex64 {
	return complex(real(x), -imag(x))
}

// powerLong returns the power as a 64-bit number.
func powerLong(x complex64) float64 {
	a, b := float64(real(x)), float64(imag(x))
	return float64(a*a) + float64(b*b)
}

// PowerOf returns the power.
func PowerOf(x complex64) float32 {
	return NarrowNumber(powerLong(x))
}

// LongOf returns the root of the power.
func LongOf(x complex64) float32 {
	return NarrowNumber(math.Sqrt(powerLong(x)))
}

// QuotientOf returns a quotient.
func QuotientOf(x, y complex64) complex64 {
	product, power := mulLong(x, ConjugateOf(y)), powerLong(y)
	return NarrowComplex(complex(real(product)/power, imag(product)/power))
}

// RootNumber returns the square root.
func RootNumber(x float32) float32 {
	return NarrowNumber(math.Sqrt(float64(x)))
}

// partOfTurn returns less than 2 to the power of 52 turns without the whole
// ones: a number from -0 to 1.
func partOfTurn(turns float64) float64 {
	// The integer in between has no sign at 0, which keeps -0 as it is.
	f := turns - float64(int64(turns))
	if f < 0 {
		f += 1
	}
	return f
}

// isWhole reports whether turns are so many that they have no places behind
// the point.
func isWhole(turns float64) bool {
	return math.Abs(turns) >= 1<<52
}

// sineLong returns the sine of less than 2 to the power of 52 turns.
func sineLong(turns float64) float64 {
	const fullTurn = 6.283185307179586
	f := partOfTurn(turns)
	below := f >= 0.5
	if below {
		f -= 0.5
	}
	if f > 0.25 {
		f = 0.5 - f
	}
	z := float64(f * fullTurn)
	u := float64(z * z)
	p := 1.0
	for k := 8; k >= 1; k-- {
		p = 1 - float64(u*p)/float64(2*k*(2*k+1))
	}
	if below {
		return -float64(z * p)
	}
	return float64(z * p)
}

// SineTurns returns the sine of some turns.
func SineTurns(x float32) float32 {
	turns := float64(x)
	if !isFiniteLong(turns) {
		return notNumber()
	}
	if isWhole(turns) {
		return 0
	}
	return NarrowNumber(sineLong(turns))
}

// PhasorOf returns a point of the unit circle.
func PhasorOf(turns float64) complex64 {
	if !isFiniteLong(turns) {
		return complex(notNumber(), notNumber())
	}
	if isWhole(turns) {
		return 1
	}
	f, quarters := partOfTurn(turns), 0
	for f >= 0.25 {
		f -= 0.25
		quarters++
	}
	c, s := sineLong(0.25-f), sineLong(f)
	// 0 less a part is not its opposite: 0 less +0 is +0.
	switch quarters {
	case 1:
		return NarrowComplex(complex(0-s, c))
	case 2:
		return NarrowComplex(complex(0-c, 0-s))
	case 3:
		return NarrowComplex(complex(s, 0-c))
	}
	return NarrowComplex(complex(c, s))
}

// arcOf returns the turns of the angle whose tangent is t, from 0 to 1.
func arcOf(t float64) float64 {
	const fullTurn = 6.283185307179586
	// Each time, the angle becomes half as great; 8 makes up for it.
	for range 3 {
		t = t / (1 + math.Sqrt(1+float64(t*t)))
	}
	u := float64(t * t)
	p := 0.0
	for k := 15; k >= 1; k -= 2 {
		p = 1/float64(k) - float64(u*p)
	}
	return float64(8*float64(t*p)) / fullTurn
}

// AngleTurns returns the angle of a point.
func AngleTurns(y, x float32) float32 {
	if !IsFinite(x) || !IsFinite(y) {
		return notNumber()
	}
	if x == 0 && y == 0 {
		return 0
	}
	a, b := math.Abs(float64(y)), math.Abs(float64(x))
	angle := arcOf(min(a, b) / max(a, b))
	if a > b {
		angle = 0.25 - angle
	}
	if x < 0 {
		angle = 0.5 - angle
	}
	if y < 0 {
		angle = -angle
	}
	return NarrowNumber(angle)
}

// AngleOf returns the angle in turns.
func AngleOf(x complex64) float32 {
	return AngleTurns(imag(x), real(x))
}

// logOf returns the natural logarithm of a finite number greater than 0.
func logOf(x float64) float64 {
	const logOfTwo = 0.6931471805599453
	e := 0
	for x >= 1.5 {
		x /= 2
		e++
	}
	for x < 0.75 {
		x *= 2
		e--
	}
	s := (x - 1) / (x + 1)
	u := float64(s * s)
	q := 0.0
	for k := 25; k >= 1; k -= 2 {
		q = 1/float64(k) + float64(u*q)
	}
	return float64(2*float64(s*q)) + float64(float64(e)*logOfTwo)
}

// TenthsOf returns tenths of decibels.
func TenthsOf(power float32) (int64, bool) {
	if !IsFinite(power) || power <= 0 {
		return 0, false
	}
	tenths := float64(logOf(float64(power)) * 43.42944819032518)
	return int64(math.Floor(tenths + 0.5)), true
}

// sumOf adds all numbers of a list.
func sumOf[T number](list []T) (T, bool) {
	var sum T
	if len(list) > MaxNumbers {
		return sum, false
	}
	for _, x := range list {
		sum += x
	}
	return sum, true
}

// dotOf adds the products of the numbers of two lists.
func dotOf[T number](a, b []T, product func(x, y T) T) (T, bool) {
	var sum T
	if len(a) != len(b) || len(a) > MaxNumbers {
		return sum, false
	}
	for i, x := range a {
		sum += product(x, b[i])
	}
	return sum, true
}

// SumNumbers returns the sum from left to right.
func SumNumbers(list []float32) (float32, bool) {
	return sumOf(list)
}

// DotNumbers returns the sum of products.
func DotNumbers(a, b []float32) (float32, bool) {
	return dotOf(a, b, mulNumber)
}

// SumComplex returns the sum from left to right.
func SumComplex(list []complex64) (complex64, bool) {
	return sumOf(list)
}

// DotComplex returns the sum of products.
func DotComplex(a, b []complex64) (complex64, bool) {
	return dotOf(a, b, MulComplex)
}

// mulConjugate returns the product of the conjugate of x and y.
func mulConjugate(x, y complex64) complex64 {
	return MulComplex(ConjugateOf(x), y)
}

// DotConjugate returns the sum of products with conjugates.
func DotConjugate(a, b []complex64) (complex64, bool) {
	return dotOf(a, b, mulConjugate)
}

// PowersOf returns the sum of powers.
func PowersOf(list []complex64) (float32, bool) {
	if len(list) > MaxNumbers {
		return 0, false
	}
	sum := 0.0
	for _, x := range list {
		sum += powerLong(x)
	}
	return NarrowNumber(sum), true
}

// joinItems returns the text of a list of at most most items that have texts.
func joinItems[T any](list []T, most int, itemText func(item T) (string, bool)) (string, bool) {
	if len(list) > most {
		return "", false
	}
	if len(list) == 0 {
		return "none", true
	}
	texts := make([]string, len(list))
	for i, item := range list {
		text, ok := itemText(item)
		if !ok {
			return "", false
		}
		texts[i] = text
	}
	return strings.Join(texts, ","), true
}

// splitItems returns the list of at most most items whose text is s.
func splitItems[T any](s string, most int, readItem func(text string) (T, bool)) ([]T, bool) {
	if s == "none" {
		return nil, true
	}
	count := strings.Count(s, ",") + 1
	if count > most {
		return nil, false
	}
	list := make([]T, 0, count)
	for _, text := range strings.Split(s, ",") {
		item, ok := readItem(text)
		if !ok {
			return nil, false
		}
		list = append(list, item)
	}
	return list, true
}

// numberText returns the 8 digits of a number, which each number has.
func numberText(x float32) (string, bool) {
	digits := strconv.FormatInt(BitsOf(x), 16)
	return strings.Repeat("0", 8-len(digits)) + digits, true
}

// readNumber returns the number with the given 8 digits. All not-a-numbers
// have the same digits, so others are no number's.
func readNumber(text string) (float32, bool) {
	n, err := strconv.ParseUint(text, 16, 32)
	if err != nil {
		return 0, false
	}
	x := math.Float32frombits(uint32(n))
	if digits, _ := numberText(x); digits != text {
		return 0, false
	}
	return x, true
}

// complexNumberText returns the 16 digits of a complex number.
func complexNumberText(x complex64) (string, bool) {
	a, _ := numberText(real(x))
	b, _ := numberText(imag(x))
	return a + b, true
}

// readComplexNumber returns the complex number with the given 16 digits.
func readComplexNumber(text string) (complex64, bool) {
	if len(text) != 16 {
		return 0, false
	}
	a, aOk := readNumber(text[:8])
	b, bOk := readNumber(text[8:])
	if !aOk || !bOk {
		return 0, false
	}
	return complex(a, b), true
}

// NumbersText returns the text of numbers.
func NumbersText(list []float32) (string, bool) {
	return joinItems(list, MaxNumbers, numberText)
}

// ReadNumbers returns the numbers with the given text.
func ReadNumbers(s string) ([]float32, bool) {
	return splitItems(s, MaxNumbers, readNumber)
}

// ComplexText returns the text of complex numbers.
func ComplexText(list []complex64) (string, bool) {
	return joinItems(list, MaxNumbers, complexNumberText)
}

// ReadComplex returns the complex numbers with the given text.
func ReadComplex(s string) ([]complex64, bool) {
	return splitItems(s, MaxNumbers, readComplexNumber)
}

// IsName reports whether s is a name.
func IsName(s string) bool {
	if len(s) < 1 || len(s) > 8 {
		return false
	}
	for i := range len(s) {
		if s[i] < 'a' || s[i] > 'z' {
			return false
		}
	}
	return true
}

// Decimal returns n in decimal.
func Decimal(n int64) string {
	return strconv.FormatInt(n, 10)
}

// isValue reports whether n is within the limits of the numbers in texts.
func isValue(n int64) bool {
	return -MaxValue <= n && n <= MaxValue
}

// ReadDecimal returns the number with the given decimal text.
func ReadDecimal(s string) (int64, bool) {
	n, err := strconv.ParseInt(s, 10, 64)
	// ParseInt also takes texts that are no number's Decimal, like +1 and 01.
	if err != nil || !isValue(n) || Decimal(n) != s {
		return 0, false
	}
	return n, true
}

// valueText returns the Decimal of a number within the limits.
func valueText(n int64) (string, bool) {
	if !isValue(n) {
		return "", false
	}
	return Decimal(n), true
}

// ListText returns the text of a list.
func ListText(list []int64) (string, bool) {
	return joinItems(list, MaxItems, valueText)
}

// ReadList returns the list with the given text.
func ReadList(s string) ([]int64, bool) {
	return splitItems(s, MaxItems, ReadDecimal)
}

// CheckOf returns the check number of a text.
func CheckOf(start int64, s string) (int64, bool) {
	if start < 0 || start >= CheckSize {
		return 0, false
	}
	check := start
	for i := range len(s) {
		check = (773*check + int64(s[i]) + 89) % CheckSize
	}
	return check, true
}
