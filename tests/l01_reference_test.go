package tests

import "math/big"

// The functions here compute what the document tells, with numbers of the
// package math/big that have 53 bits, so that each operation is rounded on
// its own, whatever the machine does.

func exactly(x float64) *big.Float {
	return new(big.Float).SetPrec(53).SetFloat64(x)
}

func plus(a, b *big.Float) *big.Float {
	return new(big.Float).SetPrec(53).Add(a, b)
}

func less(a, b *big.Float) *big.Float {
	return new(big.Float).SetPrec(53).Sub(a, b)
}

func times(a, b *big.Float) *big.Float {
	return new(big.Float).SetPrec(53).Mul(a, b)
}

func over(a, b *big.Float) *big.Float {
	return new(big.Float).SetPrec(53).Quo(a, b)
}

func root(a *big.Float) *big.Float {
	return new(big.Float).SetPrec(53).Sqrt(a)
}

func opposite(a *big.Float) *big.Float {
	return new(big.Float).SetPrec(53).Neg(a)
}

func isAtLeast(a *big.Float, b float64) bool {
	return a.Cmp(big.NewFloat(b)) >= 0
}

func narrowed(a *big.Float) float32 {
	x, _ := a.Float32()
	return x
}

func referenceProduct(x, y complex64) (*big.Float, *big.Float) {
	a, b := exactly(float64(real(x))), exactly(float64(imag(x)))
	c, d := exactly(float64(real(y))), exactly(float64(imag(y)))
	return less(times(a, c), times(b, d)), plus(times(a, d), times(b, c))
}

func referencePower(x complex64) *big.Float {
	a, b := exactly(float64(real(x))), exactly(float64(imag(x)))
	return plus(times(a, a), times(b, b))
}

func referencePart(turns float64) *big.Float {
	whole, _ := big.NewFloat(turns).Int64()
	f := less(exactly(turns), exactly(float64(whole)))
	if f.Sign() < 0 {
		f = plus(f, exactly(1))
	}
	return f
}

func referenceSine(turns float64) *big.Float {
	f := referencePart(turns)
	turned := isAtLeast(f, 0.5)
	if turned {
		f = less(f, exactly(0.5))
	}
	if f.Cmp(exactly(0.25)) > 0 {
		f = less(exactly(0.5), f)
	}
	z := times(f, exactly(6.283185307179586))
	u := times(z, z)
	p := exactly(1)
	for k := 8; k > 0; k-- {
		p = less(exactly(1), over(times(u, p), exactly(float64(2*k*(2*k+1)))))
	}
	if turned {
		return opposite(times(z, p))
	}
	return times(z, p)
}

func referencePhasor(turns float64) complex64 {
	f, q := referencePart(turns), 0
	for isAtLeast(f, 0.25) {
		f = less(f, exactly(0.25))
		q++
	}
	part, _ := f.Float64()
	rest, _ := less(exactly(0.25), f).Float64()
	c, s, zero := referenceSine(rest), referenceSine(part), exactly(0)
	switch q {
	case 1:
		return complex(narrowed(less(zero, s)), narrowed(c))
	case 2:
		return complex(narrowed(less(zero, c)), narrowed(less(zero, s)))
	case 3:
		return complex(narrowed(s), narrowed(less(zero, c)))
	}
	return complex(narrowed(c), narrowed(s))
}

func referenceAngle(y, x float32) float32 {
	a, b := exactly(float64(y)), exactly(float64(x))
	a.Abs(a)
	b.Abs(b)
	steep := a.Cmp(b) > 0
	if steep {
		a, b = b, a
	}
	t := over(a, b)
	for range 3 {
		t = over(t, plus(exactly(1), root(plus(exactly(1), times(t, t)))))
	}
	u := times(t, t)
	p := exactly(0)
	for k := 15; k > 0; k -= 2 {
		p = less(over(exactly(1), exactly(float64(k))), times(u, p))
	}
	angle := over(times(exactly(8), times(t, p)), exactly(6.283185307179586))
	if steep {
		angle = less(exactly(0.25), angle)
	}
	if x < 0 {
		angle = less(exactly(0.5), angle)
	}
	if y < 0 {
		angle = opposite(angle)
	}
	return narrowed(angle)
}

func referenceTenths(power float32) int64 {
	x, e := exactly(float64(power)), 0
	for isAtLeast(x, 1.5) {
		x, e = over(x, exactly(2)), e+1
	}
	for !isAtLeast(x, 0.75) {
		x, e = times(x, exactly(2)), e-1
	}
	s := over(less(x, exactly(1)), plus(x, exactly(1)))
	u := times(s, s)
	q := exactly(0)
	for k := 25; k > 0; k -= 2 {
		q = plus(over(exactly(1), exactly(float64(k))), times(u, q))
	}
	l := plus(times(exactly(2), times(s, q)), times(exactly(float64(e)), exactly(0.6931471805599453)))
	tenths := plus(times(l, exactly(43.42944819032518)), exactly(0.5))
	n, _ := tenths.Int64()
	if exactly(float64(n)).Cmp(tenths) > 0 {
		n--
	}
	return n
}
