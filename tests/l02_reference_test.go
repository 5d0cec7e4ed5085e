package tests

import (
	"math"
	"math/rand"

	"loop.example/g01268/impl"
)

// The functions here compute what chapter 2 tells. Each operation on two
// 32-bit numbers is made with 64-bit ones and narrowed: the result is the
// 32-bit operation's, and no product is fused with a sum.

func add32(a, b float32) float32 {
	return float32(float64(a) + float64(b))
}

func sub32(a, b float32) float32 {
	return float32(float64(a) - float64(b))
}

func mul32(list ...float32) float32 {
	product := list[0]
	for _, x := range list[1:] {
		product = float32(float64(product) * float64(x))
	}
	return product
}

func div32(a, b float32) float32 {
	return float32(float64(a) / float64(b))
}

func addComplex32(a, b complex64) complex64 {
	return complex(add32(real(a), real(b)), add32(imag(a), imag(b)))
}

func subComplex32(a, b complex64) complex64 {
	return complex(sub32(real(a), real(b)), sub32(imag(a), imag(b)))
}

func scale32(a complex64, by float32) complex64 {
	return complex(mul32(real(a), by), mul32(imag(a), by))
}

// power64 adds two products that are exact.
func power64(x complex64) float64 {
	a, b := float64(real(x)), float64(imag(x))
	return float64(a*a) + float64(b*b)
}

func long32(x complex64) float32 {
	return float32(math.Sqrt(power64(x)))
}

func referenceGap(a, b impl.Grain) float32 {
	return sub32(long32(subComplex32(b.At, a.At)), add32(a.Radius, b.Radius))
}

// referenceOver divides by a real number as the document tells: the product
// of x and the conjugate of y + 0 i, divided by the power of y.
func referenceOver(x complex64, y float32) complex64 {
	a, b, c, d := float64(real(x)), float64(imag(x)), float64(y), math.Copysign(0, -1)
	p := float64(c * c)
	return complex(float32((float64(a*c)-float64(b*d))/p), float32((float64(a*d)+float64(b*c))/p))
}

func referenceWay(a, b impl.Grain) complex64 {
	way := subComplex32(b.At, a.At)
	return referenceOver(way, long32(way))
}

func referenceSlide(a, b impl.Grain) (float32, float32) {
	d, w := subComplex32(b.Speed, a.Speed), referenceWay(a, b)
	p, q, r, s := float64(real(d)), float64(imag(d)), float64(real(w)), -float64(imag(w))
	along, across := float32(float64(p*r)-float64(q*s)), float32(float64(p*s)+float64(q*r))
	return along, sub32(across, add32(mul32(a.Spin, a.Radius), mul32(b.Spin, b.Radius)))
}

func isFinite(numbers ...float32) bool {
	for _, x := range numbers {
		if x-x != 0 {
			return false
		}
	}
	return true
}

// referencePairs returns the pairs that are near of those that are asked.
func referencePairs(h impl.Heap, near float32, asked func(i, k int) bool) ([][]int64, bool) {
	pairs := [][]int64{}
	for i := range h.Grains {
		for k := i + 1; k < len(h.Grains); k++ {
			if !asked(i, k) {
				continue
			}
			gap := referenceGap(h.Grains[i], h.Grains[k])
			if !isFinite(gap) {
				return nil, false
			}
			if gap <= near {
				pairs = append(pairs, []int64{int64(i), int64(k)})
			}
		}
	}
	return pairs, true
}

func referencePairsNear(h impl.Heap, near float32) ([][]int64, bool) {
	return referencePairs(h, near, func(i, k int) bool { return true })
}

func areNeighbours(x, y, side float32) bool {
	return math.Abs(math.Floor(float64(div32(x, side)))-math.Floor(float64(div32(y, side)))) <= 1
}

func isTooFar(x, side float32) bool {
	return math.Abs(float64(div32(x, side))) > 1000000
}

func referencePairsByCells(h impl.Heap, near, side float32) ([][]int64, bool) {
	if !isFinite(near, side) || near < 0 || side <= 0 {
		return nil, false
	}
	for _, g := range h.Grains {
		if add32(near, mul32(2, g.Radius)) > side || isTooFar(real(g.At), side) || isTooFar(imag(g.At), side) {
			return nil, false
		}
	}
	return referencePairs(h, near, func(i, k int) bool {
		a, b := h.Grains[i].At, h.Grains[k].At
		return areNeighbours(real(a), real(b), side) && areNeighbours(imag(a), imag(b), side)
	})
}

func referenceFlight(g impl.Grain, pull complex64, tick float32) impl.Grain {
	if !g.Held {
		g.Speed = addComplex32(g.Speed, scale32(pull, tick))
		g.At = addComplex32(g.At, scale32(g.Speed, tick))
		g.Turn = add32(g.Turn, div32(mul32(g.Spin, tick), number(0x40c90fdb)))
	}
	return g
}

func referenceEnergy(h impl.Heap, pull complex64) float32 {
	sum := float32(0)
	for _, g := range h.Grains {
		moving := mul32(0.5, g.Mass, float32(power64(g.Speed)))
		turning := mul32(0.25, g.Mass, g.Radius, g.Radius, g.Spin, g.Spin)
		p := add32(mul32(real(pull), real(g.At)), mul32(imag(pull), imag(g.At)))
		sum = add32(sum, sub32(add32(moving, turning), mul32(g.Mass, p)))
	}
	return sum
}

func referenceTurning(h impl.Heap) float32 {
	sum := float32(0)
	for _, g := range h.Grains {
		around := sub32(mul32(real(g.At), imag(g.Speed)), mul32(imag(g.At), real(g.Speed)))
		sum = add32(sum, add32(mul32(g.Mass, around), mul32(0.5, g.Mass, g.Radius, g.Radius, g.Spin)))
	}
	return sum
}

// referenceTotals returns the mass, the momentum, and the sum of all places,
// each with its mass.
func referenceTotals(h impl.Heap) (mass float32, momentum, weighed complex64) {
	for _, g := range h.Grains {
		mass = add32(mass, g.Mass)
		momentum = addComplex32(momentum, scale32(g.Speed, g.Mass))
		weighed = addComplex32(weighed, scale32(g.At, g.Mass))
	}
	return mass, momentum, weighed
}

func referenceBox(h impl.Heap) (low, high complex64) {
	first := h.Grains[0]
	left, right := sub32(real(first.At), first.Radius), add32(real(first.At), first.Radius)
	below, above := sub32(imag(first.At), first.Radius), add32(imag(first.At), first.Radius)
	for _, g := range h.Grains {
		left, right = min(left, sub32(real(g.At), g.Radius)), max(right, add32(real(g.At), g.Radius))
		below, above = min(below, sub32(imag(g.At), g.Radius)), max(above, add32(imag(g.At), g.Radius))
	}
	return complex(left, below), complex(right, above)
}

// someNumber returns a number of usual size, whose last bits matter.
func someNumber(source *rand.Rand, size float64) float32 {
	return float32(source.NormFloat64() * size)
}

func somePoint(source *rand.Rand, size float64) complex64 {
	return complex(someNumber(source, size), someNumber(source, size))
}

// someGrain returns a valid grain.
func someGrain(source *rand.Rand, size float64) impl.Grain {
	return impl.Grain{
		At: somePoint(source, size), Speed: somePoint(source, 3),
		Radius: float32(0.1 + source.Float64()), Mass: float32(0.01 + 5*source.Float64()),
		Turn: someNumber(source, 1), Spin: someNumber(source, 2), Held: source.Intn(4) == 0,
	}
}

func someHeap(source *rand.Rand, count int, size float64) impl.Heap {
	grains := make([]impl.Grain, count)
	for i := range grains {
		grains[i] = someGrain(source, size)
	}
	return impl.Heap{Grains: grains}
}

// someHeaps returns heaps of all counts and many sizes, always the same ones.
func someHeaps() []impl.Heap {
	source := rand.New(rand.NewSource(2))
	heaps := []impl.Heap{}
	for count := range impl.MaxGrains + 1 {
		for _, size := range []float64{0.1, 2, 5, 1e4, 1e18, 3e19, 1e38} {
			heaps = append(heaps, someHeap(source, count, size))
		}
	}
	return heaps
}
