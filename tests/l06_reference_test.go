package tests

import (
	"math"

	"loop.example/g01268/impl"
)

// The functions here compute what chapter 6 tells, as those for chapter 2 do.
// Angles are the program's own, as they have a reference in chapter 1.

func referenceLinks(h impl.Heap, stiff float32) ([]impl.Link, bool) {
	pairs, ok := referencePairsNear(h, 0)
	list := []impl.Link{}
	for _, p := range pairs {
		a, b := h.Grains[p[0]], h.Grains[p[1]]
		if gap := referenceGap(a, b); gap < 0 {
			way := referenceWay(a, b)
			push := scale32(way, mul32(stiff, -gap))
			ok = ok && isFiniteComplex(way) && isFiniteComplex(push)
			list = append(list, link(p[0], p[1], push))
		}
	}
	if !ok || len(list) > 64 {
		return nil, false
	}
	return list, true
}

// pushOn returns what a link pushes grain i by.
func pushOn(l impl.Link, i int64) (complex64, bool) {
	if l.A == i {
		return complex(-real(l.Push), -imag(l.Push)), true
	}
	return l.Push, l.B == i
}

func referenceCounts(b bound) []int64 {
	counts := []int64{}
	for i := range int64(len(b.heap.Grains)) {
		count := int64(0)
		for _, l := range b.links {
			if _, ok := pushOn(l, i); ok {
				count++
			}
		}
		counts = append(counts, count)
	}
	return counts
}

func referenceLinkForces(b bound, pull complex64) ([]complex64, bool) {
	forces, finite := []complex64{}, true
	for i, g := range b.heap.Grains {
		sum := addComplex32(0, scale32(pull, g.Mass))
		for _, l := range b.links {
			if push, ok := pushOn(l, int64(i)); ok {
				sum = addComplex32(sum, push)
			}
		}
		forces, finite = append(forces, sum), finite && isFiniteComplex(sum)
	}
	return forces, finite
}

// referenceWorstOff returns the first of the grains that no other one exceeds.
func referenceWorstOff(b bound, pull complex64) (int64, float32, bool) {
	forces, ok := referenceLinkForces(b, pull)
	if !ok {
		return 0, 0, false
	}
	for i, g := range b.heap.Grains {
		isWorst := !g.Held
		for k, other := range b.heap.Grains {
			isWorst = isWorst && (other.Held || long32(forces[k]) <= long32(forces[i]))
		}
		if isWorst {
			return int64(i), long32(forces[i]), isFinite(long32(forces[i]))
		}
	}
	return 0, 0, false
}

func referencePressures(b bound) []float32 {
	pressures := []float32{}
	for i, g := range b.heap.Grains {
		sum := float32(0)
		for _, l := range b.links {
			if l.A == int64(i) || l.B == int64(i) {
				sum = add32(sum, long32(l.Push))
			}
		}
		pressures = append(pressures, div32(sum, mul32(number(0x40c90fdb), g.Radius)))
	}
	return pressures
}

func referenceStress(b bound, area float32) []float32 {
	stress := []float32{}
	for _, part := range []func(d, push complex64) (float32, float32){
		func(d, push complex64) (float32, float32) { return real(d), real(push) },
		func(d, push complex64) (float32, float32) { return real(d), imag(push) },
		func(d, push complex64) (float32, float32) { return imag(d), real(push) },
		func(d, push complex64) (float32, float32) { return imag(d), imag(push) },
	} {
		sum := float32(0)
		for _, l := range b.links {
			sum = add32(sum, mul32(part(subComplex32(b.heap.Grains[l.B].At, b.heap.Grains[l.A].At), l.Push)))
		}
		stress = append(stress, div32(sum, area))
	}
	return stress
}

func referenceAxes(stress []float32) (greatest, least, turn float32) {
	m := div32(add32(stress[0], stress[3]), 2)
	w := complex(div32(sub32(stress[0], stress[3]), 2), div32(add32(stress[1], stress[2]), 2))
	return add32(m, long32(w)), sub32(m, long32(w)), div32(impl.AngleOf(w), 2)
}

func referenceFabric(b bound) (complex64, bool) {
	sum, finite := complex64(0), len(b.links) > 0
	for _, l := range b.links {
		way := referenceWay(b.heap.Grains[l.A], b.heap.Grains[l.B])
		sum = addComplex32(sum, mulComplex32(way, way))
		finite = finite && isFiniteComplex(way)
	}
	return referenceOver(sum, float32(len(b.links))), finite
}

// numbered returns numbers from 0 on for marks, in the order in which they
// come first, and how many there are. -1 stays.
func numbered(marks []int64) ([]int64, int64) {
	numbers, known := []int64{}, map[int64]int64{-1: -1}
	for _, mark := range marks {
		if _, ok := known[mark]; !ok {
			known[mark] = int64(len(known) - 1)
		}
		numbers = append(numbers, known[mark])
	}
	return numbers, int64(len(known) - 1)
}

// leastMarks makes marks that are next to one another equal, the lesser of
// both, until nothing changes.
func leastMarks(marks []int64, pairs [][2]int64) ([]int64, int64) {
	for changed := true; changed; {
		changed = false
		for _, p := range pairs {
			if least := min(marks[p[0]], marks[p[1]]); marks[p[0]] != marks[p[1]] && least >= 0 {
				marks[p[0]], marks[p[1]], changed = least, least, true
			}
		}
	}
	return numbered(marks)
}

func referenceIslands(b bound) ([]int64, int64) {
	marks, pairs := []int64{}, [][2]int64{}
	for i := range b.heap.Grains {
		marks = append(marks, int64(i))
	}
	for _, l := range b.links {
		pairs = append(pairs, [2]int64{l.A, l.B})
	}
	return leastMarks(marks, pairs)
}

// referenceAhead tells how far the grain k lies ahead of i.
func referenceAhead(h impl.Heap, i, k int64, way complex64) (float32, bool) {
	w := referenceWay(h.Grains[i], h.Grains[k])
	return real(mulComplex32(w, complex(real(way), -imag(way)))), isFiniteComplex(w)
}

func referenceChain(b bound, start int64, way complex64) ([]int64, bool) {
	chain, in := []int64{start}, map[int64]bool{start: true}
	for last := start; last >= 0; {
		next, greatest := int64(-1), float32(-1)
		for _, l := range b.links {
			other := l.A + l.B - last
			if l.A != last && l.B != last || in[other] {
				continue
			}
			ahead, ok := referenceAhead(b.heap, last, other, way)
			if !ok {
				return nil, false
			}
			if ahead > 0 && long32(l.Push) > greatest {
				next, greatest = other, long32(l.Push)
			}
		}
		if last = next; next >= 0 {
			chain, in[next] = append(chain, next), true
		}
	}
	return chain, true
}

func referenceBins(list []impl.Link, width float32, count int64) []int64 {
	bins := make([]int64, count)
	for _, l := range list {
		for k := range bins {
			if q := div32(long32(l.Push), width); q >= float32(k) && q < float32(k+1) {
				bins[k]++
			}
		}
	}
	return bins
}

func referenceCover(h impl.Heap, corner complex64, cell float32, wide, high, parts int64) impl.View {
	v := impl.View{Wide: wide, High: high}
	along := func(corner float32, x, a int64) float32 {
		return add32(corner, mul32(cell, add32(float32(x), div32(float32(2*a+1), float32(2*parts)))))
	}
	for y := range high {
		for x := range wide {
			inside := 0
			for n := range parts * parts {
				point := complex(along(real(corner), x, n%parts), along(imag(corner), y, n/parts))
				lies := 0
				for _, g := range h.Grains {
					if long32(subComplex32(point, g.At)) <= g.Radius {
						lies = 1
					}
				}
				inside += lies
			}
			v.Values = append(v.Values, div32(float32(inside), float32(parts*parts)))
		}
	}
	return v
}

func referenceMasses(h impl.Heap, corner complex64, cell float32, wide, high int64) (impl.View, bool) {
	v := impl.View{Wide: wide, High: high}
	finite := true
	isIn := func(x float32, k int64) bool {
		return math.Floor(float64(div32(x, cell))) == float64(k)
	}
	for y := range high {
		for x := range wide {
			sum := float32(0)
			for _, g := range h.Grains {
				if d := subComplex32(g.At, corner); isIn(real(d), x) && isIn(imag(d), y) {
					sum = add32(sum, g.Mass)
				}
			}
			v.Values, finite = append(v.Values, sum), finite && isFinite(sum)
		}
	}
	return v, finite
}

func referenceMean(v impl.View) float32 {
	sum := float32(0)
	for _, x := range v.Values {
		sum = add32(sum, x)
	}
	return div32(sum, float32(len(v.Values)))
}

func referenceVoids(v impl.View, level float32) ([]int64, int64) {
	marks, pairs := []int64{}, [][2]int64{}
	for i, x := range v.Values {
		marks = append(marks, -1)
		if x < level {
			marks[i] = int64(i)
		}
		for k := range i {
			sameRow, sameColumn := int64(i)/v.Wide == int64(k)/v.Wide, int64(i)%v.Wide == int64(k)%v.Wide
			if sameRow && i-k == 1 || sameColumn && int64(i-k) == v.Wide {
				pairs = append(pairs, [2]int64{int64(k), int64(i)})
			}
		}
	}
	return leastMarks(marks, pairs)
}

func referenceTops(h impl.Heap, from, step float32, count int64) ([]float32, bool) {
	tops := []float32{}
	for k := range count {
		low, high := add32(from, mul32(float32(k), step)), add32(from, mul32(float32(k+1), step))
		top := float32(math.Inf(-1))
		for _, g := range h.Grains {
			if real(g.At) >= low && real(g.At) < high {
				top = max(top, add32(imag(g.At), g.Radius))
			}
		}
		if top == inf(-1) {
			top = 0
		}
		tops = append(tops, top)
	}
	return tops, isFinite(tops...)
}
