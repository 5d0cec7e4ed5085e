package tests

import (
	"math"

	"loop.example/g01268/impl"
)

// The functions here compute what chapter 7 tells, as those for chapter 2 do.
// Angles are the program's own, as they have a reference in chapter 1.

func referenceStretch(h impl.Heap, b impl.Bond) float32 {
	return sub32(long32(subComplex32(h.Grains[b.B].At, h.Grains[b.A].At)), b.Long)
}

func referenceBonds(h impl.Heap, near, strength float32) ([]impl.Bond, bool) {
	pairs, ok := referencePairsNear(h, near)
	list := []impl.Bond{}
	for _, p := range pairs {
		long := long32(subComplex32(h.Grains[p[1]].At, h.Grains[p[0]].At))
		ok = ok && isFinite(long) && long > 0
		list = append(list, bond(p[0], p[1], long, strength))
	}
	return list, ok && len(list) <= 72
}

func referenceBondForce(h impl.Heap, b impl.Bond, stiff, loss float32) (float32, bool) {
	along, across := referenceSlide(h.Grains[b.A], h.Grains[b.B])
	stretch := referenceStretch(h, b)
	force := add32(mul32(stiff, stretch), mul32(loss, along))
	return force, isFinite(stretch, along, across, force)
}

// referenceLoads returns what bonds bear, and whether all have a stretch.
func referenceLoads(c tied, stiff float32) ([]float32, bool) {
	loads, ok := []float32{}, true
	for _, b := range c.list {
		stretch := referenceStretch(c.heap, b)
		ok = ok && isFinite(stretch)
		loads = append(loads, float32(math.Abs(float64(mul32(stiff, stretch)))))
	}
	return loads, ok
}

func referenceSnap(c tied, stiff float32) (kept []impl.Bond, snapped int64, ok bool) {
	loads, ok := referenceLoads(c, stiff)
	for n, load := range loads {
		if load > c.list[n].Strength {
			snapped++
		} else {
			kept = append(kept, c.list[n])
		}
	}
	return kept, snapped, ok
}

// referenceWeakest returns the first of the bonds that no other one exceeds.
func referenceWeakest(c tied, stiff float32) (int64, float32, bool) {
	loads, ok := referenceLoads(c, stiff)
	if !ok {
		return 0, 0, false
	}
	for n, b := range c.list {
		over, isWeakest := sub32(loads[n], b.Strength), true
		for m, other := range c.list {
			isWeakest = isWeakest && sub32(loads[m], other.Strength) <= over
		}
		if isWeakest {
			return int64(n), over, isFinite(over)
		}
	}
	return 0, 0, false
}

// referenceBondForces adds what pulls each grain, one grain after another.
func referenceBondForces(c tied, stiff, loss float32) ([]complex64, bool) {
	forces, ok := []complex64{}, true
	for i := range int64(len(c.heap.Grains)) {
		sum := complex64(0)
		for _, b := range c.list {
			force, hasForce := referenceBondForce(c.heap, b, stiff, loss)
			f := scale32(referenceWay(c.heap.Grains[b.A], c.heap.Grains[b.B]), force)
			switch i {
			case b.A:
				sum = addComplex32(sum, f)
			case b.B:
				sum = subComplex32(sum, f)
			}
			ok = ok && hasForce
		}
		forces, ok = append(forces, sum), ok && isFiniteComplex(sum)
	}
	return forces, ok
}

func referenceBondEnergy(c tied, stiff float32) (float32, bool) {
	sum, ok := float32(0), true
	for _, b := range c.list {
		stretch := referenceStretch(c.heap, b)
		sum, ok = add32(sum, mul32(0.5, stiff, stretch, stretch)), ok && isFinite(stretch)
	}
	return sum, ok && isFinite(sum)
}

// pulling is how steps with bonds are made.
type pulling struct {
	stiff, loss float32
	pull        complex64
	tick        float32
}

func referenceBondStep(c tied, p pulling) (next tied, snapped int64, ok bool) {
	kept, snapped, ok := referenceSnap(c, p.stiff)
	if !ok {
		return tied{}, 0, false
	}
	forces, ok := referenceBondForces(tied{c.heap, kept}, p.stiff, p.loss)
	next.list = kept
	for i, g := range c.heap.Grains {
		if !g.Held {
			g.Speed = addComplex32(g.Speed, scale32(addComplex32(p.pull, scale32(forces[i], div32(1, g.Mass))), p.tick))
		}
		g = referenceFlight(g, 0, p.tick)
		next.heap.Grains, ok = append(next.heap.Grains, g), ok && isGrain(g)
	}
	return next, snapped, ok
}

func referenceBondRun(c tied, p pulling, steps int64) (tied, []int64, bool) {
	counts := []int64{}
	for range steps {
		next, snapped, ok := referenceBondStep(c, p)
		if !ok {
			return tied{}, nil, false
		}
		c, counts = next, append(counts, snapped)
	}
	return c, counts, true
}

func referenceCut(c tied, at, way complex64) (kept []impl.Bond, cut int64) {
	side := func(i int64) float32 {
		return imag(mulComplex32(subComplex32(c.heap.Grains[i].At, at), complex(real(way), -imag(way))))
	}
	for _, b := range c.list {
		low, high := min(side(b.A), side(b.B)), max(side(b.A), side(b.B))
		if low < 0 && 0 < high {
			cut++
		} else {
			kept = append(kept, b)
		}
	}
	return kept, cut
}

// referenceBends returns the bonds of a grain, and how they bend.
func referenceBends(c tied, i int64) (which []int64, bends []float32, ok bool) {
	ok = true
	former := complex64(0)
	for n, b := range c.list {
		if b.A != i && b.B != i {
			continue
		}
		way := referenceWay(c.heap.Grains[i], c.heap.Grains[b.A+b.B-i])
		if len(which) > 0 {
			bends = append(bends, impl.AngleOf(mulComplex32(way, complex(real(former), -imag(former)))))
		}
		former, which, ok = way, append(which, int64(n)), ok && isFiniteComplex(way)
	}
	return which, bends, ok
}

func referencePieces(c tied) ([]int64, int64) {
	marks, pairs := []int64{}, [][2]int64{}
	for i := range c.heap.Grains {
		marks = append(marks, int64(i))
	}
	for _, b := range c.list {
		pairs = append(pairs, [2]int64{b.A, b.B})
	}
	return leastMarks(marks, pairs)
}

// referenceLargest returns the first of the pieces that no other one exceeds.
func referenceLargest(c tied) (int64, int64, bool) {
	pieces, count := referencePieces(c)
	for most := int64(len(pieces)); most > 0; most-- {
		for n := range count {
			size := int64(0)
			for _, piece := range pieces {
				if piece == n {
					size++
				}
			}
			if size == most {
				return n, most, true
			}
		}
	}
	return 0, 0, false
}

// referencePiece returns a piece, whose bonds are searched for anew.
func referencePiece(c tied, n int64) tied {
	pieces, _ := referencePieces(c)
	part, from := tied{}, []int64{}
	for i, g := range c.heap.Grains {
		if pieces[i] == n {
			part.heap.Grains, from = append(part.heap.Grains, g), append(from, int64(i))
		}
	}
	for a := range from {
		for k := range from {
			for _, b := range c.list {
				if b.A == from[a] && b.B == from[k] {
					part.list = append(part.list, bond(int64(a), int64(k), b.Long, b.Strength))
				}
			}
		}
	}
	return part
}

func referenceWater(h impl.Heap, pull, reach float32, i, k int64) (float32, bool) {
	gap := referenceGap(h.Grains[i], h.Grains[k])
	switch {
	case gap <= 0:
		return pull, isFinite(gap)
	case gap >= reach:
		return 0, isFinite(gap)
	}
	return mul32(pull, sub32(1, div32(gap, reach))), isFinite(gap)
}

// referenceWaterForces adds what pulls each grain, one grain after another: in
// order, those before it come first.
func referenceWaterForces(h impl.Heap, pull, reach float32) ([]complex64, bool) {
	forces, ok := []complex64{}, true
	for i := range int64(len(h.Grains)) {
		sum := complex64(0)
		for k := range int64(len(h.Grains)) {
			if i == k {
				continue
			}
			first, second := min(i, k), max(i, k)
			water, hasGap := referenceWater(h, pull, reach, first, second)
			if ok = ok && hasGap; water == 0 {
				continue
			}
			f := scale32(referenceWay(h.Grains[first], h.Grains[second]), water)
			if i == first {
				sum = addComplex32(sum, f)
			} else {
				sum = subComplex32(sum, f)
			}
		}
		forces, ok = append(forces, sum), ok && isFiniteComplex(sum)
	}
	return forces, ok
}
