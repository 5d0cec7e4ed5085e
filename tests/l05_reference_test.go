package tests

import (
	"math"

	"loop.example/g01268/impl"
)

// The functions here compute what chapter 5 tells, as those for chapter 2 do.
// Each of them makes a heap of its own, and no knock is solved in place.

func referenceWeight(h impl.Heap, i, k int64) float32 {
	weights := [2]float32{}
	for n, g := range []impl.Grain{h.Grains[i], h.Grains[k]} {
		if !g.Held {
			weights[n] = div32(1, g.Mass)
		}
	}
	return add32(weights[0], weights[1])
}

func referenceNeed(h impl.Heap, i, k int64, lean, tick float32) float32 {
	gap := referenceGap(h.Grains[i], h.Grains[k])
	if gap >= 0 {
		return -div32(gap, tick)
	}
	return mul32(lean, -div32(gap, tick))
}

func isGrain(g impl.Grain) bool {
	return isFiniteComplex(g.At) && isFiniteComplex(g.Speed) && isFinite(g.Radius, g.Mass, g.Turn, g.Spin) && g.Radius > 0 && g.Mass > 0
}

func referenceHit(h impl.Heap, i, k int64, push, rub float32) (impl.Heap, bool) {
	w := referenceWay(h.Grains[i], h.Grains[k])
	f := addComplex32(scale32(w, push), scale32(complex(-imag(w), real(w)), rub))
	hit := impl.Heap{}
	for n, g := range h.Grains {
		weight, spin := float32(0), g.Spin
		if !g.Held {
			weight, spin = div32(1, g.Mass), sub32(g.Spin, div32(mul32(2, rub), mul32(g.Mass, g.Radius)))
		}
		switch int64(n) {
		case i:
			g.Speed, g.Spin = subComplex32(g.Speed, scale32(f, weight)), spin
		case k:
			g.Speed, g.Spin = addComplex32(g.Speed, scale32(f, weight)), spin
		}
		if !isGrain(g) {
			return impl.Heap{}, false
		}
		hit.Grains = append(hit.Grains, g)
	}
	return hit, isFiniteComplex(w) && isFinite(push, rub)
}

func referenceWarmHeap(h impl.Heap, list []impl.Knock) (impl.Heap, bool) {
	for _, n := range list {
		var ok bool
		if h, ok = referenceHit(h, n.A, n.B, n.Push, n.Rub); !ok {
			return impl.Heap{}, false
		}
	}
	return h, true
}

// referenceSolve solves one knock.
func referenceSolve(h impl.Heap, n impl.Knock, m manner) (impl.Heap, impl.Knock, bool) {
	g := referenceWeight(h, n.A, n.B)
	if g == 0 {
		return h, n, true
	}
	x, across := referenceSlide(h.Grains[n.A], h.Grains[n.B])
	need := referenceNeed(h, n.A, n.B, m.lean, m.tick)
	p := add32(n.Push, div32(sub32(need, x), g))
	if !isFinite(g, x, across, need, p) {
		return impl.Heap{}, impl.Knock{}, false
	}
	if !(p > 0) {
		p = 0
	}
	pushed, ok := referenceHit(h, n.A, n.B, sub32(p, n.Push), 0)
	if !ok {
		return impl.Heap{}, impl.Knock{}, false
	}
	along, y := referenceSlide(pushed.Grains[n.A], pushed.Grains[n.B])
	most := mul32(m.rub, p)
	q := sub32(n.Rub, div32(y, mul32(3, g)))
	switch {
	case q > most:
		q = most
	case q < -most:
		q = -most
	}
	if !isFinite(along, y, q) {
		return impl.Heap{}, impl.Knock{}, false
	}
	rubbed, ok := referenceHit(pushed, n.A, n.B, 0, sub32(q, n.Rub))
	return rubbed, knock(n.A, n.B, p, q), ok
}

// referenceRounds solves knocks in an order.
func referenceRounds(h impl.Heap, list []impl.Knock, m manner, rounds int64, order []int) (impl.Heap, []impl.Knock, bool) {
	solved := append([]impl.Knock{}, list...)
	for range rounds {
		for _, n := range order {
			var ok bool
			if h, solved[n], ok = referenceSolve(h, solved[n], m); !ok {
				return impl.Heap{}, nil, false
			}
		}
	}
	return h, solved, true
}

func ascending(count int) []int {
	order := []int{}
	for n := range count {
		order = append(order, n)
	}
	return order
}

// referenceColours keeps the colours of each grain.
func referenceColours(list []impl.Knock) (colours []int64, order []int) {
	taken := map[[2]int64]bool{}
	most := int64(-1)
	for _, n := range list {
		colour := int64(0)
		for taken[[2]int64{n.A, colour}] || taken[[2]int64{n.B, colour}] {
			colour++
		}
		taken[[2]int64{n.A, colour}], taken[[2]int64{n.B, colour}] = true, true
		colours, most = append(colours, colour), max(most, colour)
	}
	for colour := int64(0); colour <= most; colour++ {
		for n := range list {
			if colours[n] == colour {
				order = append(order, n)
			}
		}
	}
	return colours, order
}

func referenceKnocks(h impl.Heap, near float32) ([]impl.Knock, bool) {
	pairs, ok := referencePairsNear(h, near)
	if !ok || len(pairs) > 72 || !isFinite(near) {
		return nil, false
	}
	list := []impl.Knock{}
	for _, p := range pairs {
		list = append(list, knock(p[0], p[1], 0, 0))
	}
	return list, true
}

func referenceWarm(h impl.Heap, list []impl.Knock, near, keep float32) ([]impl.Knock, bool) {
	warm, ok := referenceKnocks(h, near)
	for n := range warm {
		for _, old := range list {
			if old.A == warm[n].A && old.B == warm[n].B {
				warm[n].Push, warm[n].Rub = mul32(old.Push, keep), mul32(old.Rub, keep)
			}
		}
	}
	return warm, ok
}

// referenceMiss returns how much knocks miss, finite or not.
func referenceMiss(c collision) (float32, bool) {
	worst := float32(0)
	for _, n := range c.list {
		weight := referenceWeight(c.heap, n.A, n.B)
		if weight == 0 {
			continue
		}
		need := referenceNeed(c.heap, n.A, n.B, c.lean, c.tick)
		along, across := referenceSlide(c.heap.Grains[n.A], c.heap.Grains[n.B])
		if !isFinite(weight, need, along, across) {
			return 0, false
		}
		if miss := sub32(need, along); miss > worst {
			worst = miss
		}
	}
	return worst, isFinite(worst)
}

func referenceCone(c collision) float32 {
	worst := float32(0)
	for _, n := range c.list {
		if miss := sub32(float32(math.Abs(float64(n.Rub))), mul32(c.rub, n.Push)); miss > worst {
			worst = miss
		}
	}
	return worst
}

// motion is how steps with knocks are made.
type motion struct {
	pull   complex64
	near   float32
	rounds int64
}

func referenceKnockStep(c collision, m motion) (impl.Heap, []impl.Knock, bool) {
	warm, ok := referenceWarm(c.heap, c.list, m.near, 1)
	if !ok {
		return impl.Heap{}, nil, false
	}
	h := impl.Heap{}
	for _, g := range c.heap.Grains {
		if !g.Held {
			g.Speed = addComplex32(g.Speed, scale32(m.pull, c.tick))
		}
		h.Grains = append(h.Grains, g)
	}
	if h, ok = referenceWarmHeap(h, warm); !ok {
		return impl.Heap{}, nil, false
	}
	h, list, ok := referenceRounds(h, warm, c.manner, m.rounds, ascending(len(warm)))
	next := impl.Heap{}
	for _, g := range h.Grains {
		g = referenceFlight(g, 0, c.tick)
		ok = ok && isGrain(g)
		next.Grains = append(next.Grains, g)
	}
	if !ok {
		return impl.Heap{}, nil, false
	}
	return next, list, true
}

func referenceKnockRun(c collision, m motion, steps int64) (impl.Heap, []impl.Knock, bool) {
	for range steps {
		var ok bool
		if c.heap, c.list, ok = referenceKnockStep(c, m); !ok {
			return impl.Heap{}, nil, false
		}
	}
	return c.heap, c.list, true
}
