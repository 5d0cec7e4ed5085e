package tests

import (
	"math"

	"loop.example/g01268/impl"
)

// The functions here compute what chapter 3 tells, as those for chapter 2 do.

func referencePush(r impl.Rules, a, b impl.Grain) (float32, bool) {
	gap := referenceGap(a, b)
	if !isFinite(gap) || gap > 0 {
		return 0, isFinite(gap)
	}
	along, across := referenceSlide(a, b)
	push := -add32(mul32(r.Stiff, gap), mul32(r.Loss, along))
	if !isFinite(along, across, push) {
		return 0, false
	}
	if push > 0 {
		return push, true
	}
	return 0, true
}

// referenceRub returns how a touch rubs, and the most that it may.
func referenceRub(h impl.Heap, r impl.Rules, t impl.Touch) (rub, most float32, ok bool) {
	push, ok := referencePush(r, h.Grains[t.A], h.Grains[t.B])
	most = mul32(r.Rub, push)
	rub = -mul32(r.Grip, t.Slide)
	switch {
	case rub > most:
		rub = most
	case rub < -most:
		rub = -most
	}
	return rub, most, ok && isFinite(rub)
}

func referenceShare(h impl.Heap, r impl.Rules, t impl.Touch) (float32, bool) {
	rub, most, ok := referenceRub(h, r, t)
	if most == 0 {
		return 0, ok
	}
	return float32(math.Abs(float64(div32(rub, most)))), ok
}

func referenceTouches(h impl.Heap) ([]impl.Touch, bool) {
	pairs, ok := referencePairsNear(h, 0)
	if !ok || len(pairs) > 72 {
		return nil, false
	}
	list := []impl.Touch{}
	for _, p := range pairs {
		list = append(list, touch(p[0], p[1], 0))
	}
	return list, true
}

func referenceSlideBehind(h impl.Heap, r impl.Rules, t impl.Touch, tick float32) (float32, bool) {
	along, across := referenceSlide(h.Grains[t.A], h.Grains[t.B])
	slide := add32(t.Slide, mul32(tick, across))
	if r.Grip > 0 {
		_, most, ok := referenceRub(h, r, touch(t.A, t.B, 0))
		if !ok {
			return 0, false
		}
		size, sign := slide, float32(1)
		if slide < 0 {
			size, sign = -slide, -1
		}
		if mul32(r.Grip, size) > most {
			slide = mul32(sign, div32(most, r.Grip))
		}
	}
	return slide, isFinite(along, across, slide)
}

func referenceRubTouches(h impl.Heap, r impl.Rules, list []impl.Touch, tick float32) ([]impl.Touch, bool) {
	behind, ok := referenceTouches(h)
	if !ok {
		return nil, false
	}
	for n, t := range behind {
		for _, before := range list {
			if before.A == t.A && before.B == t.B {
				t = before
			}
		}
		if behind[n].Slide, ok = referenceSlideBehind(h, r, t, tick); !ok {
			return nil, false
		}
	}
	return behind, true
}

func referenceForces(h impl.Heap, r impl.Rules, list []impl.Touch) ([]complex64, []float32, bool) {
	forces, torques := make([]complex64, len(h.Grains)), make([]float32, len(h.Grains))
	for _, t := range list {
		a, b := h.Grains[t.A], h.Grains[t.B]
		w := referenceWay(a, b)
		push, pushOk := referencePush(r, a, b)
		rub, _, rubOk := referenceRub(h, r, t)
		if !isFiniteComplex(w) || !pushOk || !rubOk {
			return nil, nil, false
		}
		f := addComplex32(scale32(w, push), scale32(complex(-imag(w), real(w)), rub))
		forces[t.B] = addComplex32(forces[t.B], f)
		forces[t.A] = subComplex32(forces[t.A], f)
		torques[t.A] = sub32(torques[t.A], mul32(rub, a.Radius))
		torques[t.B] = sub32(torques[t.B], mul32(rub, b.Radius))
	}
	for i := range forces {
		if !isFiniteComplex(forces[i]) || !isFinite(torques[i]) {
			return nil, nil, false
		}
	}
	return forces, torques, true
}

func referenceStep(h impl.Heap, r impl.Rules, list []impl.Touch, pull complex64, tick float32) (impl.Heap, []impl.Touch, bool) {
	behind, ok := referenceRubTouches(h, r, list, tick)
	if !ok {
		return impl.Heap{}, nil, false
	}
	forces, torques, ok := referenceForces(h, r, behind)
	if !ok {
		return impl.Heap{}, nil, false
	}
	next := impl.Heap{}
	for i, g := range h.Grains {
		if !g.Held {
			g.Speed = addComplex32(g.Speed, scale32(addComplex32(pull, scale32(forces[i], div32(1, g.Mass))), tick))
			g.Spin = add32(g.Spin, mul32(tick, div32(torques[i], mul32(0.5, g.Mass, g.Radius, g.Radius))))
		}
		g = referenceFlight(g, 0, tick)
		if !isFiniteComplex(g.At) || !isFiniteComplex(g.Speed) || !isFinite(g.Turn, g.Spin) {
			return impl.Heap{}, nil, false
		}
		next.Grains = append(next.Grains, g)
	}
	return next, behind, true
}

func referenceFastest(h impl.Heap) float32 {
	fastest := float32(0)
	for _, g := range h.Grains {
		if speed := long32(g.Speed); !g.Held && speed > fastest {
			fastest = speed
		}
	}
	return fastest
}

// referencePresses returns what presses each grain, and the first touch of
// those with the greatest push, -1 without touches.
func referencePresses(h impl.Heap, r impl.Rules, list []impl.Touch) (presses []float32, strongest int64, greatest float32, ok bool) {
	presses, strongest = make([]float32, len(h.Grains)), -1
	for n, t := range list {
		push, ok := referencePush(r, h.Grains[t.A], h.Grains[t.B])
		if !ok {
			return nil, 0, 0, false
		}
		presses[t.A], presses[t.B] = add32(presses[t.A], push), add32(presses[t.B], push)
		if n == 0 || push > greatest {
			strongest, greatest = int64(n), push
		}
	}
	return presses, strongest, greatest, true
}

func referenceWorst(h impl.Heap) (float32, bool) {
	worst := float32(0)
	for i, a := range h.Grains {
		for _, b := range h.Grains[:i] {
			gap := referenceGap(a, b)
			if !isFinite(gap) {
				return 0, false
			}
			if -gap > worst {
				worst = -gap
			}
		}
	}
	return worst, true
}

// referenceGroups walks from each grain that has no group yet.
func referenceGroups(count int, list []impl.Touch) ([]int64, int64) {
	groups, next := repeated(int64(-1), count), int64(0)
	var walk func(i, group int64)
	walk = func(i, group int64) {
		if groups[i] >= 0 {
			return
		}
		groups[i] = group
		for _, t := range list {
			if t.A == i {
				walk(t.B, group)
			} else if t.B == i {
				walk(t.A, group)
			}
		}
	}
	for i := range int64(count) {
		if groups[i] < 0 {
			walk(i, next)
			next++
		}
	}
	return groups, next
}
