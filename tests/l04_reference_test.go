package tests

import (
	"math"

	"loop.example/g01268/impl"
)

// The functions here compute what chapter 4 tells, as those for chapter 2 do.
// Circles are the program's own, as they have a reference in chapter 1.

func mulComplex32(x, y complex64) complex64 {
	a, b, c, d := float64(real(x)), float64(imag(x)), float64(real(y)), float64(imag(y))
	return complex(float32(float64(a*c)-float64(b*d)), float32(float64(a*d)+float64(b*c)))
}

func isWall(w impl.Wall) bool {
	power := float32(power64(subComplex32(w.To, w.From)))
	return isFiniteComplex(w.From) && isFiniteComplex(w.To) && isFiniteComplex(w.Speed) && isFinite(power) && power > 0
}

// validWalls returns walls and true, or none if one of them is not valid.
func validWalls(list []impl.Wall) ([]impl.Wall, bool) {
	for _, w := range list {
		if !isWall(w) {
			return nil, false
		}
	}
	return list, true
}

func referenceDrum(count int64, centre complex64, radius float32) ([]impl.Wall, bool) {
	corner := func(k int64) complex64 {
		return addComplex32(centre, scale32(impl.PhasorOf(float64(k%count)/float64(count)), radius))
	}
	list := []impl.Wall{}
	for k := range count {
		list = append(list, wall(corner(k), corner(k+1)))
	}
	return validWalls(list)
}

func referenceMoved(list []impl.Wall, by func(w impl.Wall) complex64) ([]impl.Wall, bool) {
	moved := []impl.Wall{}
	for _, w := range list {
		moved = append(moved, moving(wall(addComplex32(w.From, by(w)), addComplex32(w.To, by(w))), w.Speed))
	}
	return validWalls(moved)
}

func referenceTurned(list []impl.Wall, centre complex64, turns, rate float32) ([]impl.Wall, bool) {
	turned := []impl.Wall{}
	for _, w := range list {
		from := addComplex32(centre, mulComplex32(subComplex32(w.From, centre), impl.PhasorOf(float64(turns))))
		to := addComplex32(centre, mulComplex32(subComplex32(w.To, centre), impl.PhasorOf(float64(turns))))
		m := subComplex32(scale32(addComplex32(from, to), 0.5), centre)
		turned = append(turned, moving(wall(from, to), scale32(complex(-imag(m), real(m)), mul32(number(0x40c90fdb), rate))))
	}
	return validWalls(turned)
}

func referenceShaken(list []impl.Wall, size complex64, rate, time float32) ([]impl.Wall, bool) {
	a := mul32(rate, time)
	speed := scale32(size, mul32(number(0x40c90fdb), rate, impl.SineTurns(add32(a, 0.25))))
	shaken, _ := referenceMoved(list, func(w impl.Wall) complex64 { return scale32(size, impl.SineTurns(a)) })
	if len(shaken) < len(list) {
		return nil, false
	}
	for n := range shaken {
		shaken[n].Speed = speed
	}
	return validWalls(shaken)
}

func referenceNearest(w impl.Wall, at complex64) complex64 {
	d, way := subComplex32(w.To, w.From), subComplex32(at, w.From)
	t := div32(add32(mul32(real(way), real(d)), mul32(imag(way), imag(d))), float32(power64(d)))
	switch {
	case t >= 1:
		return w.To
	case t > 0:
		return addComplex32(w.From, scale32(d, t))
	}
	return w.From
}

func referenceSide(w impl.Wall, at complex64) float32 {
	d, way := subComplex32(w.To, w.From), subComplex32(at, w.From)
	return sub32(mul32(real(d), imag(way)), mul32(imag(d), real(way)))
}

func referenceParts(w impl.Wall, from, to complex64) bool {
	a, b := referenceSide(w, from), referenceSide(w, to)
	return isWall(w) && isFinite(a, b) && (a < 0 && b >= 0 || b < 0 && a >= 0)
}

func referenceCrosses(w impl.Wall, from, to complex64) bool {
	return referenceParts(w, from, to) && referenceParts(wall(from, to), w.From, w.To)
}

func referenceWallGap(w impl.Wall, g impl.Grain) float32 {
	return sub32(long32(subComplex32(referenceNearest(w, g.At), g.At)), g.Radius)
}

func referenceWallWay(w impl.Wall, g impl.Grain) complex64 {
	way := subComplex32(referenceNearest(w, g.At), g.At)
	return referenceOver(way, long32(way))
}

func referenceWallSlide(w impl.Wall, g impl.Grain) (float32, float32) {
	way := referenceWallWay(w, g)
	v := mulComplex32(subComplex32(w.Speed, g.Speed), complex(real(way), -imag(way)))
	return real(v), sub32(imag(v), mul32(g.Spin, g.Radius))
}

func referenceWallPush(w impl.Wall, g impl.Grain, stiff, loss float32) (complex64, bool) {
	gap := referenceWallGap(w, g)
	if gap >= 0 {
		return 0, isFinite(gap)
	}
	away, across := referenceWallSlide(w, g)
	if !isFinite(gap, away, across) {
		return 0, false
	}
	if p := sub32(mul32(stiff, -gap), mul32(loss, away)); p > 0 {
		push := scale32(referenceWallWay(w, g), -p)
		return push, isFiniteComplex(push)
	}
	return 0, true
}

func referenceWallPushes(s scene) ([]complex64, bool) {
	pushes := make([]complex64, len(s.heap.Grains))
	for _, w := range s.walls {
		for i, g := range s.heap.Grains {
			push, ok := referenceWallPush(w, g, s.stiff, s.loss)
			if !ok {
				return nil, false
			}
			pushes[i] = addComplex32(pushes[i], push)
		}
	}
	for _, push := range pushes {
		if !isFiniteComplex(push) {
			return nil, false
		}
	}
	return pushes, true
}

func referenceWallTouches(s scene, near float32) ([][]int64, bool) {
	pairs := [][]int64{}
	for n, w := range s.walls {
		for i, g := range s.heap.Grains {
			gap := referenceWallGap(w, g)
			if !isFinite(gap) {
				return nil, false
			}
			if gap <= near {
				pairs = append(pairs, []int64{int64(n), int64(i)})
			}
		}
	}
	return pairs, true
}

func referenceFall(s scene, pull complex64, tick float32, steps int64) (impl.Heap, bool) {
	for range steps {
		pushes, ok := referenceWallPushes(s)
		if !ok {
			return impl.Heap{}, false
		}
		fallen := impl.Heap{}
		for i, g := range s.heap.Grains {
			if !g.Held {
				force := scale32(pushes[i], div32(1, g.Mass))
				g.Speed = addComplex32(g.Speed, scale32(addComplex32(pull, force), tick))
				g.At = addComplex32(g.At, scale32(g.Speed, tick))
			}
			if !isFiniteComplex(g.At) || !isFiniteComplex(g.Speed) {
				return impl.Heap{}, false
			}
			fallen.Grains = append(fallen.Grains, g)
		}
		s.heap = fallen
	}
	return s.heap, true
}

func referenceBeyond(h impl.Heap, w impl.Wall) (beyond []int64, left impl.Heap, ok bool) {
	for i, g := range h.Grains {
		side := referenceSide(w, g.At)
		switch {
		case !isFinite(side):
			return nil, impl.Heap{}, false
		case side < 0:
			beyond = append(beyond, int64(i))
		default:
			left.Grains = append(left.Grains, g)
		}
	}
	return beyond, left, true
}

// referenceLowest returns the lowest grain that is not held, -1 without one.
func referenceLowest(h impl.Heap) (int64, float32) {
	lowest, least := int64(-1), float32(math.Inf(1))
	for i, g := range h.Grains {
		if y := sub32(imag(g.At), g.Radius); !g.Held && y < least {
			lowest, least = int64(i), y
		}
	}
	return lowest, least
}
