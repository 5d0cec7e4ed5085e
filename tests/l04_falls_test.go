package tests

import (
	"math"
	"math/rand"
	"testing"

	"loop.example/g01268/impl"
)

func TestFallOnWalls(t *testing.T) {
	floor := []impl.Wall{wall(complex(-8, 0), complex(8, 0))}
	g := impl.Grain{At: complex(1, 0.5), Speed: complex(2, -1), Radius: 1, Mass: 2, Turn: 3, Spin: 5}
	// The floor pushes by 4, and as much by the loss: 4 i for each unit of the mass, less what pulls.
	once := g
	once.Speed = complex(2, -1+(4-1)*0.5)
	once.At = g.At + once.Speed/2
	gives(t, "FallOnWalls", heapWith(once))(impl.FallOnWalls(heapWith(g), floor, complex(0, -1), 8, 4, 0.5, 1))
	// The next step pushes by 2 less 2, which is nothing.
	twice := once
	twice.Speed = complex(2, 0.5-0.5)
	twice.At = once.At + twice.Speed/2
	gives(t, "FallOnWalls twice", heapWith(held(g), twice))(impl.FallOnWalls(heapWith(held(g), g), floor, complex(0, -1), 8, 4, 0.5, 2))
	gives(t, "FallOnWalls of what is held", heapWith(held(g)))(impl.FallOnWalls(heapWith(held(g)), floor, complex(0, -1), 8, 4, 0.5, 64))
	free := g
	free.At, free.Speed = complex(1+64*2, 0.5-64-64*65), complex(2, -1-128)
	gives(t, "FallOnWalls without walls", heapWith(free))(impl.FallOnWalls(heapWith(g), nil, complex(0, -2), 8, 4, 1, 64))
	back := g
	back.At, back.Speed = complex(-1, 3.5), complex(2, -3)
	gives(t, "FallOnWalls back in time", heapWith(back))(impl.FallOnWalls(heapWith(g), nil, complex(0, 2), 8, 4, -1, 1))
}

func TestFallsWithoutSteps(t *testing.T) {
	floor := []impl.Wall{wall(complex(-8, 0), complex(8, 0))}
	for count := range impl.MaxGrains + 1 {
		h := fullHeap(count)
		gives(t, "FallOnWalls without steps", h)(impl.FallOnWalls(h, floor, complex(0, -1), 8, 4, 0.5, 0))
		gives(t, "FallOnWalls without steps and walls", h)(impl.FallOnWalls(h, nil, complex(0, -1), 8, 4, 0.5, 0))
	}
	// Without a step no push is asked for, which a grain on the wall has not.
	stuck := heapWith(held(disc(1, 1)))
	gives(t, "FallOnWalls on a wall without steps", stuck)(impl.FallOnWalls(stuck, floor, 0, 0, 0, 1, 0))
	fails(t, "FallOnWalls on a wall")(impl.FallOnWalls(stuck, floor, 0, 0, 0, 1, 1))
	for _, steps := range []int64{0, 1, 64} {
		gives(t, "FallOnWalls without grains", impl.Heap{})(impl.FallOnWalls(impl.Heap{}, floor, 1, 8, 4, 0.5, steps))
		for _, tick := range []float32{0, negativeZero()} {
			still := heapWith(impl.Grain{At: complex(1, 0.5), Speed: complex(2, -3), Radius: 1, Mass: 2})
			gives(t, "FallOnWalls in no time", still)(impl.FallOnWalls(still, floor, complex(1, -1), 8, 4, tick, steps))
		}
	}
}

func TestFallsPassTheEndOfAWall(t *testing.T) {
	floor := []impl.Wall{wall(0, 4)}
	// Both fall at x = 2 and 6: only the wall's own part bears.
	h := heapWith(disc(complex(2, 1), 1), disc(complex(6, 1), 1))
	fallen, ok := impl.FallOnWalls(h, floor, complex(0, -1), 64, 8, 0.0625, 64)
	check(t, "FallOnWalls succeeds", ok, true)
	check(t, "the wall bears one grain", []bool{imag(fallen.Grains[0].At) > 0.5, imag(fallen.Grains[1].At) < -3}, "[true true]")
	// A grain behind the wall is pushed further behind it.
	behind, ok := impl.FallOnWalls(heapWith(disc(complex(2, -0.5), 1)), floor, 0, 64, 0, 0.0625, 64)
	check(t, "a grain behind the wall goes away", []bool{ok, imag(behind.Grains[0].At) < -1}, "[true true]")
}

func TestFallsFail(t *testing.T) {
	floor := []impl.Wall{wall(complex(-8, 0), complex(8, 0))}
	for _, h := range []impl.Heap{{}, heapWith(disc(complex(0, 5), 1))} {
		for _, list := range [][]impl.Wall{nil, floor} {
			for _, steps := range []int64{-1, 65, math.MinInt64, math.MaxInt64, 1 << 32} {
				fails(t, "FallOnWalls with wrong steps")(impl.FallOnWalls(h, list, 0, 1, 1, 1, steps))
			}
			for _, steps := range []int64{0, 1, 64} {
				for _, x := range notFinite() {
					fails(t, "FallOnWalls with a wrong pull")(impl.FallOnWalls(h, list, complex(x, 0), 1, 1, 1, steps))
					fails(t, "FallOnWalls with a wrong pull")(impl.FallOnWalls(h, list, complex(0, x), 1, 1, 1, steps))
					fails(t, "FallOnWalls with a wrong tick")(impl.FallOnWalls(h, list, 0, 1, 1, x, steps))
				}
				for _, x := range wrongStiffs() {
					fails(t, "FallOnWalls with a wrong stiff")(impl.FallOnWalls(h, list, 0, x, 1, 1, steps))
					fails(t, "FallOnWalls with a wrong loss")(impl.FallOnWalls(h, list, 0, 1, x, 1, steps))
				}
			}
		}
	}
	// The last heap, or one on the way, is not valid.
	leaving := heapWith(impl.Grain{At: complex(0, 5), Speed: 1e38, Radius: 1, Mass: 1})
	_, ok := impl.FallOnWalls(leaving, nil, 0, 0, 0, 1, 3)
	check(t, "FallOnWalls that goes far succeeds", ok, true)
	for _, steps := range []int64{4, 5, 64} {
		fails(t, "FallOnWalls that goes too far")(impl.FallOnWalls(leaving, nil, 0, 0, 0, 1, steps))
	}
	fails(t, "FallOnWalls that goes too fast")(impl.FallOnWalls(leaving, nil, complex(0, 3e38), 0, 0, 2, 1))
	light := heapWith(impl.Grain{At: complex(0, 5), Radius: 1, Mass: number(1)})
	fails(t, "FallOnWalls of a mass whose inverse is too large")(impl.FallOnWalls(light, nil, 0, 0, 0, 0, 1))
	light.Grains[0].Held = true
	gives(t, "FallOnWalls of a light grain that is held", light)(impl.FallOnWalls(light, nil, 0, 0, 0, 0, 1))
	// The first step goes just to the wall, from which the second one has no way.
	falling := heapWith(impl.Grain{At: complex(0, 5), Speed: complex(0, -5), Radius: 1, Mass: 1})
	_, ok = impl.FallOnWalls(falling, floor, 0, 1, 1, 1, 1)
	check(t, "FallOnWalls to the wall succeeds", ok, true)
	fails(t, "FallOnWalls from the wall")(impl.FallOnWalls(falling, floor, 0, 1, 1, 1, 2))
}

func TestFallsOfManyHeaps(t *testing.T) {
	source := rand.New(rand.NewSource(25))
	succeeded := 0
	for n, s := range someScenes() {
		pull, tick := somePoint(source, 3), float32(0.05*source.Float64())
		for _, steps := range []int64{0, 1, 2, int64(n % 64), 64} {
			h, ok := referenceFall(s, pull, tick, steps)
			expectFinite(t, "FallOnWalls", ok, h)(impl.FallOnWalls(s.heap, s.walls, pull, s.stiff, s.loss, tick, steps))
			if ok && steps == 64 {
				succeeded++
			}
		}
	}
	check(t, "most heaps fall", succeeded > 150, true)
}

func TestGrainsBeyond(t *testing.T) {
	w := wall(0, 4)
	above, on, below := disc(complex(1, 3), 1), disc(3, 1), disc(complex(2, -0.5), 1)
	// What counts is the line through the wall, and where At is.
	left, right := disc(complex(-90, number(1)), 1), held(disc(complex(90, -number(1)), 1))
	h := heapWith(above, below, on, right, left, disc(complex(-3, negativeZero()), 9))
	gives(t, "GrainsBeyond", []int64{1, 3})(impl.GrainsBeyond(h, w))
	gives(t, "DropBeyond", heapWith(above, on, left, h.Grains[5]), int64(2))(impl.DropBeyond(h, w))
	back := wall(4, 0)
	gives(t, "GrainsBeyond the other side", []int64{0, 4})(impl.GrainsBeyond(h, back))
	gives(t, "DropBeyond the other side", heapWith(below, on, right, h.Grains[5]), int64(2))(impl.DropBeyond(h, back))
	gives(t, "GrainsBeyond without grains", []int64{})(impl.GrainsBeyond(impl.Heap{}, w))
	gives(t, "DropBeyond without grains", impl.Heap{}, int64(0))(impl.DropBeyond(impl.Heap{}, w))
	all := heapWith(repeated(below, impl.MaxGrains)...)
	gives(t, "DropBeyond all", impl.Heap{}, int64(impl.MaxGrains))(impl.DropBeyond(all, w))
	gives(t, "DropBeyond none", all, int64(0))(impl.DropBeyond(all, back))
	far := heapWith(below, disc(complex(0, 3e38), 1), disc(complex(3e38, 0), 1))
	fails(t, "GrainsBeyond too far away")(impl.GrainsBeyond(far, w))
	fails(t, "DropBeyond too far away")(impl.DropBeyond(far, w))
	for _, bad := range invalidWalls() {
		for _, grains := range []impl.Heap{{}, h} {
			fails(t, "GrainsBeyond no wall")(impl.GrainsBeyond(grains, bad))
			fails(t, "DropBeyond no wall")(impl.DropBeyond(grains, bad))
		}
	}
	for _, bad := range invalidHeaps() {
		fails(t, "GrainsBeyond in a wrong heap")(impl.GrainsBeyond(bad, w))
		fails(t, "DropBeyond in a wrong heap")(impl.DropBeyond(bad, w))
	}
}

func TestLowestFree(t *testing.T) {
	low, high, wide := disc(complex(9, -2), 1), disc(complex(-9, 2), 1), disc(complex(0, 4), 6.5)
	gives(t, "LowestFree", int64(1), float32(-3))(impl.LowestFree(heapWith(high, low, wide)))
	gives(t, "LowestFree that is wide", int64(2), float32(-2.5))(impl.LowestFree(heapWith(high, held(low), wide)))
	gives(t, "LowestFree of equal ones", int64(1), float32(-3))(impl.LowestFree(heapWith(high, low, disc(complex(0, -1), 2), low)))
	gives(t, "LowestFree above 0", int64(1), float32(1))(impl.LowestFree(heapWith(held(low), high)))
	gives(t, "LowestFree at 0", int64(0), float32(0))(impl.LowestFree(heapWith(disc(complex(0, 1), 1), disc(complex(3, 2), 2))))
	gives(t, "LowestFree of one", int64(0), float32(-1))(impl.LowestFree(heapWith(disc(complex(3, negativeZero()), 1))))
	gives(t, "LowestFree far above", int64(0), float32(3e38))(impl.LowestFree(heapWith(disc(complex(0, 3e38), 1))))
	fails(t, "LowestFree without grains")(impl.LowestFree(impl.Heap{}))
	fails(t, "LowestFree of held ones")(impl.LowestFree(heapWith(held(low), held(high))))
	deep := disc(complex(0, -3e38), 1e38)
	fails(t, "LowestFree that is too low")(impl.LowestFree(heapWith(low, deep)))
	gives(t, "LowestFree above what is too low", int64(1), float32(-3))(impl.LowestFree(heapWith(held(deep), low)))
	for _, bad := range invalidHeaps() {
		fails(t, "LowestFree of a wrong heap")(impl.LowestFree(bad))
	}
}

func TestSidesOfManyHeaps(t *testing.T) {
	for _, s := range someScenes() {
		for _, w := range s.walls {
			beyond, left, ok := referenceBeyond(s.heap, w)
			expectFinite(t, "GrainsBeyond", ok, beyond)(impl.GrainsBeyond(s.heap, w))
			if ok {
				gives(t, "DropBeyond", left, int64(len(beyond)))(impl.DropBeyond(s.heap, w))
			} else {
				fails(t, "DropBeyond")(impl.DropBeyond(s.heap, w))
			}
		}
		lowest, least := referenceLowest(s.heap)
		if lowest >= 0 {
			gives(t, "LowestFree", lowest, least)(impl.LowestFree(s.heap))
		} else {
			fails(t, "LowestFree")(impl.LowestFree(s.heap))
		}
	}
}
