package tests

import (
	"math"
	"math/rand"
	"testing"

	"loop.example/g01268/impl"
)

func TestWaterForce(t *testing.T) {
	for _, c := range []struct{ gap, pull, reach, want float32 }{
		{0, 4, 2, 4}, {-0.5, 4, 2, 4}, {-2, 4, 2, 4}, {0.5, 4, 2, 3}, {1, 4, 2, 2}, {1.5, 4, 2, 1}, {2, 4, 2, 0}, {3, 4, 2, 0}, {1, 4, number(0x3f800001), mul32(4, number(0x34000000))},
		{1, 4, number(0x3f7fffff), 0}, {1, 4, 1, 0}, {1, 4, math.MaxFloat32, 4}, {number(0x34000000), 1, 1, 1},
		// Without a reach, water holds what touches.
		{0, 4, 0, 4}, {-1, 4, negativeZero(), 4}, {number(0x34800000), 4, 0, 0}, {1, 4, 0, 0}, {1, 4, negativeZero(), 0}, {1, 4, number(1), 0},
		// Without a pull, it is a zero with the sign of the pull, but +0 beyond the reach.
		{0, 0, 2, 0}, {1, 0, 2, 0}, {3, 0, 2, 0}, {0, negativeZero(), 2, negativeZero()}, {1, negativeZero(), 2, negativeZero()}, {2, negativeZero(), 2, 0}, {3, negativeZero(), 2, 0},
		{1, math.MaxFloat32, 2, math.MaxFloat32 / 2}, {0, math.MaxFloat32, 2, math.MaxFloat32}, {1, number(3), 2, number(2)},
	} {
		h := facing(c.gap, 7)
		gives(t, "WaterForce", c.want)(impl.WaterForce(h, c.pull, c.reach, 0, 1))
		gives(t, "WaterForce from the other side", c.want)(impl.WaterForce(h, c.pull, c.reach, 1, 0))
	}
	gives(t, "WaterForce at one place", float32(3))(impl.WaterForce(beads(5, 5), 3, 1, 0, 1))
	gives(t, "WaterForce of held grains", float32(3))(impl.WaterForce(heapWith(disc(9, 1), held(disc(0, 1)), held(disc(2, 1))), 3, 1, 2, 1))
}

func TestWaterForceFails(t *testing.T) {
	h := facing(1, 0)
	for _, x := range wrongStiffs() {
		fails(t, "WaterForce with a wrong pull")(impl.WaterForce(h, x, 1, 0, 1))
		fails(t, "WaterForce with a wrong reach")(impl.WaterForce(h, 1, x, 0, 1))
		for _, h := range []impl.Heap{{}, lone(0), h} {
			fails(t, "WaterForces with a wrong pull")(impl.WaterForces(h, x, 1))
			fails(t, "WaterForces with a wrong reach")(impl.WaterForces(h, 1, x))
		}
	}
	for _, i := range append(wrongIndices(2), 0) {
		fails(t, "WaterForce of no pair")(impl.WaterForce(h, 1, 1, i, 0))
		fails(t, "WaterForce of no pair")(impl.WaterForce(h, 1, 1, 0, i))
		fails(t, "WaterForce without grains")(impl.WaterForce(impl.Heap{}, 1, 1, i, 1))
	}
	fails(t, "WaterForce of one grain")(impl.WaterForce(h, 1, 1, 1, 1))
	far := heapWith(disc(0, 1), disc(-2e38, 1), disc(2e38, 1))
	for _, pull := range []float32{0, 1} {
		fails(t, "WaterForce of what is too far apart")(impl.WaterForce(far, pull, 1, 1, 2))
		fails(t, "WaterForces of what is too far apart")(impl.WaterForces(far, pull, 1))
		gives(t, "WaterForce of what is far apart", float32(0))(impl.WaterForce(far, pull, 1, 0, 2))
	}
}

func TestWaterForces(t *testing.T) {
	// The gaps are 1 and 0, but that between the first and the last one is too long.
	h := heapWith(disc(0, 1), disc(3, 1), held(disc(complex(3, -1), 1)))
	h.Grains[2].Radius = number(0x00800000)
	gives(t, "WaterForces", []complex64{2, complex(-2, -4), complex(0, 4)})(impl.WaterForces(h, 4, 2))
	gives(t, "WaterForces without a reach", []complex64{0, complex(0, -4), complex(0, 4)})(impl.WaterForces(h, 4, 0))
	gives(t, "WaterForces without a pull", []complex64{0, 0, 0})(impl.WaterForces(h, 0, 2))
	gives(t, "WaterForces without a pull", []complex64{0, 0, 0})(impl.WaterForces(h, negativeZero(), 2))
	gives(t, "WaterForces without grains", []complex64{})(impl.WaterForces(impl.Heap{}, 4, 2))
	gives(t, "WaterForces of one grain", []complex64{0})(impl.WaterForces(lone(3), 4, 2))
	gives(t, "WaterForces at the reach", []complex64{0, 0})(impl.WaterForces(facing(2, 0), 4, 2))
	gives(t, "WaterForces at a gap of 0", []complex64{4, -4})(impl.WaterForces(facing(0, 0), 4, 2))
	// At one place, there is no way, which nothing asks for that does not pull.
	same := heapWith(disc(0, 1), disc(9, 1), disc(9, 1))
	fails(t, "WaterForces at one place")(impl.WaterForces(same, 4, 2))
	fails(t, "WaterForces at one place without a reach")(impl.WaterForces(same, 4, 0))
	gives(t, "WaterForces at one place without a pull", []complex64{0, 0, 0})(impl.WaterForces(same, 0, 2))
	gives(t, "WaterForces at one place without a pull", []complex64{0, 0, 0})(impl.WaterForces(same, negativeZero(), 2))
	// The sums go in order, and all of them are finite.
	gives(t, "WaterForces in order", []complex64{3e38, 0, -3e38})(impl.WaterForces(heapWith(disc(-2, 1), disc(0, 1), disc(2, 1)), 3e38, 1))
	fails(t, "WaterForces that are too large")(impl.WaterForces(heapWith(disc(0, 1), disc(1, 1), disc(2, 1)), 3e38, 1))
}

func TestWaterForcesOfManyHeaps(t *testing.T) {
	source := rand.New(rand.NewSource(66))
	pulled, between := 0, 0
	for _, c := range someTies() {
		for _, reach := range []float32{0, float32(source.Float64()), 3, 1e30} {
			pull := []float32{0, negativeZero(), 1, float32(9 * source.Float64()), 1e38}[source.Intn(5)]
			forces, ok := referenceWaterForces(c.heap, pull, reach)
			expectFinite(t, "WaterForces", ok, forces)(impl.WaterForces(c.heap, pull, reach))
			for i := range int64(len(c.heap.Grains)) {
				k := int64(source.Intn(len(c.heap.Grains)))
				if i == k {
					continue
				}
				water, ok := referenceWater(c.heap, pull, reach, i, k)
				expectFinite(t, "WaterForce", ok, water)(impl.WaterForce(c.heap, pull, reach, i, k))
				if ok && 0 < water && water < pull {
					between++
				}
			}
			if ok && pull > 0 && len(forces) > 2 {
				pulled++
			}
		}
	}
	check(t, "water pulls many grains", []bool{pulled > 200, between > 300}, "[true true]")
}
