package tests

import (
	"math"
	"math/rand"
	"testing"

	"loop.example/g01268/impl"
)

func TestStretchOf(t *testing.T) {
	h := heapWith(disc(0, 1), held(disc(complex(3, -4), 9)), disc(complex(3, 8), 1))
	gives(t, "StretchOf", float32(3))(impl.StretchOf(h, bond(0, 1, 2, 0)))
	gives(t, "StretchOf what is pushed together", float32(-2))(impl.StretchOf(h, bond(0, 1, 7, 5)))
	gives(t, "StretchOf what is as long as it was", float32(0))(impl.StretchOf(h, bond(0, 1, 5, 0)))
	gives(t, "StretchOf", float32(4))(impl.StretchOf(h, bond(1, 2, 8, 0)))
	gives(t, "StretchOf a long one", float32(-math.MaxFloat32))(impl.StretchOf(h, bond(0, 1, math.MaxFloat32, 0)))
	gives(t, "StretchOf a short one", float32(5))(impl.StretchOf(h, bond(0, 1, number(1), math.MaxFloat32)))
	// At one place, there is no way, but a stretch.
	gives(t, "StretchOf at one place", float32(-3))(impl.StretchOf(heapWith(disc(5, 1), disc(5, 1)), bond(0, 1, 3, 0)))
	fails(t, "StretchOf what is too far apart")(impl.StretchOf(heapWith(disc(-2e38, 1), disc(2e38, 1)), bond(0, 1, 3e38, 0)))
	fails(t, "StretchOf what is too far apart across")(impl.StretchOf(heapWith(disc(0, 1), disc(complex(3e38, 3e38), 1)), bond(0, 1, 3e38, 0)))
}

func TestBondForce(t *testing.T) {
	for _, c := range []struct {
		gap, speed, long, stiff, loss, want float32
	}{
		{1, 0, 1, 2, 0, 4}, {1, 0, 1, 2, 5, 4}, {1, 0.5, 1, 2, 4, 6}, {1, -0.5, 1, 2, 4, 2}, {1, -3, 1, 2, 4, -8},
		{1, 0, 5, 2, 0, -4}, {1, 1, 5, 2, 1, -3}, {1, 7, 3, 2, 0, 0}, {1, 7, 3, 2, 3, 21}, {-1.5, 0, 1, 2, 0, -1},
		{1, 2, 1, 0, 0, 0}, {1, 2, 1, 0, 4, 8}, {1, 2, 5, 3, 0, -6}, {1, -2, 1, negativeZero(), 0, negativeZero()}, {1, -2, 1, 0, 0, 0},
		{1, 2, 1, negativeZero(), negativeZero(), negativeZero()}, {1, 0, 1, 1e38, 0, 2e38}, {1, 1, 2, 3e38, 3e37, 3.3e38},
	} {
		h := facing(c.gap, complex(c.speed, 9))
		gives(t, "BondForce", c.want)(impl.BondForce(h, bond(0, 1, c.long, 0), c.stiff, c.loss))
		h.Grains[0].Held, h.Grains[1].Held = true, true
		gives(t, "BondForce of what is held", c.want)(impl.BondForce(h, bond(0, 1, c.long, 7), c.stiff, c.loss))
	}
	// Both grains make the speed, and only along the way.
	h := heapWith(disc(0, 1), disc(complex(0, 4), 1))
	h.Grains[0].Speed, h.Grains[1].Speed = complex(5, -1), complex(-7, 2)
	gives(t, "BondForce", float32(2*3+10*3))(impl.BondForce(h, bond(0, 1, 1, 0), 2, 10))
}

func TestBondForceFails(t *testing.T) {
	for _, x := range wrongStiffs() {
		fails(t, "BondForce with a wrong stiff")(impl.BondForce(facing(1, 0), bond(0, 1, 1, 1), x, 0))
		fails(t, "BondForce with a wrong loss")(impl.BondForce(facing(1, 0), bond(0, 1, 1, 1), 0, x))
		for _, h := range []impl.Heap{{}, facing(1, 0)} {
			fails(t, "SnapBonds with a wrong stiff")(impl.SnapBonds(h, nil, x))
			fails(t, "BondForces with a wrong stiff")(impl.BondForces(h, nil, x, 0))
			fails(t, "BondForces with a wrong loss")(impl.BondForces(h, nil, 0, x))
			fails(t, "BondEnergy with a wrong stiff")(impl.BondEnergy(h, nil, x))
		}
		fails(t, "SnapBonds with a wrong stiff")(impl.SnapBonds(facing(1, 0), bonds(0, 1), x))
		fails(t, "WeakestBond with a wrong stiff")(impl.WeakestBond(facing(1, 0), bonds(0, 1), x))
		fails(t, "BondForces with a wrong stiff")(impl.BondForces(facing(1, 0), bonds(0, 1), x, 0))
		fails(t, "BondEnergy with a wrong stiff")(impl.BondEnergy(facing(1, 0), bonds(0, 1), x))
	}
	same := heapWith(disc(0, 1), disc(5, 1), held(disc(5, 2)))
	for _, stiff := range []float32{0, negativeZero(), 1} {
		fails(t, "BondForce at one place")(impl.BondForce(same, bond(1, 2, 1, 0), stiff, 0))
		fails(t, "BondForces at one place")(impl.BondForces(same, bonds(0, 1, 1, 2), stiff, 0))
	}
	gives(t, "BondForces of others", []complex64{4, -4, 0})(impl.BondForces(same, bonds(0, 1), 1, 0))
	// The spins slide too fast, also where they do not matter.
	spinning := facing(1, 0)
	spinning.Grains[0].Spin, spinning.Grains[0].Radius = 3e38, 2
	fails(t, "BondForce of what slides too fast")(impl.BondForce(spinning, bond(0, 1, 1, 0), 1, 0))
	fails(t, "BondForces of what slides too fast")(impl.BondForces(spinning, bonds(0, 1), 1, 0))
	gives(t, "SnapBonds of what slides too fast", bonds(0, 1), int64(0))(impl.SnapBonds(spinning, bonds(0, 1), 1))
	fails(t, "BondForce that is too large")(impl.BondForce(facing(1, 0), bond(0, 1, 1, 0), 3e38, 0))
	fails(t, "BondForce with a loss that is too large")(impl.BondForce(facing(1, 2), bond(0, 1, 1, 0), 0, 3e38))
	fails(t, "BondForce of two that are too large")(impl.BondForce(facing(1, -2), bond(0, 1, 1, 0), 3e38, 3e38))
	far := heapWith(disc(-2e38, 1), disc(2e38, 1))
	for _, stiff := range []float32{0, 1} {
		fails(t, "BondForce of what is too far apart")(impl.BondForce(far, bond(0, 1, 1, 0), stiff, 0))
		fails(t, "SnapBonds of what is too far apart")(impl.SnapBonds(far, bonds(0, 1), stiff))
		fails(t, "WeakestBond of what is too far apart")(impl.WeakestBond(far, bonds(0, 1), stiff))
		fails(t, "BondForces of what is too far apart")(impl.BondForces(far, bonds(0, 1), stiff, 0))
		fails(t, "BondEnergy of what is too far apart")(impl.BondEnergy(far, bonds(0, 1), stiff))
	}
}

func TestSnapBonds(t *testing.T) {
	// The bonds are stretched by 2, and pushed together by 2.
	for _, long := range []float32{2, 6} {
		h := facing(2, 0)
		for _, c := range []struct {
			stiff, strength float32
			snaps           int64
		}{
			{2, 4, 0}, {2, number(0x407fffff), 1}, {2, number(0x40800001), 0}, {2, 0, 1}, {2, math.MaxFloat32, 0}, {number(0x40000001), 4, 1},
			{0, 0, 0}, {negativeZero(), 0, 0}, {0, negativeZero(), 0}, {number(1), 0, 1}, {number(1), number(2), 0}, {number(1), number(1), 1},
			{1.5e38, 3e38, 0}, {3e38, math.MaxFloat32, 1},
		} {
			list := []impl.Bond{bond(0, 1, long, c.strength)}
			gives(t, "SnapBonds", list[c.snaps:], c.snaps)(impl.SnapBonds(h, list, c.stiff))
		}
	}
	// A bond without strength bears nothing, and holds as long as that.
	gives(t, "SnapBonds of what is not stretched", []impl.Bond{bond(0, 1, 4, 0)}, int64(0))(impl.SnapBonds(facing(2, 0), []impl.Bond{bond(0, 1, 4, 0)}, 3e38))
	// With the stiff 1, they bear 0, 2, 4, 1, 0 and 1.
	h := beads(0, 1, 3, 6, 10)
	list := []impl.Bond{bond(0, 1, 1, 0), bond(0, 2, 1, 1.5), bond(0, 3, 2, 4), bond(1, 2, 3, 1), bond(1, 4, 9, 0), bond(3, 4, 5, 0.5)}
	gives(t, "SnapBonds", []impl.Bond{list[0], list[2], list[3], list[4]}, int64(2))(impl.SnapBonds(h, list, 1))
	gives(t, "SnapBonds", []impl.Bond{list[0], list[4]}, int64(4))(impl.SnapBonds(h, list, 2))
	gives(t, "SnapBonds without stiff", list, int64(0))(impl.SnapBonds(h, list, 0))
	gives(t, "SnapBonds of none", bonds(), int64(0))(impl.SnapBonds(h, nil, 2))
	gives(t, "SnapBonds without grains", bonds(), int64(0))(impl.SnapBonds(impl.Heap{}, nil, 2))
	gives(t, "SnapBonds of all", bonds(), int64(6))(impl.SnapBonds(beads(0, 50, 150, 350, 950), list, 2))
	// At one place, there is no way, but a stretch.
	gives(t, "SnapBonds at one place", bonds(0, 1), int64(0))(impl.SnapBonds(beads(5, 5), bonds(0, 1), 2))
	gives(t, "SnapBonds at one place", bonds(), int64(1))(impl.SnapBonds(beads(5, 5), bonds(0, 1), 2.5))
}

func TestWeakestBond(t *testing.T) {
	h := beads(0, 1, 3, 6, 10)
	// With the stiff 1, they bear 0, 2, 4, 1, 3 and 0.
	list := []impl.Bond{bond(0, 1, 1, 9), bond(0, 2, 1, 3), bond(0, 3, 2, 7), bond(1, 2, 3, 3), bond(1, 4, 6, 3.5), bond(3, 4, 4, 0.75)}
	gives(t, "WeakestBond", int64(4), float32(-0.5))(impl.WeakestBond(h, list, 1))
	gives(t, "WeakestBond of a stiff 0", int64(5), float32(-0.75))(impl.WeakestBond(h, list, 0))
	gives(t, "WeakestBond of a stiff 4", int64(2), float32(9))(impl.WeakestBond(h, list, 4))
	gives(t, "WeakestBond of two alike", int64(1), float32(-1))(impl.WeakestBond(h, list[:3], 1))
	gives(t, "WeakestBond of three alike", int64(1), float32(1))(impl.WeakestBond(h, []impl.Bond{bond(0, 1, 2, 1), bond(0, 2, 1, 1), bond(0, 3, 9, 2), bond(3, 4, 7, 2)}, 1))
	gives(t, "WeakestBond of two that are pushed and pulled alike", int64(0), float32(6))(impl.WeakestBond(beads(0, 4, 10), []impl.Bond{bond(0, 1, 7, 0), bond(1, 2, 3, 0)}, 2))
	gives(t, "WeakestBond of one", int64(0), float32(0))(impl.WeakestBond(facing(1, 0), []impl.Bond{bond(0, 1, 1, 4)}, 2))
	gives(t, "WeakestBond of a Strength -0", int64(0), float32(0))(impl.WeakestBond(facing(1, 0), []impl.Bond{bond(0, 1, 3, negativeZero())}, 2))
	gives(t, "WeakestBond that is strong", int64(0), float32(-math.MaxFloat32))(impl.WeakestBond(facing(1, 0), []impl.Bond{bond(0, 1, 3, math.MaxFloat32)}, 2))
	for _, h := range []impl.Heap{{}, lone(0), h} {
		fails(t, "WeakestBond of none")(impl.WeakestBond(h, nil, 1))
	}
	fails(t, "WeakestBond that bears too much")(impl.WeakestBond(facing(1, 0), bonds(0, 1), 3e38))
	fails(t, "WeakestBond that bears too much behind others")(impl.WeakestBond(beads(0, 1, 9), bonds(0, 1, 0, 2), 3e38))
}

func TestBondForces(t *testing.T) {
	h := heapWith(disc(0, 1), held(disc(4, 1)), heavy(disc(complex(4, 3), 1), 7), disc(9, 1))
	h.Grains[2].Speed = complex(0, -1)
	// With the stiff 2 and the loss 4, they pull by 2 3, by 2 (-1) + 4 (-1), and by 2 0 + 4 (-0.6).
	list := []impl.Bond{bond(0, 1, 1, 0), bond(0, 2, 5, 0), bond(1, 2, 4, 0)}
	diagonal := scale32(referenceWay(h.Grains[0], h.Grains[2]), mul32(4, -number(0x3f19999a)))
	gives(t, "BondForces", []complex64{addComplex32(6, diagonal), addComplex32(-6, complex(0, -6)), subComplex32(complex(0, 6), diagonal), 0})(
		impl.BondForces(h, list, 2, 4))
	gives(t, "BondForces without loss", []complex64{6, complex(-6, -2), complex(0, 2), 0})(impl.BondForces(h, list, 2, 0))
	gives(t, "BondForces without stiff and loss", []complex64{0, 0, 0, 0})(impl.BondForces(h, list, 0, 0))
	gives(t, "BondForces with a stiff and a loss of -0", []complex64{0, 0, 0, 0})(impl.BondForces(h, list, negativeZero(), negativeZero()))
	gives(t, "BondForces of none", []complex64{0, 0, 0, 0})(impl.BondForces(h, nil, 2, 4))
	gives(t, "BondForces without grains", []complex64{})(impl.BondForces(impl.Heap{}, nil, 2, 4))
	// The sums are made in the order of the bonds: 2^24 takes no 1 at a time.
	gives(t, "BondForces in order", []complex64{1 << 24, -(1 << 24), -1, -1})(
		impl.BondForces(beads(0, 2+1<<24, 2, 2), []impl.Bond{bond(0, 1, 2, 0), bond(0, 2, 1, 0), bond(0, 3, 1, 0)}, 1, 0))
	gives(t, "BondForces in order", []complex64{1<<24 + 2, -1, -1, -(1 << 24)})(
		impl.BondForces(beads(0, 2, 2, 2+1<<24), []impl.Bond{bond(0, 1, 1, 0), bond(0, 2, 1, 0), bond(0, 3, 2, 0)}, 1, 0))
	fails(t, "BondForces that are too large")(impl.BondForces(facing(1, 0), bonds(0, 1), 3e38, 0))
	fails(t, "BondForces that are too large together")(impl.BondForces(beads(0, 3, 3), bonds(0, 1, 0, 2), 1.5e38, 0))
	gives(t, "BondForces that are opposite", []complex64{0, 3e38, -3e38})(impl.BondForces(beads(0, -3, 3), bonds(0, 1, 0, 2), 1.5e38, 0))
}

func TestBondEnergy(t *testing.T) {
	h := beads(0, 1, 3, 6, 10)
	list := []impl.Bond{bond(0, 1, 1, 9), bond(0, 2, 1, 3), bond(1, 2, 5, 0)}
	gives(t, "BondEnergy", float32(0.5*3*(0+4+9)))(impl.BondEnergy(h, list, 3))
	gives(t, "BondEnergy without stiff", float32(0))(impl.BondEnergy(h, list, 0))
	gives(t, "BondEnergy with a stiff -0", float32(0))(impl.BondEnergy(h, list, negativeZero()))
	gives(t, "BondEnergy of none", float32(0))(impl.BondEnergy(h, nil, 3))
	gives(t, "BondEnergy without grains", float32(0))(impl.BondEnergy(impl.Heap{}, nil, 3))
	gives(t, "BondEnergy at one place", float32(2))(impl.BondEnergy(heapWith(disc(5, 1), disc(5, 1)), []impl.Bond{bond(0, 1, 2, 0)}, 1))
	gives(t, "BondEnergy that is large", float32(3e38))(impl.BondEnergy(beads(0, 3), bonds(0, 1), 1.5e38))
	fails(t, "BondEnergy that is too large")(impl.BondEnergy(beads(0, 3), bonds(0, 1), 3e38))
	fails(t, "BondEnergy that is too large together")(impl.BondEnergy(beads(0, 3, 1), bonds(0, 1, 1, 2), 1.5e38*1.8))
	// The product goes from left to right, and the sum in order.
	gives(t, "BondEnergy from left to right", float32(0))(impl.BondEnergy(facing(1e-8-1, 0), bonds(0, 1), number(1)))
	gives(t, "BondEnergy in order", float32(1<<24))(impl.BondEnergy(beads(0, 1+1<<12, -1, -1), []impl.Bond{bond(0, 1, 1, 0), bond(0, 2, 2, 0), bond(0, 3, 2, 0)}, 2))
	gives(t, "BondEnergy in order", float32(1<<24+2))(impl.BondEnergy(beads(0, -1, -1, 1+1<<12), []impl.Bond{bond(0, 1, 2, 0), bond(0, 2, 2, 0), bond(0, 3, 1, 0)}, 2))
}

func TestBondsOfManyHeapsPull(t *testing.T) {
	source := rand.New(rand.NewSource(63))
	stretched, pulled, weak := 0, 0, 0
	for _, c := range someTies() {
		for _, stiff := range []float32{0, float32(5 * source.Float64()), 1e30} {
			loss := float32(source.Intn(3)) * float32(source.Float64())
			for _, b := range c.list {
				stretch := referenceStretch(c.heap, b)
				expectFinite(t, "StretchOf", isFinite(stretch), stretch)(impl.StretchOf(c.heap, b))
				force, ok := referenceBondForce(c.heap, b, stiff, loss)
				expectFinite(t, "BondForce", ok, force)(impl.BondForce(c.heap, b, stiff, loss))
				if ok && force != 0 {
					stretched++
				}
			}
			kept, snapped, ok := referenceSnap(c, stiff)
			expects(t, "SnapBonds", ok, kept, snapped)(impl.SnapBonds(c.heap, c.list, stiff))
			if ok && snapped > 0 && len(kept) > 0 {
				weak++
			}
			weakest, over, ok := referenceWeakest(c, stiff)
			expects(t, "WeakestBond", ok, weakest, over)(impl.WeakestBond(c.heap, c.list, stiff))
			forces, ok := referenceBondForces(c, stiff, loss)
			expectFinite(t, "BondForces", ok, forces)(impl.BondForces(c.heap, c.list, stiff, loss))
			if ok && len(c.list) > 0 {
				pulled++
			}
			energy, ok := referenceBondEnergy(c, stiff)
			expectFinite(t, "BondEnergy", ok, energy)(impl.BondEnergy(c.heap, c.list, stiff))
		}
	}
	check(t, "many bonds pull", []bool{stretched > 5000, pulled > 300, weak > 100}, "[true true true]")
}
