package tests

import (
	"math"
	"math/rand"
	"testing"

	"loop.example/g01268/impl"
)

func TestStepBonds(t *testing.T) {
	h := heapWith(disc(0, 1), heavy(disc(3, 1), 2), held(disc(complex(0, 5), 1)))
	h.Grains[0].Spin, h.Grains[0].Turn, h.Grains[1].Speed = 6.2831855, 3, complex(0, 1)
	// The first bond pulls by 4, and the second one by 8; the first grain is pulled by 4 + 8 i.
	list := []impl.Bond{bond(0, 1, 1, 4), bond(0, 2, 1, 9)}
	want := heapWith(append([]impl.Grain{}, h.Grains...)...)
	want.Grains[0].Speed, want.Grains[0].At, want.Grains[0].Turn = complex(2, 3), complex(1, 1.5), 3.5
	want.Grains[1].Speed, want.Grains[1].At = complex(-1, 0), complex(2.5, 0)
	gives(t, "StepBonds", want, list, int64(0))(impl.StepBonds(h, list, 2, 0, complex(0, -2), 0.5))
	// The second bond is just too weak, and pulls no more.
	list[1].Strength = number(0x40ffffff)
	want.Grains[0].Speed, want.Grains[0].At = complex(2, -1), complex(1, -0.5)
	gives(t, "StepBonds with a bond that snaps", want, list[:1], int64(1))(impl.StepBonds(h, list, 2, 0, complex(0, -2), 0.5))
	// A loss pulls back what goes away, and the bonds hold as without it.
	h.Grains[1].Speed = 1
	want.Grains[0].Speed, want.Grains[0].At = 7, 3.5
	want.Grains[1].Speed, want.Grains[1].At = -2.5, 1.75
	gives(t, "StepBonds with a loss", want, list[:1], int64(1))(impl.StepBonds(h, list, 2, 10, 0, 0.5))
	gives(t, "StepBonds without grains", impl.Heap{}, bonds(), int64(0))(impl.StepBonds(impl.Heap{}, nil, 2, 1, complex(0, -2), 0.5))
}

func TestStepBondsSnap(t *testing.T) {
	// All bonds snap in one step, and the grains go on as before.
	h := beads(0, 3, 6, 12)
	h.Grains[2].Speed = complex(1, 2)
	moved := beads(0, 3, 6, 12)
	moved.Grains[2].Speed, moved.Grains[2].At = complex(1, 2), complex(7, 2)
	list := bonds(0, 1, 0, 2, 1, 2, 2, 3)
	gives(t, "StepBonds all of which snap", moved, bonds(), int64(4))(impl.StepBonds(h, list, 2, 5, 0, 1))
	gives(t, "RunBonds all of which snap", moved, bonds(), []int64{4})(impl.RunBonds(h, list, 2, 5, 0, 1, 1))
	_, kept, counts, ok := impl.RunBonds(h, list, 2, 5, 0, 1, 3)
	check(t, "RunBonds all of which snap at first", told(kept, counts, ok), "[] [4 0 0] true")
	// With a tick of 0 nothing moves, but bonds snap.
	for _, tick := range []float32{0, negativeZero()} {
		gives(t, "StepBonds without a tick", h, bonds(0, 1, 1, 2), int64(2))(impl.StepBonds(h, list, 1, 5, 3, tick))
	}
	// What bears an infinite load snaps, and then pulls no more.
	gives(t, "StepBonds with a bond that bears too much", beads(0, 9), bonds(), int64(1))(impl.StepBonds(beads(0, 9), []impl.Bond{bond(0, 1, 1, math.MaxFloat32)}, 3e38, 0, 0, 1))
	// At one place, there is no way, which no bond asks for that snaps.
	same := beads(5, 5)
	gives(t, "StepBonds at one place that snap", same, bonds(), int64(1))(impl.StepBonds(same, bonds(0, 1), 3, 0, 0, 1))
	fails(t, "StepBonds at one place that hold")(impl.StepBonds(same, bonds(0, 1), 2, 0, 0, 1))
	fails(t, "StepBonds at one place without stiff")(impl.StepBonds(same, bonds(0, 1), 0, 0, 0, 1))
	// A bond that is stretched more and more snaps later.
	parting := heapWith(held(disc(0, 1)), disc(2, 1))
	parting.Grains[1].Speed = 1
	_, kept, counts, ok = impl.RunBonds(parting, []impl.Bond{bond(0, 1, 2, 0.25)}, 0.0625, 0, 0, 1, 10)
	check(t, "RunBonds that snap later", []any{kept, counts, ok}, "[[] [0 0 0 0 0 0 1 0 0 0] true]")
}

func TestStepBondsAndZeros(t *testing.T) {
	g := disc(negativeZeros(), 1)
	g.Speed, g.Spin, g.Turn = negativeZeros(), negativeZero(), negativeZero()
	want := heapWith(impl.Grain{Radius: 1, Mass: 1, Turn: negativeZero(), Spin: negativeZero()})
	gives(t, "StepBonds of a Speed -0", want, bonds(), int64(0))(impl.StepBonds(heapWith(g), nil, 0, 0, negativeZeros(), 1))
	gives(t, "StepBonds of a held Speed -0", heapWith(held(g)), bonds(), int64(0))(impl.StepBonds(heapWith(held(g)), nil, 0, 0, 5, 1))
	// Each grain gets a Speed, also if its force is +0: -0 + (+0) is +0, and -0 + (-0) is -0.
	h, _, _, ok := impl.StepBonds(heapWith(g), nil, 0, 0, 0, negativeZero())
	check(t, "StepBonds with a tick -0 succeeds", ok, true)
	checkComplex(t, "the Speed", h.Grains[0].Speed, negativeZeros())
	checkComplex(t, "the place", h.Grains[0].At, 0)
}

func TestStepBondsFail(t *testing.T) {
	for _, h := range []impl.Heap{{}, facing(1, 0), heapWith(held(disc(0, 1)))} {
		for _, x := range notFinite() {
			for _, pull := range []complex64{complex(x, 0), complex(0, x)} {
				fails(t, "StepBonds with a wrong pull")(impl.StepBonds(h, nil, 1, 1, pull, 1))
				for _, steps := range []int64{0, 1} {
					fails(t, "RunBonds with a wrong pull")(impl.RunBonds(h, nil, 1, 1, pull, 1, steps))
				}
			}
		}
		for _, x := range wrongStiffs() {
			fails(t, "StepBonds with a wrong stiff")(impl.StepBonds(h, nil, x, 1, 0, 1))
			fails(t, "StepBonds with a wrong loss")(impl.StepBonds(h, nil, 1, x, 0, 1))
			fails(t, "StepBonds with a wrong tick")(impl.StepBonds(h, nil, 1, 1, 0, x))
			for _, steps := range []int64{0, 1} {
				fails(t, "RunBonds with a wrong stiff")(impl.RunBonds(h, nil, x, 1, 0, 1, steps))
				fails(t, "RunBonds with a wrong loss")(impl.RunBonds(h, nil, 1, x, 0, 1, steps))
				fails(t, "RunBonds with a wrong tick")(impl.RunBonds(h, nil, 1, 1, 0, x, steps))
			}
		}
		for _, steps := range wrongSteps() {
			fails(t, "RunBonds with wrong steps")(impl.RunBonds(h, nil, 1, 1, 0, 1, steps))
		}
	}
	h := facing(1, 0)
	fails(t, "StepBonds with a pull that becomes too large")(impl.StepBonds(h, nil, 1, 1, 3e38, 2))
	fails(t, "StepBonds with a force that is too large")(impl.StepBonds(h, []impl.Bond{bond(0, 1, 3, 0), bond(0, 1, 1, 1)}, 1, 0, 0, 1))
	fails(t, "StepBonds of too light a grain")(impl.StepBonds(heapWith(heavy(disc(0, 1), 1e-40)), nil, 1, 0, 0, 0))
	gives(t, "StepBonds of a light grain that is held", heapWith(held(heavy(disc(0, 1), 1e-40))), bonds(), int64(0))(
		impl.StepBonds(heapWith(held(heavy(disc(0, 1), 1e-40))), nil, 1, 0, 0, 0))
	fast := facing(1, 3e38)
	fails(t, "StepBonds of a grain that goes too far")(impl.StepBonds(fast, nil, 1, 0, 0, 2))
	gives(t, "RunBonds without steps", fast, bonds(0, 1), []int64{})(impl.RunBonds(fast, bonds(0, 1), 1, 0, 3e38, 2, 0))
	fails(t, "RunBonds with a step that fails")(impl.RunBonds(fast, nil, 1, 0, 0, 2, 1))
	fails(t, "RunBonds with a last step that fails")(impl.RunBonds(facing(1, 1e38), nil, 1, 0, 0, 1, 4))
	_, _, _, ok := impl.RunBonds(facing(1, 1e38), nil, 1, 0, 0, 1, 3)
	check(t, "RunBonds with less steps", ok, true)
	// The spread of a grain does not matter, nor does its Spin become another one.
	small := heapWith(impl.Grain{Radius: 1e-30, Mass: 1, Spin: negativeZero()})
	next := heapWith(impl.Grain{At: 1, Speed: 1, Radius: 1e-30, Mass: 1, Spin: negativeZero()})
	gives(t, "StepBonds of a small grain", next, bonds(), int64(0))(impl.StepBonds(small, nil, 1, 0, 1, 1))
}

func TestRunBonds(t *testing.T) {
	gives(t, "RunBonds without grains", impl.Heap{}, bonds(), make([]int64, 48))(impl.RunBonds(impl.Heap{}, nil, 1, 0, 0, 1, impl.MaxSteps))
	gives(t, "RunBonds without grains and steps", impl.Heap{}, bonds(), []int64{})(impl.RunBonds(impl.Heap{}, nil, 1, 0, 0, 1, 0))
	// One grain falls for 48 steps.
	falling := heapWith(impl.Grain{Radius: 1, Mass: 2, Spin: 6.2831855})
	gives(t, "RunBonds with MaxSteps steps", heapWith(impl.Grain{At: complex(0, -48*49/2), Speed: complex(0, -48), Radius: 1, Mass: 2, Turn: 48, Spin: 6.2831855}), bonds(), make([]int64, 48))(
		impl.RunBonds(falling, nil, 1, 0, complex(0, -1), 1, impl.MaxSteps))
	// A grain swings at a bond around its Long.
	h := heapWith(held(disc(0, 1)), disc(3, 1))
	last, list, counts, ok := impl.RunBonds(h, []impl.Bond{bond(0, 1, 2, 1.25)}, 1, 0, 0, 0.131, impl.MaxSteps)
	check(t, "RunBonds succeeds", []any{len(list), counts, ok}, []any{1, make([]int64, 48), true})
	check(t, "a grain is back behind one swing", math.Abs(float64(real(last.Grains[1].At))-3) < 0.01 && math.Abs(float64(real(last.Grains[1].Speed))) < 0.1, true)
	// With a loss, it comes to rest.
	last, _, _, ok = impl.RunBonds(h, bonds(0, 1), 1, 2, 0, 0.5, impl.MaxSteps)
	check(t, "RunBonds succeeds", ok, true)
	check(t, "a grain comes to rest", long32(last.Grains[1].At-1) < 1e-3 && impl.IsStill(last, 1e-3), true)
}

// somePulling returns how steps are made, often with a 0.
func somePulling(source *rand.Rand) pulling {
	stiffs := []float32{0, negativeZero(), 0.5, 4, float32(8 * source.Float64()), 1e20}
	losses := []float32{0, 0, 1, float32(source.Float64()), negativeZero()}
	ticks := []float32{0, negativeZero(), 0.125, float32(source.Float64()), 1, 1e10}
	return pulling{stiffs[source.Intn(len(stiffs))], losses[source.Intn(len(losses))], somePoint(source, float64(source.Intn(5))), ticks[source.Intn(len(ticks))]}
}

func TestStepsWithBondsOfManyHeaps(t *testing.T) {
	source := rand.New(rand.NewSource(64))
	pulled, snapping := 0, 0
	for n, c := range someTies() {
		for range 4 {
			p := somePulling(source)
			next, snapped, ok := referenceBondStep(c, p)
			expects(t, "StepBonds", ok, next.heap, next.list, snapped)(impl.StepBonds(c.heap, c.list, p.stiff, p.loss, p.pull, p.tick))
			for _, steps := range []int64{0, 1, 3, int64(n % (impl.MaxSteps + 1))} {
				last, counts, ok := referenceBondRun(c, p, steps)
				expects(t, "RunBonds", ok, last.heap, last.list, counts)(impl.RunBonds(c.heap, c.list, p.stiff, p.loss, p.pull, p.tick, steps))
				if ok && steps > 2 && len(last.list) > 2 {
					pulled++
				}
				if ok && steps > 2 && counts[0]+counts[1] < int64(len(c.list)-len(last.list)) {
					snapping++
				}
			}
		}
	}
	check(t, "many heaps make steps", []bool{pulled > 300, snapping > 100}, "[true true]")
}
