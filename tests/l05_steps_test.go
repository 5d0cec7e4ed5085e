package tests

import (
	"math"
	"math/rand"
	"testing"

	"loop.example/g01268/impl"
)

func TestStepKnocks(t *testing.T) {
	// Two grains come together with the speed 4, and the second one is pushed down by 2.
	h := meeting(0, 4)
	h.Grains = append(h.Grains, held(disc(complex(0, -9), 1)))
	want := heapWith(disc(0, 1), disc(2, 1), h.Grains[2])
	want.Grains[0].Speed, want.Grains[1].Speed = complex(0, -2), complex(0, -2)
	want.Grains[0].At, want.Grains[1].At = complex(0, -1), complex(2, -1)
	gives(t, "StepKnocks", want, []impl.Knock{knock(0, 1, 2, 0)})(impl.StepKnocks(h, nil, complex(0, -4), 0.5, 0, 0, 0.5, 1))
	// What the knocks had is knocked first, and no more is left to do.
	gives(t, "StepKnocks of warm knocks", want, []impl.Knock{knock(0, 1, 2, 0)})(
		impl.StepKnocks(h, []impl.Knock{knock(0, 1, 2, 0), knock(1, 2, 9, 9)}, complex(0, -4), 0.5, 0, 0, 0.5, 0))
	// Without rounds and warm knocks, they go on into one another.
	through := heapWith(want.Grains[0], want.Grains[1], h.Grains[2])
	through.Grains[0].Speed, through.Grains[1].Speed = complex(2, -2), complex(-2, -2)
	through.Grains[0].At, through.Grains[1].At = complex(1, -1), complex(1, -1)
	gives(t, "StepKnocks without rounds", through, knocks(0, 1))(impl.StepKnocks(h, nil, complex(0, -4), 0.5, 0, 0, 0.5, 0))
	gives(t, "StepKnocks of knocks that are not near", through, knocks())(
		impl.StepKnocks(h, []impl.Knock{knock(0, 1, 2, 0)}, complex(0, -4), 0.5, 0, -0.5, 0.5, impl.MaxRounds))
	gives(t, "StepKnocks without grains", impl.Heap{}, knocks())(impl.StepKnocks(impl.Heap{}, nil, complex(0, -4), 0.5, 0, 0, 0.5, 1))
}

func TestStepKnocksAndZeros(t *testing.T) {
	zeros := complex(negativeZero(), negativeZero())
	g := disc(0, 1)
	g.Speed, g.Spin, g.Turn = zeros, negativeZero(), negativeZero()
	gives(t, "StepKnocks of a Speed -0", heapWith(impl.Grain{Radius: 1, Mass: 1, Turn: negativeZero(), Spin: negativeZero()}), knocks())(
		impl.StepKnocks(heapWith(g), nil, zeros, 0, 0, 0, 1, 1))
	gives(t, "StepKnocks of a held Speed -0", heapWith(held(g)), knocks())(impl.StepKnocks(heapWith(held(g)), nil, 5, 0, 0, 0, 1, 1))
	// Grains that are held are knocked, too: the second one gets +0 + 0 i, and they are not solved.
	other := held(disc(2, 1))
	other.Speed = zeros
	h, list, ok := impl.StepKnocks(heapWith(held(g), other), []impl.Knock{knock(0, 1, 3, 0)}, 5, 0, 0, 0, 1, 1)
	check(t, "StepKnocks of what is held", []any{list, ok}, "[[{0 1 3 0}] true]")
	checkComplex(t, "the first Speed", h.Grains[0].Speed, complex(negativeZero(), negativeZero()))
	checkComplex(t, "the second Speed", h.Grains[1].Speed, 0)
}

func TestStepKnocksFail(t *testing.T) {
	for _, h := range []impl.Heap{{}, meeting(0, 2)} {
		for _, x := range notFinite() {
			for _, pull := range []complex64{complex(x, 0), complex(0, x)} {
				fails(t, "StepKnocks with a wrong pull")(impl.StepKnocks(h, nil, pull, 0, 0, 0, 1, 1))
				for _, steps := range []int64{0, 1} {
					fails(t, "RunKnocks with a wrong pull")(impl.RunKnocks(h, nil, pull, 0, 0, 0, 1, 1, steps))
				}
			}
			fails(t, "StepKnocks with a wrong near")(impl.StepKnocks(h, nil, 0, 0, 0, x, 1, 1))
			for _, steps := range []int64{0, 1} {
				fails(t, "RunKnocks with a wrong near")(impl.RunKnocks(h, nil, 0, 0, 0, x, 1, 1, steps))
			}
		}
		for _, m := range wrongManners() {
			for _, n := range []int64{0, 1} {
				fails(t, "StepKnocks in a wrong manner")(impl.StepKnocks(h, nil, 0, m.rub, m.lean, 0, m.tick, n))
				fails(t, "RunKnocks in a wrong manner")(impl.RunKnocks(h, nil, 0, m.rub, m.lean, 0, m.tick, 1, n))
			}
		}
		for _, rounds := range wrongRounds() {
			fails(t, "StepKnocks with wrong rounds")(impl.StepKnocks(h, nil, 0, 0, 0, 0, 1, rounds))
			for _, steps := range []int64{0, 1} {
				fails(t, "RunKnocks with wrong rounds")(impl.RunKnocks(h, nil, 0, 0, 0, 0, 1, rounds, steps))
			}
		}
		for _, steps := range []int64{-1, impl.MaxSteps + 1, math.MinInt64, math.MaxInt64, 1 << 32} {
			fails(t, "RunKnocks with wrong steps")(impl.RunKnocks(h, nil, 0, 0, 0, 0, 1, 1, steps))
		}
		fails(t, "StepKnocks with a pull that becomes too large")(impl.StepKnocks(h, nil, 3e38, 0, 0, 0, 2, 1))
		_, _, ok := impl.RunKnocks(h, nil, 3e38, 0, 0, 0, 2, 1, 0)
		check(t, "RunKnocks without steps with such a pull", ok, true)
	}
	far := heapWith(disc(3e38, 1))
	fails(t, "StepKnocks that goes too far")(impl.StepKnocks(far, nil, 3e38, 0, 0, 0, 1, 1))
	for _, h := range []impl.Heap{heapWith(disc(1, 1), disc(1, 1)), heapWith(held(disc(1, 1)), held(disc(1, 1)))} {
		fails(t, "StepKnocks at one place")(impl.StepKnocks(h, nil, 0, 0, 0, 0, 1, 0))
		fails(t, "RunKnocks at one place")(impl.RunKnocks(h, nil, 0, 0, 0, 0, 1, 0, 1))
		gives(t, "RunKnocks at one place without steps", h, knocks())(impl.RunKnocks(h, nil, 0, 0, 0, 0, 1, 0, 0))
	}
	fails(t, "StepKnocks of grains too far apart")(impl.StepKnocks(heapWith(disc(-2e38, 1), disc(2e38, 1)), nil, 0, 0, 0, 0, 1, 1))
	fast := meeting(0, 0)
	fast.Grains[1].Speed = 3e38
	fails(t, "StepKnocks that are too fast when they are warm")(impl.StepKnocks(fast, []impl.Knock{knock(0, 1, 3e38, 0)}, 0, 0, 0, 0, 1, 1))
}

func TestRunKnocksSteps(t *testing.T) {
	// Without a step, knocks that are not near are returned as well.
	list := []impl.Knock{knock(0, 1, negativeZero(), 7)}
	gives(t, "RunKnocks without steps", facing(5, 3), list)(impl.RunKnocks(facing(5, 3), list, 1, 0, 0, 0, 1, 1, 0))
	gives(t, "RunKnocks without steps and grains", impl.Heap{}, knocks())(impl.RunKnocks(impl.Heap{}, nil, 1, 0, 0, 0, 1, 1, 0))
	gives(t, "RunKnocks without grains", impl.Heap{}, knocks())(impl.RunKnocks(impl.Heap{}, nil, 1, 0, 0, 0, 1, impl.MaxRounds, impl.MaxSteps))
	// One grain falls for 48 steps.
	falling := heapWith(impl.Grain{Radius: 1, Mass: 2, Spin: 6.2831855})
	gives(t, "RunKnocks with MaxSteps steps", heapWith(impl.Grain{At: complex(0, -48*49/2), Speed: complex(0, -48), Radius: 1, Mass: 2, Turn: 48, Spin: 6.2831855}), knocks())(
		impl.RunKnocks(falling, nil, complex(0, -1), 0, 0, 0, 1, 0, impl.MaxSteps))
}

// standing returns a tower of count grains on one that is held.
func standing(count int) impl.Heap {
	h := impl.Heap{}
	for k := range count {
		h.Grains = append(h.Grains, disc(complex(0, float32(2*k)), 1))
	}
	h.Grains[0].Held = true
	return h
}

func TestTowersStand(t *testing.T) {
	for _, count := range []int{2, 3, 4, 5} {
		h, list, ok := impl.RunKnocks(standing(count), nil, complex(0, -1), 0.5, 0.1, 0.05, 0.05, impl.MaxRounds, impl.MaxSteps)
		check(t, "the knocks", []any{len(list), ok}, []any{count - 1, true})
		for k, g := range h.Grains {
			check(t, "a grain of a tower stands", long32(g.At-complex(0, float32(2*k))) < 0.2, true)
		}
		// The lowest knock bears all grains for a tick.
		check(t, "what is borne", math.Abs(float64(list[0].Push)-0.05*float64(count-1)) < 0.01, true)
		check(t, "the tower is still", impl.IsStill(h, 0.05), true)
	}
}

func TestStepsWithKnocksOfManyHeaps(t *testing.T) {
	source := rand.New(rand.NewSource(32))
	succeeded := 0
	for n, c := range someCollisions() {
		m := motion{pull: somePoint(source, 5), near: []float32{-0.1, 0, 0.3, 2}[source.Intn(4)], rounds: int64(source.Intn(4))}
		h, list, ok := referenceKnockStep(c, m)
		if ok {
			gives(t, "StepKnocks", h, list)(impl.StepKnocks(c.heap, c.list, m.pull, c.rub, c.lean, m.near, c.tick, m.rounds))
		} else {
			fails(t, "StepKnocks")(impl.StepKnocks(c.heap, c.list, m.pull, c.rub, c.lean, m.near, c.tick, m.rounds))
		}
		for _, steps := range []int64{0, 1, 3, int64(n % impl.MaxSteps)} {
			h, list, ok := referenceKnockRun(c, m, steps)
			if ok {
				gives(t, "RunKnocks", h, list)(impl.RunKnocks(c.heap, c.list, m.pull, c.rub, c.lean, m.near, c.tick, m.rounds, steps))
			} else {
				fails(t, "RunKnocks")(impl.RunKnocks(c.heap, c.list, m.pull, c.rub, c.lean, m.near, c.tick, m.rounds, steps))
			}
			if ok && steps > 0 && len(list) > 2 {
				succeeded++
			}
		}
	}
	check(t, "most heaps make steps", succeeded > 100, true)
}

func TestPushesOnGrains(t *testing.T) {
	h := fullHeap(5)
	list := []impl.Knock{knock(0, 1, 1, 9), knock(0, 3, 2, -9), knock(1, 3, 4, 0), knock(2, 3, negativeZero(), 1)}
	gives(t, "PushesOnGrains", []float32{3, 5, 0, 6, 0})(impl.PushesOnGrains(h, list))
	gives(t, "PushesOnGrains without knocks", make([]float32, 5))(impl.PushesOnGrains(h, nil))
	gives(t, "PushesOnGrains without grains", []float32{})(impl.PushesOnGrains(impl.Heap{}, nil))
	gives(t, "PushesOnGrains anywhere", []float32{2, 2})(impl.PushesOnGrains(heapWith(held(disc(1, 1)), held(disc(1, 1))), []impl.Knock{knock(0, 1, 2, 0)}))
	gives(t, "PushesOnGrains of large ones", []float32{2e38, 3e38, 1e38, 0, 0})(impl.PushesOnGrains(h, []impl.Knock{knock(0, 1, 2e38, 0), knock(1, 2, 1e38, 0)}))
	fails(t, "PushesOnGrains that are too large")(impl.PushesOnGrains(h, []impl.Knock{knock(0, 1, 2e38, 0), knock(1, 2, 2e38, 0)}))
	// The sums go in order.
	gives(t, "PushesOnGrains in order", []float32{1 << 24, 1 << 24, 1, 1, 0})(
		impl.PushesOnGrains(h, []impl.Knock{knock(0, 1, 1<<24, 0), knock(0, 2, 1, 0), knock(1, 3, 1, 0)}))
	gives(t, "PushesOnGrains in order", []float32{1<<24 + 2, 1, 1, 1 << 24, 0})(
		impl.PushesOnGrains(h, []impl.Knock{knock(0, 1, 1, 0), knock(0, 2, 1, 0), knock(0, 3, 1<<24, 0)}))
	star, ties := star(23, 7)
	for n := range ties {
		ties[n].Push = 1
	}
	pushes, ok := impl.PushesOnGrains(star, ties)
	check(t, "PushesOnGrains of one with all others", []any{pushes[7], pushes[0], pushes[23], ok}, "[23 1 1 true]")
}

func TestIsStill(t *testing.T) {
	slow := impl.Grain{Speed: complex(3, -4), Radius: 1, Mass: 1, Spin: -2}
	turning := impl.Grain{Speed: 1, Radius: 1, Mass: 1, Spin: -7}
	for _, c := range []struct {
		h    impl.Heap
		near float32
		want bool
	}{
		{heapWith(slow), 5, true}, {heapWith(slow), number(0x409fffff), false}, {heapWith(slow), 6, true}, {heapWith(slow), inf(1), true}, {heapWith(slow), 0, false},
		{heapWith(turning), 5, false}, {heapWith(turning), 7, true}, {heapWith(turning), number(0x40dfffff), false},
		{heapWith(slow, turning), 5, false}, {heapWith(turning, slow), 6, false}, {heapWith(slow, turning), 7, true},
		{heapWith(slow, held(turning)), 5, true}, {heapWith(held(turning), slow), 4, false}, {heapWith(held(slow), held(turning)), 0, true},
		{heapWith(held(slow)), -1, true}, {heapWith(held(slow)), nan(), true}, {heapWith(held(slow)), inf(-1), true},
		{heapWith(disc(0, 1)), 0, true}, {heapWith(disc(0, 1)), negativeZero(), true}, {heapWith(disc(0, 1)), number(0x80000001), false}, {heapWith(disc(0, 1)), -1, false},
		{heapWith(disc(0, 1)), nan(), false}, {heapWith(slow), nan(), false}, {heapWith(disc(0, 1)), inf(-1), false},
		{impl.Heap{}, nan(), true}, {impl.Heap{}, -1, true}, {impl.Heap{}, 0, true},
	} {
		check(t, "IsStill "+told(c.h, c.near), impl.IsStill(c.h, c.near), c.want)
	}
	fast := heapWith(impl.Grain{Speed: complex(3e38, 3e38), Radius: 1, Mass: 1})
	check(t, "what is too fast is not still", impl.IsStill(fast, math.MaxFloat32), false)
	check(t, "what is too fast is still for infinity", impl.IsStill(fast, inf(1)), true)
	for _, bad := range invalidHeaps() {
		for _, near := range []float32{0, math.MaxFloat32, inf(1)} {
			check(t, "a wrong heap is not still", impl.IsStill(bad, near), false)
		}
	}
	for _, h := range someHeaps() {
		for _, near := range []float32{0, 1, 3, 5, 9} {
			want := true
			for _, g := range h.Grains {
				want = want && (g.Held || long32(g.Speed) <= near && math.Abs(float64(g.Spin)) <= float64(near))
			}
			check(t, "IsStill", impl.IsStill(h, near), want)
		}
	}
}
