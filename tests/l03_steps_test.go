package tests

import (
	"math"
	"math/rand"
	"testing"

	"loop.example/g01268/impl"
)

func TestStepHeap(t *testing.T) {
	// They push by 1: 2 for each unit of the mass 1/2, and 1/4 for the mass 4.
	a := impl.Grain{Radius: 1, Mass: 0.5, Turn: 7}
	b := impl.Grain{At: 1.5, Speed: complex(0, 2), Radius: 1, Mass: 4}
	r := impl.Rules{Stiff: 2, Rub: 0.5, Grip: 0.25}
	// The Slide 1 rubs by 1/4: the force on b is 1 - i/4, and both torques are 1/4.
	wantA := impl.Grain{Speed: complex(-1+2, 0.25+4), Radius: 1, Mass: 0.5, Spin: 0.5}
	wantB := impl.Grain{Speed: complex(0.125+2, 2-0.03125+4), Radius: 1, Mass: 4, Spin: 0.0625}
	wantA.At, wantB.At = wantA.Speed/2, 1.5+wantB.Speed/2
	wantA.Turn, wantB.Turn = add32(7, div32(0.25, 6.2831855)), div32(0.03125, 6.2831855)
	gives(t, "StepHeap", heapWith(wantA, wantB), []impl.Touch{touch(0, 1, 1)})(
		impl.StepHeap(heapWith(a, b), r, nil, complex(4, 8), 0.5))
	gives(t, "StepHeap with a grain that is held", heapWith(held(a), wantB), []impl.Touch{touch(0, 1, 1)})(
		impl.StepHeap(heapWith(held(a), b), r, nil, complex(4, 8), 0.5))
	gives(t, "StepHeap with grains that are held", heapWith(held(a), held(b)), []impl.Touch{touch(0, 1, 2)})(
		impl.StepHeap(heapWith(held(a), held(b)), r, []impl.Touch{touch(0, 1, 1)}, complex(4, 8), 0.5))
}

func TestStepsInNoTime(t *testing.T) {
	h := sliding(3)
	r := impl.Rules{Stiff: 1, Rub: 1, Grip: 0.25}
	list := []impl.Touch{touch(0, 1, 1.5)}
	for _, tick := range []float32{0, negativeZero()} {
		gives(t, "StepHeap in no time", h, list)(impl.StepHeap(h, r, list, complex(3, 4), tick))
	}
	gives(t, "StepHeap in no time forgets", facing(1, 0), []impl.Touch{})(impl.StepHeap(facing(1, 0), r, list, 0, 0))
	// The pull 0 of the flight makes +0 of a Speed -0.
	still := heapWith(impl.Grain{Speed: complex(negativeZero(), negativeZero()), Radius: 1, Mass: 1})
	gives(t, "StepHeap of a Speed -0", heapWith(disc(0, 1)), []impl.Touch{})(impl.StepHeap(still, r, nil, 0, 0))
	gives(t, "StepHeap of a held Speed -0", heapWith(held(still.Grains[0])), []impl.Touch{})(
		impl.StepHeap(heapWith(held(still.Grains[0])), r, nil, 0, 0))
	gives(t, "StepHeap without grains", impl.Heap{}, []impl.Touch{})(impl.StepHeap(impl.Heap{}, r, nil, complex(3, 4), 0))
}

func TestStepsFail(t *testing.T) {
	r := impl.Rules{Stiff: 1}
	for _, h := range []impl.Heap{{}, sliding(1)} {
		for _, x := range notFinite() {
			for _, pull := range []complex64{complex(x, 0), complex(0, x)} {
				fails(t, "StepHeap with a wrong pull")(impl.StepHeap(h, r, nil, pull, 0))
				fails(t, "RunHeap with a wrong pull")(impl.RunHeap(h, r, nil, pull, 0, 0))
				fails(t, "SettleHeap with a wrong pull")(impl.SettleHeap(h, r, pull, 0, 1, 1))
			}
		}
		for _, bad := range invalidRules() {
			fails(t, "SettleHeap with wrong rules")(impl.SettleHeap(h, bad, 0, 0, 1, 1))
		}
	}
	for _, bad := range invalidHeaps() {
		fails(t, "SettleHeap with a wrong heap")(impl.SettleHeap(bad, r, 0, 0, 1, 1))
		fails(t, "FastestOf a wrong heap")(impl.FastestOf(bad))
	}
	far := heapWith(disc(3e38, 1))
	fails(t, "StepHeap that goes too far")(impl.StepHeap(far, r, nil, 3e38, 1))
	fails(t, "StepHeap that goes too fast")(impl.StepHeap(far, r, nil, 3e38, 2))
	gives(t, "StepHeap of what is held", heapWith(held(far.Grains[0])), []impl.Touch{})(
		impl.StepHeap(heapWith(held(far.Grains[0])), r, nil, 3e38, 2))
	light := heapWith(impl.Grain{Radius: 1, Mass: number(1)})
	fails(t, "StepHeap of a mass whose inverse is too large")(impl.StepHeap(light, r, nil, 0, 0))
	tiny := heapWith(impl.Grain{Radius: 1e-30, Mass: 1e-30})
	fails(t, "StepHeap of a grain that turns too lightly")(impl.StepHeap(tiny, r, nil, 0, 0))
	tiny.Grains[0].Held = true
	gives(t, "StepHeap of a tiny grain that is held", tiny, []impl.Touch{})(impl.StepHeap(tiny, r, nil, 0, 0))
	fails(t, "StepHeap at one place")(impl.StepHeap(heapWith(held(disc(1, 1)), held(disc(1, 1))), impl.Rules{}, nil, 0, 0))
}

func TestStepsOfManyHeaps(t *testing.T) {
	source := rand.New(rand.NewSource(11))
	succeeded := 0
	for _, s := range heapsThatTouch() {
		pull := somePoint(source, 5)
		for _, tick := range []float32{0, 0.01, float32(source.Float64()), 1e15} {
			h, list, ok := referenceStep(s.heap, s.rules, s.list, pull, tick)
			if !ok {
				fails(t, "StepHeap")(impl.StepHeap(s.heap, s.rules, s.list, pull, tick))
				continue
			}
			gives(t, "StepHeap", h, list)(impl.StepHeap(s.heap, s.rules, s.list, pull, tick))
			if len(list) > 2 {
				succeeded++
			}
		}
	}
	check(t, "most heaps make steps", succeeded > 200, true)
}

// referenceRun makes steps and returns the energies behind them.
func referenceRun(s situation, pull complex64, tick float32, steps int64) (impl.Heap, []impl.Touch, []float32, bool) {
	h, list, energies := s.heap, s.list, []float32{}
	for range steps {
		var ok bool
		if h, list, ok = referenceStep(h, s.rules, list, pull, tick); !ok {
			return impl.Heap{}, nil, nil, false
		}
		energy := referenceEnergy(h, pull)
		if !isFinite(energy) {
			return impl.Heap{}, nil, nil, false
		}
		energies = append(energies, energy)
	}
	return h, list, energies, true
}

func TestRunHeap(t *testing.T) {
	for n, s := range heapsThatTouch() {
		pull, tick := complex64(complex(0.1, -3)), float32(0.01)
		for _, steps := range []int64{0, 1, 2, int64(n % impl.MaxSteps), impl.MaxSteps} {
			h, list, energies, ok := referenceRun(s, pull, tick, steps)
			if ok {
				gives(t, "RunHeap", h, list, energies)(impl.RunHeap(s.heap, s.rules, s.list, pull, tick, steps))
			} else {
				fails(t, "RunHeap")(impl.RunHeap(s.heap, s.rules, s.list, pull, tick, steps))
			}
		}
	}
}

func TestRunHeapSteps(t *testing.T) {
	for _, h := range []impl.Heap{{}, sliding(1)} {
		for _, steps := range []int64{-1, impl.MaxSteps + 1, math.MinInt64, math.MaxInt64, 1 << 32} {
			fails(t, "RunHeap with wrong steps")(impl.RunHeap(h, impl.Rules{}, nil, 0, 0.5, steps))
		}
		_, _, energies, ok := impl.RunHeap(h, impl.Rules{}, nil, 0, 0.5, impl.MaxSteps)
		check(t, "RunHeap with MaxSteps steps", []any{len(energies), ok}, "[48 true]")
	}
	// Without a step, even touches that are none are returned.
	list := []impl.Touch{touch(0, 1, 7)}
	gives(t, "RunHeap without steps", facing(1, 5), list, []float32{})(impl.RunHeap(facing(1, 5), impl.Rules{}, list, 0, 0.5, 0))
	falling := heapWith(impl.Grain{At: complex(0, 8), Radius: 1, Mass: 2})
	// The speeds are -2 and -4, at 6 and 2: the pull gives back what the speed has, less what the ticks take.
	gives(t, "RunHeap", heapWith(impl.Grain{At: complex(0, 2), Speed: complex(0, -4), Radius: 1, Mass: 2}), []impl.Touch{}, []float32{4 + 24, 16 + 8})(
		impl.RunHeap(falling, impl.Rules{}, nil, complex(0, -2), 1, 2))
	heavy := heapWith(impl.Grain{At: 1e30, Radius: 1, Mass: 1e10})
	_, _, ok := impl.StepHeap(heavy, impl.Rules{}, nil, 1, 0)
	check(t, "StepHeap of an energy that is too large succeeds", ok, true)
	fails(t, "RunHeap with an energy that is too large")(impl.RunHeap(heavy, impl.Rules{}, nil, 1, 0, 1))
	gives(t, "RunHeap of no energy", heavy, []impl.Touch{}, []float32{})(impl.RunHeap(heavy, impl.Rules{}, nil, 1, 0, 0))
	leaving := heapWith(impl.Grain{Speed: 1e18, Radius: 1, Mass: 1})
	_, _, energies, ok := impl.RunHeap(leaving, impl.Rules{}, nil, 0, 1e19, 33)
	check(t, "RunHeap that goes far", []any{len(energies), ok}, "[33 true]")
	fails(t, "RunHeap that goes too far at last")(impl.RunHeap(leaving, impl.Rules{}, nil, 0, 1e19, 35))
}

func TestRunsKeepTouches(t *testing.T) {
	r := impl.Rules{Stiff: 1, Rub: 8, Grip: 0.125}
	held2 := heapWith(held(disc(0, 1)), held(impl.Grain{At: 1.5, Speed: complex(0, 1), Radius: 1, Mass: 1}))
	_, list, energies, ok := impl.RunHeap(held2, r, []impl.Touch{touch(0, 1, 2)}, 0, 0.5, 4)
	check(t, "slides go on", told(list, energies, ok), told([]impl.Touch{touch(0, 1, 4)}, repeated(float32(0.5), 4), true))
}

func TestSettleHeap(t *testing.T) {
	r := impl.Rules{}
	slow := heapWith(impl.Grain{Radius: 1, Mass: 1})
	// Each step makes the speed 1 more.
	for near, want := range map[float32]int64{0: 9, 0.5: 9, 1: 1, 2: 1, 100: 1} {
		_, n, ok := impl.SettleHeap(slow, r, 1, 1, near, 9)
		check(t, "SettleHeap that gets faster", []any{n, ok}, []any{want, true})
	}
	braking := heapWith(impl.Grain{Speed: 5, Radius: 1, Mass: 1})
	for _, c := range []struct {
		near       float32
		most, want int64
	}{
		{0, 48, 5}, {0.5, 48, 5}, {1, 48, 4}, {3.5, 48, 2}, {4, 48, 1}, {5, 48, 1}, {inf(1), 48, 1}, {0, 3, 3}, {0, 5, 5}, {0, 4, 4}, {1, 1, 1},
		{negativeZero(), 48, 5}, {-1, 48, 48}, {number(0x80000001), 48, 48}, {inf(-1), 48, 48}, {nan(), 48, 48}, {nan(), 1, 1},
	} {
		want, _, _, _ := impl.RunHeap(braking, r, nil, -1, 1, c.want)
		gives(t, "SettleHeap", want, c.want)(impl.SettleHeap(braking, r, -1, 1, c.near, c.most))
	}
	for _, h := range []impl.Heap{{}, heapWith(held(disc(0, 1))), braking} {
		for _, most := range []int64{0, -1, impl.MaxSteps + 1, math.MinInt64, math.MaxInt64} {
			fails(t, "SettleHeap with wrong steps")(impl.SettleHeap(h, r, 0, 1, inf(1), most))
		}
	}
	for _, h := range []impl.Heap{{}, heapWith(held(impl.Grain{Speed: 3e38, Radius: 1, Mass: 1}))} {
		gives(t, "SettleHeap of what is at rest", h, int64(1))(impl.SettleHeap(h, r, 1, 1, 0, 48))
		gives(t, "SettleHeap of what is never slow", h, int64(48))(impl.SettleHeap(h, r, 1, 1, -1, 48))
	}
}

func TestSettleHeapNeedsTheFastest(t *testing.T) {
	fast := heapWith(impl.Grain{Speed: complex(3e38, 3e38), Radius: 1, Mass: 1})
	_, _, ok := impl.StepHeap(fast, impl.Rules{}, nil, 0, 0)
	check(t, "StepHeap of a fast grain succeeds", ok, true)
	for _, near := range []float32{0, inf(1), nan()} {
		for _, most := range []int64{1, 2, 48} {
			fails(t, "SettleHeap without a fastest one")(impl.SettleHeap(fast, impl.Rules{}, 0, 0, near, most))
		}
	}
	fails(t, "SettleHeap that goes too far")(impl.SettleHeap(heapWith(impl.Grain{Speed: 1e38, Radius: 1, Mass: 1}), impl.Rules{}, 0, 1, 0, 48))
}

func TestSettleHeapMakesSteps(t *testing.T) {
	for n, s := range heapsThatTouch() {
		pull, tick, near := complex64(complex(0, -0.5)), float32(0.02), []float32{0.5, 2, 4, 6}[n%4]
		h, list, steps, ok := s.heap, []impl.Touch{}, int64(0), true
		for ok && steps < 20 {
			h, list, ok = referenceStep(h, s.rules, list, pull, tick)
			steps++
			if ok && !isFinite(referenceFastest(h)) {
				ok = false
			}
			if referenceFastest(h) <= near {
				break
			}
		}
		if ok {
			gives(t, "SettleHeap", h, steps)(impl.SettleHeap(s.heap, s.rules, pull, tick, near, 20))
		} else {
			fails(t, "SettleHeap")(impl.SettleHeap(s.heap, s.rules, pull, tick, near, 20))
		}
	}
}

func TestFastestOf(t *testing.T) {
	at := func(speed complex64) impl.Grain { return impl.Grain{Speed: speed, Radius: 1, Mass: 1} }
	gives(t, "FastestOf", float32(5))(impl.FastestOf(heapWith(at(4), at(complex(-3, 4)), held(at(7)), at(0))))
	gives(t, "FastestOf held ones", float32(0))(impl.FastestOf(heapWith(held(at(7)), held(at(complex(3e38, 3e38))))))
	gives(t, "FastestOf none", float32(0))(impl.FastestOf(impl.Heap{}))
	gives(t, "FastestOf one at rest", float32(0))(impl.FastestOf(heapWith(at(complex(negativeZero(), negativeZero())))))
	gives(t, "FastestOf a slow one", number(1))(impl.FastestOf(heapWith(at(0), at(complex(0, number(0x80000001))))))
	fails(t, "FastestOf too fast ones")(impl.FastestOf(heapWith(at(complex(3e38, 3e38)), at(1))))
	for _, s := range heapsThatTouch() {
		gives(t, "FastestOf", referenceFastest(s.heap))(impl.FastestOf(s.heap))
	}
}
