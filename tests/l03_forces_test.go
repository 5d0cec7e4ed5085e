package tests

import (
	"math"
	"testing"

	"loop.example/g01268/impl"
)

// facing returns two grains of the radius 1 with this gap, of which the second
// one goes away with this speed.
func facing(gap float32, speed complex64) impl.Heap {
	b := disc(complex(2+gap, 0), 1)
	b.Speed = speed
	return heapWith(disc(0, 1), b)
}

func TestPushOf(t *testing.T) {
	r := impl.Rules{Stiff: 4, Loss: 3}
	for _, c := range []struct {
		gap, speed, want float32
	}{
		{-0.5, 0, 2}, {-0.5, -1, 5}, {-0.5, 0.5, 0.5}, {-0.5, 1, 0}, {-0.5, 0.75, 0}, {-1, negativeZero(), 4},
		{0, -2, 6}, {0, 2, 0}, {0, 0, 0}, {0, negativeZero(), 0}, {1, -100, 0}, {number(0x35000000), -100, 0},
	} {
		for _, side := range [][2]int64{{0, 1}, {1, 0}} {
			gives(t, "PushOf", c.want)(impl.PushOf(facing(c.gap, complex(c.speed, 7)), r, side[0], side[1]))
		}
	}
	for _, r := range []impl.Rules{{}, {Rub: 1, Grip: 1}, {Stiff: negativeZero(), Loss: negativeZero()}} {
		for _, speed := range []complex64{0, 1, -1} {
			gives(t, "PushOf without Stiff and Loss", float32(0))(impl.PushOf(facing(-0.5, speed), r, 0, 1))
		}
	}
	gives(t, "PushOf without Stiff", float32(3))(impl.PushOf(facing(-0.5, -1), impl.Rules{Loss: 3}, 0, 1))
	gives(t, "PushOf without Loss", float32(1))(impl.PushOf(facing(-0.5, 100), impl.Rules{Stiff: 2}, 0, 1))
	both := heapWith(held(disc(0, 1)), held(disc(1.5, 1)))
	gives(t, "PushOf grains that are held", float32(2))(impl.PushOf(both, r, 0, 1))
}

func TestPushOfFails(t *testing.T) {
	h := heapWith(disc(0, 1), disc(1.5, 1), disc(3, 1))
	for _, i := range wrongIndices(3) {
		fails(t, "PushOf no grain")(impl.PushOf(h, usualRules(), i, 1))
		fails(t, "PushOf no grain")(impl.PushOf(h, usualRules(), 1, i))
		fails(t, "PushOf no grain")(impl.PushOf(h, usualRules(), i, i))
	}
	for i := range int64(3) {
		fails(t, "PushOf one grain")(impl.PushOf(h, usualRules(), i, i))
	}
	for _, r := range invalidRules() {
		fails(t, "PushOf with wrong rules")(impl.PushOf(h, r, 0, 1))
		fails(t, "PushOf apart with wrong rules")(impl.PushOf(facing(1, 0), r, 0, 1))
	}
	for _, bad := range invalidHeaps() {
		fails(t, "PushOf in a wrong heap")(impl.PushOf(bad, usualRules(), 0, 1))
	}
	fails(t, "PushOf grains at one place")(impl.PushOf(heapWith(disc(1, 1), disc(1, 1)), impl.Rules{}, 0, 1))
	fails(t, "PushOf grains too far away")(impl.PushOf(heapWith(disc(-2e38, 1), disc(2e38, 1)), impl.Rules{}, 0, 1))
}

func TestPushOfIsFinite(t *testing.T) {
	wide := heapWith(disc(0, 8), disc(1, 8))
	wide.Grains[1].Speed = 100
	fails(t, "PushOf that is too large")(impl.PushOf(wide, impl.Rules{Stiff: 3e38}, 0, 1))
	fails(t, "PushOf that is too small")(impl.PushOf(wide, impl.Rules{Loss: 3e38}, 0, 1))
	fails(t, "PushOf that is no number")(impl.PushOf(wide, impl.Rules{Stiff: 3e38, Loss: 3e38}, 0, 1))
	// What is apart has no push, however fast it slides.
	fast := facing(1, -3e38)
	fast.Grains[0].Speed = 3e38
	gives(t, "PushOf fast grains apart", float32(0))(impl.PushOf(fast, usualRules(), 0, 1))
	fast.Grains[1].At = 2
	fails(t, "PushOf fast grains that touch")(impl.PushOf(fast, impl.Rules{}, 0, 1))
	// SlideOf fails for its second number too.
	turning := facing(-0.5, 0)
	turning.Grains[0].Spin, turning.Grains[1].Spin = 3e38, 3e38
	fails(t, "PushOf grains that turn too fast")(impl.PushOf(turning, impl.Rules{}, 0, 1))
}

// pressed returns two grains that push one another by push, for the Stiff 1
// and no Loss; the push is a few powers of 2.
func pressed(push float32) impl.Heap {
	return facing(-push, 0)
}

func TestRubOf(t *testing.T) {
	r := impl.Rules{Stiff: 1, Rub: 0.5, Grip: 2}
	for _, c := range []struct{ slide, want float32 }{
		{0.0625, -0.125}, {-0.0625, 0.125}, {0, negativeZero()}, {negativeZero(), 0},
		{0.125, -0.25}, {-0.125, 0.25}, {number(0x3e000001), -0.25}, {-number(0x3e000001), 0.25},
		{number(0x3dffffff), -number(0x3e7fffff)}, {1, -0.25}, {-1, 0.25}, {3e38, -0.25}, {-3e38, 0.25},
	} {
		gives(t, "RubOf", c.want)(impl.RubOf(pressed(0.5), r, touch(0, 1, c.slide)))
	}
	gives(t, "RubOf without Grip", negativeZero())(impl.RubOf(pressed(0.5), impl.Rules{Stiff: 1, Rub: 1}, touch(0, 1, 9)))
	gives(t, "RubOf without Grip", float32(0))(impl.RubOf(pressed(0.5), impl.Rules{Stiff: 1, Rub: 1}, touch(0, 1, -9)))
	for _, r := range []impl.Rules{{Stiff: 1, Grip: 1}, {Rub: 1, Grip: 1}, {Grip: 1}} {
		gives(t, "RubOf without what it may", negativeZero())(impl.RubOf(pressed(0.5), r, touch(0, 1, 9)))
		gives(t, "RubOf without what it may", float32(0))(impl.RubOf(pressed(0.5), r, touch(0, 1, -9)))
	}
	for _, slide := range []float32{5, number(1)} {
		gives(t, "RubOf apart", negativeZero())(impl.RubOf(facing(1, -5), usualRules(), touch(0, 1, slide)))
		gives(t, "RubOf apart", float32(0))(impl.RubOf(facing(1, -5), usualRules(), touch(0, 1, -slide)))
	}
}

func TestRubOfIsFinite(t *testing.T) {
	r := impl.Rules{Stiff: 16, Rub: 3e38, Grip: 2}
	for _, slide := range []float32{4, -4, 1e38} {
		gives(t, "RubOf with an infinite bound", -2*slide)(impl.RubOf(pressed(0.5), r, touch(0, 1, slide)))
	}
	for _, slide := range []float32{3e38, -3e38} {
		fails(t, "RubOf that is too much")(impl.RubOf(pressed(0.5), r, touch(0, 1, slide)))
		fails(t, "SlipShare of too much")(impl.SlipShare(pressed(0.5), r, touch(0, 1, slide)))
		gives(t, "RubOf with a bound", float32(math.Copysign(0.5, -float64(slide))))(impl.RubOf(pressed(0.5), impl.Rules{Stiff: 1, Rub: 1, Grip: 2}, touch(0, 1, slide)))
	}
}

func TestSlipShare(t *testing.T) {
	r := impl.Rules{Stiff: 1, Rub: 0.5, Grip: 2}
	for _, c := range []struct{ slide, want float32 }{
		{0, 0}, {negativeZero(), 0}, {0.0625, 0.5}, {-0.0625, 0.5}, {0.125, 1}, {-0.125, 1}, {7, 1}, {-3e38, 1}, {number(0x3dffffff), number(0x3f7fffff)},
	} {
		gives(t, "SlipShare", c.want)(impl.SlipShare(pressed(0.5), r, touch(0, 1, c.slide)))
		gives(t, "SlipShare apart", float32(0))(impl.SlipShare(facing(1, 0), r, touch(0, 1, c.slide)))
		for _, none := range []impl.Rules{{Stiff: 1, Grip: 1}, {Stiff: 1, Grip: 1, Rub: negativeZero()}, {Rub: 1, Grip: 1}, {Stiff: 1, Rub: 1}} {
			gives(t, "SlipShare without what it may", float32(0))(impl.SlipShare(pressed(0.5), none, touch(0, 1, c.slide)))
		}
	}
	endless := impl.Rules{Stiff: 16, Rub: 3e38, Grip: 2}
	gives(t, "SlipShare of an infinite bound", float32(0))(impl.SlipShare(pressed(0.5), endless, touch(0, 1, 1)))
	gives(t, "SlipShare of an infinite bound", float32(0))(impl.SlipShare(pressed(0.5), endless, touch(0, 1, -1)))
	tiny := impl.Rules{Stiff: 1, Rub: number(1), Grip: 1}
	gives(t, "SlipShare of a tiny bound", float32(1))(impl.SlipShare(pressed(1), tiny, touch(0, 1, number(1))))
	gives(t, "SlipShare of a bound that is rounded to 0", float32(0))(impl.SlipShare(pressed(0.25), tiny, touch(0, 1, number(1))))
}

func failsForTouch(t *testing.T, h impl.Heap, r impl.Rules, one impl.Touch) {
	t.Helper()
	fails(t, "RubOf")(impl.RubOf(h, r, one))
	fails(t, "SlipShare")(impl.SlipShare(h, r, one))
}

func TestRubOfFails(t *testing.T) {
	h := heapWith(disc(0, 1), disc(1.5, 1), disc(3, 1))
	for _, wrong := range wrongTouches(3) {
		failsForTouch(t, h, usualRules(), wrong)
	}
	for _, r := range invalidRules() {
		failsForTouch(t, h, r, touch(0, 1, 0))
		failsForTouch(t, facing(1, 0), r, touch(0, 1, 0))
	}
	for _, bad := range invalidHeaps() {
		failsForTouch(t, bad, usualRules(), touch(0, 1, 0))
	}
	failsForTouch(t, heapWith(disc(1, 1), disc(1, 1)), usualRules(), touch(0, 1, 0))
	failsForTouch(t, heapWith(disc(-2e38, 1), disc(2e38, 1)), usualRules(), touch(0, 1, 0))
	failsForTouch(t, facing(-0.5, 100), impl.Rules{Loss: 3e38}, touch(0, 1, 0))
}

func TestForcesOfOnePair(t *testing.T) {
	h := heapWith(impl.Grain{Radius: 2, Mass: 1}, impl.Grain{At: complex(0, 3), Radius: 3, Mass: 5, Held: true}, disc(50, 1))
	r := impl.Rules{Stiff: 2, Rub: 0.25, Grip: 1}
	// They push by 4 along the way up, and rub by 1 to the left of it at most.
	for _, c := range []struct{ slide, rub float32 }{{0.5, -0.5}, {-0.5, 0.5}, {8, -1}, {-8, 1}} {
		force := complex(-c.rub, 4)
		gives(t, "ForcesOn", []complex64{-force, force, 0}, []float32{-2 * c.rub, -3 * c.rub, 0})(
			impl.ForcesOn(h, r, []impl.Touch{touch(0, 1, c.slide)}))
	}
	gives(t, "ForcesOn grains apart", make([]complex64, 3), make([]float32, 3))(impl.ForcesOn(h, r, []impl.Touch{touch(1, 2, -1)}))
	gives(t, "ForcesOn without touches", make([]complex64, 3), make([]float32, 3))(impl.ForcesOn(h, r, nil))
	gives(t, "ForcesOn without grains", []complex64{}, []float32{})(impl.ForcesOn(impl.Heap{}, r, nil))
}

func TestForcesGoInOrder(t *testing.T) {
	r := impl.Rules{Stiff: 1 << 23}
	left, middle, right := disc(-1, 8), disc(0, 1), disc(1, 8)
	near := disc(complex(number(0x3fffffff), 0), 1) // it pushes by 1, and both others by 2^26
	last, _, ok := impl.ForcesOn(heapWith(left, middle, right, near), r, touches(0, 1, 1, 2, 1, 3))
	check(t, "the little push last", []any{last[1], ok}, "[(-1+0i) true]")
	second, _, ok := impl.ForcesOn(heapWith(left, middle, near, right), r, touches(0, 1, 1, 2, 1, 3))
	check(t, "the little push second", []any{second[1], ok}, "[(0+0i) true]")
	check(t, "the push on both sides", []any{last[3], second[2]}, "[(1+0i) (1+0i)]")
}

// failsForTouches checks all functions with lists of touches and nothing else.
func failsForTouches(t *testing.T, h impl.Heap, r impl.Rules, list []impl.Touch) {
	t.Helper()
	fails(t, "ForcesOn")(impl.ForcesOn(h, r, list))
	for _, workers := range []int64{1, 8} {
		fails(t, "ForcesShared")(impl.ForcesShared(h, r, list, workers))
	}
	fails(t, "PressesOf")(impl.PressesOf(h, r, list))
	fails(t, "StrongestTouch")(impl.StrongestTouch(h, r, list))
	fails(t, "RubTouches")(impl.RubTouches(h, r, list, 0.5))
	fails(t, "StepHeap")(impl.StepHeap(h, r, list, 0, 0.5))
	for _, steps := range []int64{0, 1} {
		fails(t, "RunHeap")(impl.RunHeap(h, r, list, 0, 0.5, steps))
	}
}

func TestWrongTouches(t *testing.T) {
	h := heapWith(disc(0, 1), disc(1.5, 1), disc(3, 1))
	for _, list := range wrongLists(3) {
		failsForTouches(t, h, usualRules(), list)
		failsForTouches(t, h, impl.Rules{}, list)
	}
	failsForTouches(t, clusters(24), usualRules(), allPairs(24, impl.MaxTouches+1))
	for _, r := range invalidRules() {
		failsForTouches(t, h, r, nil)
		failsForTouches(t, h, r, touches(0, 1))
		failsForTouches(t, impl.Heap{}, r, nil)
	}
	for _, bad := range invalidHeaps() {
		failsForTouches(t, bad, usualRules(), nil)
		failsForTouches(t, bad, usualRules(), touches(0, 1))
	}
	for _, list := range [][]impl.Touch{touches(0, 1), {{}}} {
		failsForTouches(t, impl.Heap{}, usualRules(), list)
		failsForTouches(t, fullHeap(1), usualRules(), list)
	}
}

func TestForcesAreFinite(t *testing.T) {
	h := heapWith(disc(0, 1), disc(1.5, 1), disc(1.5, 1), disc(complex(0, 9), 1))
	r := impl.Rules{Stiff: 3e38}
	for _, list := range [][]impl.Touch{touches(0, 1), touches(0, 2), touches(0, 1, 1, 3)} {
		_, _, ok := impl.ForcesOn(h, r, list)
		check(t, "ForcesOn with large forces succeeds", ok, true)
	}
	double := impl.Rules{Stiff: 3.2e38, Loss: 1e38}
	h.Grains[0].Speed = 1
	fails(t, "ForcesOn with a sum that is too large")(impl.ForcesOn(h, double, touches(0, 1, 0, 2)))
	fails(t, "ForcesShared with a sum that is too large")(impl.ForcesShared(h, double, touches(0, 1, 0, 2), 3))
	fails(t, "PressesOf a sum that is too large")(impl.PressesOf(h, double, touches(0, 1, 0, 2)))
	fails(t, "ForcesOn grains at one place")(impl.ForcesOn(h, r, touches(1, 2)))
	wide := heapWith(impl.Grain{Radius: 2e38, Mass: 1}, impl.Grain{At: 1.9e38, Radius: 1, Mass: 1})
	turning := impl.Rules{Stiff: 1e-30, Rub: 1, Grip: 1}
	fails(t, "ForcesOn with a torque that is too large")(impl.ForcesOn(wide, turning, []impl.Touch{touch(0, 1, 8)}))
	far := heapWith(disc(complex(-3e38, 0), 1), disc(complex(3e38, 0), 1))
	fails(t, "ForcesOn grains that are too far apart")(impl.ForcesOn(far, r, touches(0, 1)))
}

func TestForcesOfManyHeaps(t *testing.T) {
	succeeded := 0
	for _, s := range heapsThatTouch() {
		for _, one := range s.list {
			push, ok := referencePush(s.rules, s.heap.Grains[one.A], s.heap.Grains[one.B])
			expectFinite(t, "PushOf", ok, push)(impl.PushOf(s.heap, s.rules, one.A, one.B))
			back, ok := referencePush(s.rules, s.heap.Grains[one.B], s.heap.Grains[one.A])
			expectFinite(t, "PushOf from the other side", ok, back)(impl.PushOf(s.heap, s.rules, one.B, one.A))
			rub, _, ok := referenceRub(s.heap, s.rules, one)
			expectFinite(t, "RubOf", ok, rub)(impl.RubOf(s.heap, s.rules, one))
			share, ok := referenceShare(s.heap, s.rules, one)
			expectFinite(t, "SlipShare", ok, share)(impl.SlipShare(s.heap, s.rules, one))
		}
		forces, torques, ok := referenceForces(s.heap, s.rules, s.list)
		if !ok {
			fails(t, "ForcesOn")(impl.ForcesOn(s.heap, s.rules, s.list))
			fails(t, "ForcesShared")(impl.ForcesShared(s.heap, s.rules, s.list, 2))
			continue
		}
		succeeded++
		gives(t, "ForcesOn", forces, torques)(impl.ForcesOn(s.heap, s.rules, s.list))
	}
	check(t, "most heaps have forces", succeeded > 100, true)
}

func TestWorkers(t *testing.T) {
	h, list := clusters(12, 4), allPairs(12, 66)
	for _, workers := range []int64{0, -1, impl.MaxWorkers + 1, math.MinInt64, math.MaxInt64, 1 << 32} {
		fails(t, "ForcesShared with wrong workers")(impl.ForcesShared(h, usualRules(), list, workers))
		fails(t, "ForcesShared of nothing with wrong workers")(impl.ForcesShared(impl.Heap{}, usualRules(), nil, workers))
	}
	for workers := range int64(impl.MaxWorkers) {
		gives(t, "ForcesShared without grains", []complex64{}, []float32{})(impl.ForcesShared(impl.Heap{}, usualRules(), nil, workers+1))
		gives(t, "ForcesShared without touches", make([]complex64, 16), make([]float32, 16))(impl.ForcesShared(h, usualRules(), nil, workers+1))
	}
}

func TestPressesOf(t *testing.T) {
	h := heapWith(disc(0, 1), disc(1.5, 1), disc(2.5, 1), disc(9, 1))
	r := impl.Rules{Stiff: 2}
	gives(t, "PressesOf", []float32{1, 3, 2, 0})(impl.PressesOf(h, r, touches(0, 1, 1, 2, 2, 3)))
	gives(t, "PressesOf touches beside those of a list", []float32{1, 1, 0, 0})(impl.PressesOf(h, r, touches(0, 1)))
	gives(t, "PressesOf nothing", []float32{0, 0, 0, 0})(impl.PressesOf(h, r, nil))
	gives(t, "PressesOf no grains", []float32{})(impl.PressesOf(impl.Heap{}, r, nil))
	gives(t, "StrongestTouch", int64(1), float32(2))(impl.StrongestTouch(h, r, touches(0, 1, 1, 2, 2, 3)))
	row := heap(t, "RowOfGrains")(impl.RowOfGrains(4, 1, -0.5, 1))
	gives(t, "StrongestTouch of equal ones", int64(1), float32(1))(impl.StrongestTouch(row, r, touches(0, 3, 1, 2, 2, 3)))
	gives(t, "StrongestTouch without a push", int64(0), float32(0))(impl.StrongestTouch(h, r, touches(0, 3, 1, 3)))
	for _, grains := range []impl.Heap{{}, h} {
		fails(t, "StrongestTouch of none")(impl.StrongestTouch(grains, r, nil))
		fails(t, "StrongestTouch of none")(impl.StrongestTouch(grains, r, []impl.Touch{}))
	}
	stuck := heapWith(disc(0, 1), disc(0, 1), disc(1, 1))
	fails(t, "PressesOf grains at one place")(impl.PressesOf(stuck, r, touches(0, 1, 0, 2)))
	fails(t, "StrongestTouch of grains at one place")(impl.StrongestTouch(stuck, r, touches(0, 1, 0, 2)))
}

func TestPressesOfManyHeaps(t *testing.T) {
	for _, s := range heapsThatTouch() {
		presses, strongest, greatest, ok := referencePresses(s.heap, s.rules, s.list)
		expectFinite(t, "PressesOf", ok && isFinite(presses...), presses)(impl.PressesOf(s.heap, s.rules, s.list))
		if ok && strongest >= 0 {
			gives(t, "StrongestTouch", strongest, greatest)(impl.StrongestTouch(s.heap, s.rules, s.list))
		} else {
			fails(t, "StrongestTouch")(impl.StrongestTouch(s.heap, s.rules, s.list))
		}
		worst, ok := referenceWorst(s.heap)
		expectFinite(t, "WorstOverlap", ok, worst)(impl.WorstOverlap(s.heap))
	}
}

func TestWorstOverlap(t *testing.T) {
	gives(t, "WorstOverlap", float32(1))(impl.WorstOverlap(heapWith(disc(0, 1), disc(1.5, 1), held(disc(2.5, 1)), disc(9, 1))))
	gives(t, "WorstOverlap at one place", float32(3))(impl.WorstOverlap(heapWith(disc(9, 1), disc(1, 1), disc(1, 2))))
	gives(t, "WorstOverlap that touch", float32(0))(impl.WorstOverlap(facing(0, 0)))
	gives(t, "WorstOverlap apart", float32(0))(impl.WorstOverlap(facing(1, 0)))
	gives(t, "WorstOverlap of no grains", float32(0))(impl.WorstOverlap(impl.Heap{}))
	gives(t, "WorstOverlap of one grain", float32(0))(impl.WorstOverlap(fullHeap(1)))
	fails(t, "WorstOverlap too far apart")(impl.WorstOverlap(heapWith(disc(0, 1), disc(0, 1), disc(-2e38, 1), disc(2e38, 1))))
	fails(t, "WorstOverlap of wide grains")(impl.WorstOverlap(heapWith(disc(0, 2e38), disc(0, 2e38))))
	for _, bad := range invalidHeaps() {
		fails(t, "WorstOverlap of a wrong heap")(impl.WorstOverlap(bad))
	}
}
