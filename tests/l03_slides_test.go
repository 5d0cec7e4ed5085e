package tests

import (
	"math/rand"
	"testing"

	"loop.example/g01268/impl"
)

// sliding returns two grains that push one another by 1/2, for the Stiff 1 and
// no Loss, and slide with this speed.
func sliding(speed float32) impl.Heap {
	return facing(-0.5, complex(0, speed))
}

func TestSlidesAreKept(t *testing.T) {
	loose := impl.Rules{Stiff: 1, Rub: 1}
	for _, c := range []struct{ before, speed, tick, want float32 }{
		{0, 2, 0.5, 1}, {3, 2, 0.5, 4}, {3, -8, 0.25, 1}, {-1, 4, 0.25, 0}, {5, 7, 0, 5}, {-5, 7, negativeZero(), -5},
		{negativeZero(), 0, 1, 0}, {negativeZero(), -1, 0, negativeZero()}, {negativeZero(), 1, 0, 0}, {0, -1, 0, 0},
	} {
		gives(t, "RubTouches", []impl.Touch{touch(0, 1, c.want)})(
			impl.RubTouches(sliding(c.speed), loose, []impl.Touch{touch(0, 1, c.before)}, c.tick))
	}
	gives(t, "RubTouches that begin", []impl.Touch{touch(0, 1, 1)})(impl.RubTouches(sliding(2), loose, nil, 0.5))
	gives(t, "RubTouches that begin in no time", []impl.Touch{touch(0, 1, 0)})(impl.RubTouches(sliding(-2), loose, nil, 0))
	turning := sliding(0)
	turning.Grains[0].Spin, turning.Grains[1].Spin = 3, 1
	gives(t, "RubTouches of grains that turn", []impl.Touch{touch(0, 1, -2)})(impl.RubTouches(turning, loose, nil, 0.5))
	gives(t, "RubTouches without grains", []impl.Touch{})(impl.RubTouches(impl.Heap{}, loose, nil, 1))
	gives(t, "RubTouches without touches", []impl.Touch{})(impl.RubTouches(facing(1, 1), loose, nil, 1))
}

func TestTouchesEndAndBeginAgain(t *testing.T) {
	loose := impl.Rules{Stiff: 1}
	old := []impl.Touch{touch(0, 1, 7), touch(0, 2, 8), touch(1, 2, 9)}
	one := heapWith(disc(0, 1), disc(9, 1), disc(1, 1))
	two := heapWith(disc(0, 1), disc(1, 1), disc(2, 1))
	rest, ok := impl.RubTouches(one, loose, old, 1)
	check(t, "touches that end", told(rest, ok), told([]impl.Touch{touch(0, 2, 8)}, true))
	gives(t, "touches that begin again", []impl.Touch{touch(0, 1, 0), touch(0, 2, 8), touch(1, 2, 0)})(impl.RubTouches(two, loose, rest, 1))
	gives(t, "touches that are kept", old)(impl.RubTouches(two, loose, old, 1))
	none, ok := impl.RubTouches(heapWith(disc(0, 1), disc(9, 1), disc(20, 1)), loose, old, 1)
	check(t, "touches that all end", []any{len(none), ok}, "[0 true]")
	gives(t, "touches that all begin", touches(0, 1, 0, 2, 1, 2))(impl.RubTouches(two, loose, none, 1))
	gives(t, "a touch next to that which is kept", []impl.Touch{touch(0, 1, 0), touch(0, 2, 0), touch(1, 2, 5)})(
		impl.RubTouches(two, loose, []impl.Touch{touch(1, 2, 5)}, 1))
	// A touch of the gap 0 is one, and keeps its Slide.
	gives(t, "a touch that barely holds", []impl.Touch{touch(0, 1, 7)})(impl.RubTouches(facing(0, 0), loose, old[:1], 1))
}

func TestStepsForgetTouchesThatEnd(t *testing.T) {
	// The grain goes away and comes back between the steps.
	loose := impl.Rules{}
	near, far := sliding(1), facing(1, 0)
	_, list, ok := impl.StepHeap(near, loose, []impl.Touch{touch(0, 1, 3)}, 0, 0.5)
	check(t, "the step that keeps", told(list, ok), told([]impl.Touch{touch(0, 1, 3.5)}, true))
	_, list, ok = impl.StepHeap(far, loose, list, 0, 0.5)
	check(t, "the step that ends", told(list, ok), "[] true")
	_, list, ok = impl.StepHeap(near, loose, list, 0, 0.5)
	check(t, "the step that begins again", told(list, ok), told([]impl.Touch{touch(0, 1, 0.5)}, true))
	leaving := facing(-0.5, complex(1, 0))
	_, list, _, ok = impl.RunHeap(leaving, loose, []impl.Touch{touch(0, 1, 3)}, 0, 0.5, 1)
	check(t, "the run that keeps", told(list, ok), told([]impl.Touch{touch(0, 1, 3)}, true))
	_, list, _, ok = impl.RunHeap(leaving, loose, []impl.Touch{touch(0, 1, 3)}, 0, 0.5, 3)
	check(t, "the run that ends", told(list, ok), "[] true")
}

func TestSlidesAtTheirBounds(t *testing.T) {
	// They may rub by 1/4, which the Slide 1/8 does.
	r := impl.Rules{Stiff: 1, Rub: 0.5, Grip: 2}
	for _, c := range []struct{ before, speed, want float32 }{
		{0.125, 0, 0.125}, {-0.125, 0, -0.125}, {number(0x3dffffff), 0, number(0x3dffffff)},
		{number(0x3e000001), 0, 0.125}, {-number(0x3e000001), 0, -0.125},
		{5, 0, 0.125}, {-5, 0, -0.125}, {3e38, 0, 0.125}, {-3e38, 0, -0.125},
		{0, 1, 0.125}, {0, -1, -0.125}, {0.125, 1, 0.125}, {0.125, -0.125, 0.0625}, {0.125, -9, -0.125}, {-0.125, 9, 0.125},
	} {
		gives(t, "RubTouches", []impl.Touch{touch(0, 1, c.want)})(
			impl.RubTouches(sliding(c.speed), r, []impl.Touch{touch(0, 1, c.before)}, 0.5))
	}
}

func TestSlidesWithoutARub(t *testing.T) {
	for _, r := range []impl.Rules{{Stiff: 1, Grip: 2}, {Rub: 1, Grip: 2}, {Grip: number(1)}} {
		gives(t, "slides that may not rub", []impl.Touch{touch(0, 1, 0)})(impl.RubTouches(sliding(1), r, nil, 2))
		gives(t, "slides that may not rub", []impl.Touch{touch(0, 1, negativeZero())})(impl.RubTouches(sliding(-1), r, nil, 2))
		gives(t, "slides that may not rub", []impl.Touch{touch(0, 1, negativeZero())})(impl.RubTouches(sliding(0), r, []impl.Touch{touch(0, 1, -4)}, 2))
	}
	for _, r := range []impl.Rules{{}, {Stiff: 1, Rub: 1}, {Stiff: 1, Rub: 1, Grip: negativeZero()}} {
		gives(t, "slides without a Grip", []impl.Touch{touch(0, 1, 102)})(impl.RubTouches(sliding(1), r, []impl.Touch{touch(0, 1, 100)}, 2))
	}
}

func TestSlidesAreFinite(t *testing.T) {
	fast := sliding(1e38)
	gives(t, "a Slide", []impl.Touch{touch(0, 1, mul32(2, 1e38))})(impl.RubTouches(fast, impl.Rules{}, nil, 2))
	fails(t, "a Slide that is too large")(impl.RubTouches(fast, impl.Rules{}, nil, 4))
	fails(t, "a sum that is too large")(impl.RubTouches(fast, impl.Rules{}, []impl.Touch{touch(0, 1, 3e38)}, 2))
	r := impl.Rules{Stiff: 1, Rub: 0.5, Grip: 2}
	gives(t, "a Slide that is bounded", []impl.Touch{touch(0, 1, 0.125)})(impl.RubTouches(fast, r, nil, 4))
	gives(t, "a Slide that is bounded", []impl.Touch{touch(0, 1, -0.125)})(impl.RubTouches(sliding(-1e38), r, nil, 4))
	endless := impl.Rules{Stiff: 16, Rub: 3e38, Grip: 2}
	gives(t, "a Slide with an infinite bound", []impl.Touch{touch(0, 1, 3e38)})(impl.RubTouches(sliding(0), endless, []impl.Touch{touch(0, 1, 3e38)}, 4))
	fails(t, "an infinite Slide with an infinite bound")(impl.RubTouches(fast, endless, nil, 4))
	weak := impl.Rules{Stiff: 1, Rub: 1e10, Grip: 1e-38}
	fails(t, "a bound that is too large")(impl.RubTouches(fast, weak, nil, 4))
	turning := sliding(0)
	turning.Grains[0].Spin, turning.Grains[1].Spin = 3e38, 3e38
	fails(t, "RubTouches that slide too fast")(impl.RubTouches(turning, impl.Rules{}, nil, 0))
	fails(t, "RubTouches at one place")(impl.RubTouches(heapWith(disc(1, 1), disc(1, 1)), impl.Rules{}, nil, 0))
	fails(t, "RubTouches too far apart")(impl.RubTouches(heapWith(disc(-2e38, 1), disc(2e38, 1)), impl.Rules{}, nil, 0))
}

// A push that does not exist is asked for only where there is a Grip.
func TestSlidesWithoutAGripNeedNoPush(t *testing.T) {
	h := facing(-0.5, complex(100, 1))
	gives(t, "RubTouches without a Grip", []impl.Touch{touch(0, 1, 0.5)})(impl.RubTouches(h, impl.Rules{Loss: 3e38, Rub: 1}, nil, 0.5))
	fails(t, "RubTouches with a Grip")(impl.RubTouches(h, impl.Rules{Loss: 3e38, Rub: 1, Grip: 1}, nil, 0.5))
	fails(t, "StepHeap without a Grip")(impl.StepHeap(h, impl.Rules{Loss: 3e38, Rub: 1}, nil, 0, 0.5))
}

func TestWrongTicks(t *testing.T) {
	for _, h := range []impl.Heap{{}, sliding(1)} {
		for _, tick := range wrongTicks() {
			fails(t, "RubTouches with a wrong tick")(impl.RubTouches(h, impl.Rules{}, nil, tick))
			fails(t, "StepHeap with a wrong tick")(impl.StepHeap(h, impl.Rules{}, nil, 0, tick))
			fails(t, "RunHeap with a wrong tick")(impl.RunHeap(h, impl.Rules{}, nil, 0, tick, 0))
			fails(t, "RunHeap with a wrong tick")(impl.RunHeap(h, impl.Rules{}, nil, 0, tick, 1))
			fails(t, "SettleHeap with a wrong tick")(impl.SettleHeap(h, impl.Rules{}, 0, tick, 1, 1))
		}
	}
}

func TestRubTouchesOfManyHeaps(t *testing.T) {
	source := rand.New(rand.NewSource(10))
	succeeded := 0
	for _, s := range heapsThatTouch() {
		for _, tick := range []float32{0, 0.01, float32(source.Float64()), 1e20} {
			want, ok := referenceRubTouches(s.heap, s.rules, s.list, tick)
			expectFinite(t, "RubTouches", ok, want)(impl.RubTouches(s.heap, s.rules, s.list, tick))
			if ok && len(want) > 2 {
				succeeded++
			}
		}
	}
	check(t, "most heaps have touches", succeeded > 200, true)
}
