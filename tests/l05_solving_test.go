package tests

import (
	"math"
	"testing"

	"loop.example/g01268/impl"
)

func TestSolveKnockPushes(t *testing.T) {
	for _, c := range []struct {
		gap, speed, lean, tick, push, want float32
	}{
		{0, 2, 0, 1, 0, 1}, {0, 2, 1, 1, 0, 1}, {0, 2, 0, 1, 0.5, 1.5}, {0, 2, 0, 1, negativeZero(), 1}, {0, 0, 0, 1, 0, 0}, {0, 0, 0, 1, 3, 3},
		// what goes away by itself is not pulled
		{0, -2, 0, 1, 0, 0}, {0, -2, 0, 1, 1, 0}, {0, -2, 0, 1, 1.5, 0.5}, {0, -2, 1, 1, negativeZero(), 0},
		// a gap may be closed within the tick
		{1, 2, 0, 0.5, 0, 0}, {1, 2, 1, 0.5, 0, 0}, {1, 4, 0, 0.5, 0, 1}, {1, 2, 0, 1, 0, 0.5}, {1, 2, 0, 1, 1, 1.5}, {1, 0, 0, 0.5, 2, 1},
		// lean tells how much of an overlap is taken away
		{-1, 2, 0, 0.5, 0, 1}, {-1, 2, 0.5, 0.5, 0, 1.5}, {-1, 2, 1, 0.5, 0, 2}, {-1, -2, 1, 0.5, 0, 0}, {-1, -2, 1, 0.25, 0, 1},
	} {
		for _, rub := range []float32{0, 0.5, 1, 7} {
			h := meeting(c.gap, c.speed)
			solved, n, ok := impl.SolveKnock(h, knock(0, 1, c.push, 0), rub, c.lean, c.tick)
			check(t, "SolveKnock", []any{c, n.A, n.B, n.Push, n.Rub == 0, ok}, []any{c, 0, 1, c.want, true, true})
			checkNumber(t, "the Push", n.Push, c.want)
			moved := c.want - c.push
			check(t, "the speeds", []complex64{solved.Grains[0].Speed, solved.Grains[1].Speed}, []complex64{complex(c.speed/2-moved, 0), complex(-c.speed/2+moved, 0)})
		}
	}
}

func TestSolveKnockWithWeights(t *testing.T) {
	h := meeting(0, 2)
	h.Grains[1].Mass = 3
	solved, n, ok := impl.SolveKnock(h, knock(0, 1, 0, 0), 0, 0, 1)
	// Both go on with the speed of their centre, and the weight is 4/3.
	check(t, "SolveKnock", []any{isNearly(n.Push, 1.5, 1), isNearly(real(solved.Grains[0].Speed), -0.5, 1), isNearly(real(solved.Grains[1].Speed), -0.5, 1), ok}, "[true true true true]")
	h.Grains[1].Held = true
	solved, n, ok = impl.SolveKnock(h, knock(0, 1, 0, 0), 0, 0, 1)
	check(t, "SolveKnock with a grain that is held", []any{n.Push, solved.Grains[0].Speed, solved.Grains[1].Speed, ok}, "[2 (-1+0i) (-1+0i) true]")
	h.Grains[0].Held, h.Grains[1].Held = true, false
	solved, n, ok = impl.SolveKnock(h, knock(0, 1, 0, 0), 0, 0, 1)
	check(t, "SolveKnock with a grain that is held", []any{isNearly(n.Push, 6, 1), solved.Grains[0].Speed, isNearly(real(solved.Grains[1].Speed), 1, 1), ok}, "[true (1+0i) true true]")
}

func TestSolveKnockRubs(t *testing.T) {
	// The second grain goes up by 6: without a bound, 1 is rubbed for 6 of the weight 2.
	for _, c := range []struct{ rub, before, want float32 }{
		{0, 0, negativeZero()}, {0, 5, 0}, {negativeZero(), 0, 0}, {negativeZero(), 5, negativeZero()},
		{0.25, 0, -0.25}, {0.25, 0.9, -0.1}, {0.25, 5, 0.25}, {1, 0, -1}, {1, 0.5, -0.5}, {2, 0, -1}, {2, -2, -2}, {2, 3, 2}, {9, 3, 2}, {9, -3, -4}, {math.MaxFloat32, 0, -1},
	} {
		h := meeting(0, 2)
		h.Grains[1].Speed += complex(0, 6)
		h.Grains[0].Spin = 2
		h.Grains[1].Spin = -2
		solved, n, ok := impl.SolveKnock(h, knock(0, 1, 0, c.before), c.rub, 0, 1)
		want, wanted, wantOk := referenceSolve(h, knock(0, 1, 0, c.before), manner{c.rub, 0, 1})
		check(t, "SolveKnock", told(solved, n, ok), told(want, wanted, wantOk))
		check(t, "the knock", []any{c, n.Push, isNearly(n.Rub, c.want, 1), ok}, []any{c, 1, true, true})
		check(t, "the sign of the Rub", math.Signbit(float64(n.Rub)), math.Signbit(float64(c.want)))
	}
	// The push comes first, and bounds what is rubbed; apart, nothing is.
	h := meeting(1, 0)
	h.Grains[1].Speed = complex(0, 6)
	solved, n, ok := impl.SolveKnock(h, knock(0, 1, 0, 0), 1, 0, 1)
	check(t, "a knock of grains apart", []any{n.Push, n.Rub == 0, solved.Grains[1].Speed, ok}, "[0 true (0+6i) true]")
	// Grains that roll do not rub.
	h = meeting(0, 2)
	h.Grains[0].Spin, h.Grains[1].Spin = 5, -5
	_, n, ok = impl.SolveKnock(h, knock(0, 1, 0, 0), 1, 0, 1)
	check(t, "a knock of grains that roll", []any{n.Push, n.Rub == 0, ok}, "[1 true true]")
	h.Grains[1].Spin = 1
	solved, n, ok = impl.SolveKnock(h, knock(0, 1, 0, 0), 9, 0, 1)
	check(t, "a knock of grains that turn", []any{n.Push, n.Rub, ok}, "[1 1 true]")
	check(t, "what they turn by then", []any{solved.Grains[0].Spin, solved.Grains[1].Spin, solved.Grains[1].Speed}, "[3 -1 (0+1i)]")
}

func TestSolveKnockOfGrainsThatAreHeld(t *testing.T) {
	zeros := complex(negativeZero(), negativeZero())
	a, b := held(disc(0, 1)), held(disc(1, 1))
	a.Speed, b.Speed, b.Spin = zeros, zeros, negativeZero()
	stuck, far := held(disc(complex(1, negativeZero()), 2)), held(disc(3e38, 2e38))
	stuck.Speed = complex(negativeZero(), 5)
	tiny := held(impl.Grain{At: -3e38, Radius: 2e38, Mass: number(1)})
	n := knock(1, 2, negativeZero(), -7)
	for _, h := range []impl.Heap{
		heapWith(disc(9, 1), a, b), heapWith(disc(9, 1), b, stuck), heapWith(disc(9, 1), a, far), heapWith(disc(9, 1), tiny, far),
	} {
		for _, tick := range []float32{1, number(1), math.MaxFloat32} {
			gives(t, "SolveKnock of what is held", h, n)(impl.SolveKnock(h, n, 0.5, 1, tick))
			gives(t, "SolveKnocks of what is held", h, []impl.Knock{n})(impl.SolveKnocks(h, []impl.Knock{n}, 0, 0, tick, impl.MaxRounds))
			gives(t, "SolveByColours of what is held", h, []impl.Knock{n})(impl.SolveByColours(h, []impl.Knock{n}, 0, 0, tick, 2))
			gives(t, "SolveShared of what is held", h, []impl.Knock{n})(impl.SolveShared(h, []impl.Knock{n}, 0, 0, tick, 2, 3))
			gives(t, "MissOfKnocks of what is held", float32(0))(impl.MissOfKnocks(h, []impl.Knock{n}, 1, tick))
		}
	}
	for _, m := range wrongManners() {
		fails(t, "SolveKnock of what is held in a wrong manner")(impl.SolveKnock(heapWith(a, b), knock(0, 1, 0, 0), m.rub, m.lean, m.tick))
	}
}

func TestSolveKnockIsFinite(t *testing.T) {
	one := knock(0, 1, 0, 0)
	const most = math.MaxFloat32
	fails(t, "SolveKnock at one place")(impl.SolveKnock(heapWith(disc(1, 1), disc(1, 1)), one, 0, 0, 1))
	fails(t, "SolveKnock at one place with a grain that is held")(impl.SolveKnock(heapWith(disc(1, 1), held(disc(1, 1))), one, 0, 0, 1))
	fails(t, "SolveKnock too far apart")(impl.SolveKnock(heapWith(disc(-2e38, 1), disc(2e38, 1)), one, 0, 0, 1))
	fails(t, "SolveKnock of a need that is not finite")(impl.SolveKnock(meeting(-1, 0), one, 0, 1, number(1)))
	fails(t, "SolveKnock of a need that is not a number")(impl.SolveKnock(meeting(-1, 0), one, 0, 0, number(1)))
	// A need that is -infinity would push nothing, but fails.
	fails(t, "SolveKnock of a need that is not finite")(impl.SolveKnock(meeting(1, 0), one, 0, 0, number(1)))
	fails(t, "SolveKnock of a need that is not finite")(impl.SolveKnock(meeting(1, 0), knock(0, 1, 1, 0), 0, 1, 1e-39))
	heavyPair := meeting(-1, 0)
	heavyPair.Grains[0].Mass, heavyPair.Grains[1].Mass = 1e30, 1e30
	fails(t, "SolveKnock of a Push that is too large")(impl.SolveKnock(heavyPair, one, 0, 1, 1e-9))
	heavyPair = meeting(1, 0)
	heavyPair.Grains[0].Mass, heavyPair.Grains[1].Mass = 1e30, 1e30
	fails(t, "SolveKnock of a Push that is -infinity")(impl.SolveKnock(heavyPair, one, 0, 1, 1e-9))
	light := meeting(0, 0)
	light.Grains[0].Mass = number(1)
	fails(t, "SolveKnock of a grain that is too light")(impl.SolveKnock(light, one, 0, 0, 1))
	light.Grains[0].Mass, light.Grains[1].Mass = 5e-39, 5e-39
	fails(t, "SolveKnock of grains that are too light")(impl.SolveKnock(light, one, 0, 0, 1))
	tiny := heapWith(impl.Grain{Radius: 1e-30, Mass: 1e-30}, disc(3, 1))
	fails(t, "SolveKnock of a grain that turns too lightly")(impl.SolveKnock(tiny, one, 0, 0, 1))
	turning := meeting(0, 2)
	turning.Grains[0].Spin = most
	turning.Grains[0].Radius = 2
	fails(t, "SolveKnock of what slides too fast")(impl.SolveKnock(turning, one, 0, 0, 1))
	gives(t, "SolveKnock of a Push that is large", facing(0, 0), knock(0, 1, most, 0))(impl.SolveKnock(facing(0, 0), knock(0, 1, most, 0), 0, 0, 1))
}

func TestSolveKnockHasABoundThatIsNotFinite(t *testing.T) {
	const most = math.MaxFloat32
	h := meeting(0, 4)
	h.Grains[1].Speed += complex(0, 6)
	// The Push is 2, so that what may be rubbed is infinite.
	_, n, ok := impl.SolveKnock(h, knock(0, 1, 0, 0), most, 0, 1)
	check(t, "SolveKnock with an infinite bound", []any{n.Push, n.Rub, ok}, "[2 -1 true]")
	fast := meeting(0, 1e-4)
	fast.Grains[0].Mass, fast.Grains[1].Mass = 1e30, 1e30
	fast.Grains[1].Speed += complex(0, 1e20)
	// The quotient is infinite, and is bounded by 5 1e25, or is not.
	_, n, ok = impl.SolveKnock(fast, knock(0, 1, 0, 0), 1, 0, 1)
	check(t, "SolveKnock with a quotient that is not finite", []any{n.Rub < 0, n.Rub == -n.Push, ok}, "[true true true]")
	fast.Grains[1].Speed = -fast.Grains[1].Speed
	fast.Grains[0].Speed = -fast.Grains[0].Speed
	_, n, ok = impl.SolveKnock(fast, knock(0, 1, 1e26, 0), 1, 0, 1)
	check(t, "SolveKnock with a quotient that is not finite", []any{n.Rub > 0, n.Rub == n.Push, ok}, "[true true true]")
	fails(t, "SolveKnock with a quotient and a bound that are not finite")(impl.SolveKnock(fast, knock(0, 1, 1e26, 0), 1e20, 0, 1))
	// What the Rub changes by is too large, but the Rub is not.
	fails(t, "SolveKnock of a Rub that changes too much")(impl.SolveKnock(fast, knock(0, 1, 2e38, -3e38), 1, 0, 1))
}

// solvings are the functions that solve knocks in rounds.
func solvings() []func(c collision, rounds int64) (impl.Heap, []impl.Knock, bool) {
	list := []func(c collision, rounds int64) (impl.Heap, []impl.Knock, bool){
		func(c collision, rounds int64) (impl.Heap, []impl.Knock, bool) {
			return impl.SolveKnocks(c.heap, c.list, c.rub, c.lean, c.tick, rounds)
		},
		func(c collision, rounds int64) (impl.Heap, []impl.Knock, bool) {
			return impl.SolveByColours(c.heap, c.list, c.rub, c.lean, c.tick, rounds)
		},
	}
	for _, workers := range []int64{1, 2, impl.MaxWorkers} {
		list = append(list, func(c collision, rounds int64) (impl.Heap, []impl.Knock, bool) {
			return impl.SolveShared(c.heap, c.list, c.rub, c.lean, c.tick, rounds, workers)
		})
	}
	return list
}

func TestSolvingWithoutRounds(t *testing.T) {
	list := []impl.Knock{knock(0, 1, negativeZero(), 5), knock(0, 2, 3, -1)}
	h := heapWith(disc(1, 1), disc(1, 1), held(disc(1, 1)))
	h.Grains[0].Speed = complex(negativeZero(), -1)
	for _, solve := range solvings() {
		gives(t, "no rounds", h, list)(solve(collision{h, list, manner{1, 1, 1}}, 0))
		fails(t, "one round at one place")(solve(collision{h, list, manner{1, 1, 1}}, 1))
		for _, rounds := range []int64{0, 1, impl.MaxRounds} {
			gives(t, "no knocks", h, knocks())(solve(collision{h, nil, manner{0, 0, 1}}, rounds))
			gives(t, "no grains", impl.Heap{}, knocks())(solve(collision{impl.Heap{}, nil, manner{0, 0, 1}}, rounds))
		}
	}
}

func TestWrongSolving(t *testing.T) {
	for _, solve := range solvings() {
		for _, c := range []collision{{meeting(0, 2), knocks(0, 1), manner{1, 1, 1}}, {impl.Heap{}, nil, manner{1, 1, 1}}} {
			for _, rounds := range wrongRounds() {
				fails(t, "wrong rounds")(solve(c, rounds))
			}
			for _, rounds := range []int64{0, 1} {
				for _, m := range wrongManners() {
					fails(t, "a wrong manner")(solve(collision{c.heap, c.list, m}, rounds))
				}
			}
			_, _, ok := solve(c, impl.MaxRounds)
			check(t, "MaxRounds rounds", ok, true)
		}
	}
	for _, m := range wrongManners() {
		fails(t, "SolveKnock in a wrong manner")(impl.SolveKnock(meeting(0, 2), knock(0, 1, 0, 0), m.rub, m.lean, m.tick))
	}
	for _, workers := range []int64{0, -1, impl.MaxWorkers + 1, math.MinInt64, math.MaxInt64, 1 << 32} {
		for _, rounds := range []int64{0, 1} {
			fails(t, "SolveShared with wrong workers")(impl.SolveShared(meeting(0, 2), knocks(0, 1), 1, 1, 1, rounds, workers))
			fails(t, "SolveShared of nothing with wrong workers")(impl.SolveShared(impl.Heap{}, nil, 1, 1, 1, rounds, workers))
		}
	}
}

func TestSolvingInRounds(t *testing.T) {
	// A grain between two others: the second knock spoils the first one, and rounds mend it.
	h := heapWith(disc(0, 1), disc(2, 1), disc(4, 1))
	h.Grains[0].Speed, h.Grains[2].Speed = 4, -4
	list := knocks(0, 1, 1, 2)
	solved, once, ok := impl.SolveKnocks(h, list, 0, 0, 1, 1)
	check(t, "one round", []any{once, solved.Grains[0].Speed, solved.Grains[1].Speed, solved.Grains[2].Speed, ok}, "[[{0 1 2 0} {1 2 3 0}] (2+0i) (-1+0i) (-1+0i) true]")
	_, twice, ok := impl.SolveKnocks(h, list, 0, 0, 1, 2)
	check(t, "two rounds", []any{twice, ok}, "[[{0 1 3.5 0} {1 2 3.75 0}] true]")
	solved, all, ok := impl.SolveKnocks(h, list, 0, 0, 1, impl.MaxRounds)
	check(t, "MaxRounds rounds", []any{isNearly(all[0].Push, 4, 1), isNearly(all[1].Push, 4, 1), ok}, "[true true true]")
	check(t, "all speeds", isNearly(long32(solved.Grains[0].Speed)+long32(solved.Grains[1].Speed)+long32(solved.Grains[2].Speed), 0, 1), true)
}

func TestColoursOfKnocks(t *testing.T) {
	h := fullHeap(impl.MaxGrains)
	for _, c := range []struct {
		list []impl.Knock
		want []int64
	}{
		{nil, []int64{}}, {knocks(3, 7), []int64{0}}, {knocks(0, 1, 2, 3, 4, 5), []int64{0, 0, 0}},
		{knocks(0, 1, 1, 2, 2, 3, 3, 4), []int64{0, 1, 0, 1}}, {knocks(0, 1, 0, 2, 1, 2), []int64{0, 1, 2}},
		{knocks(0, 1, 0, 2, 0, 3, 0, 4, 1, 2, 3, 4), []int64{0, 1, 2, 3, 2, 0}}, {knocks(0, 5, 1, 5, 2, 5, 3, 4), []int64{0, 1, 2, 0}},
		{knocks(0, 1, 0, 2, 0, 3, 1, 2, 1, 3, 2, 3), []int64{0, 1, 2, 2, 1, 0}}, {knocks(0, 3, 1, 2, 2, 3), []int64{0, 0, 1}},
		{knocks(0, 1, 1, 2, 2, 3, 3, 4, 4, 5, 4, 6), []int64{0, 1, 0, 1, 0, 2}},
	} {
		gives(t, "ColoursOfKnocks", c.want)(impl.ColoursOfKnocks(h, c.list))
	}
	_, list := star(23, 11)
	gives(t, "ColoursOfKnocks of one grain with all others", []int64{0, 1, 2, 3, 4, 5, 6, 7, 8, 9, 10, 11, 12, 13, 14, 15, 16, 17, 18, 19, 20, 21, 22})(
		impl.ColoursOfKnocks(h, list))
	for _, x := range []float32{0, negativeZero(), math.MaxFloat32} {
		gives(t, "ColoursOfKnocks with any Push", []int64{0, 1})(impl.ColoursOfKnocks(h, []impl.Knock{knock(0, 1, x, x), knock(1, 2, x, x)}))
	}
	gives(t, "ColoursOfKnocks without grains", []int64{})(impl.ColoursOfKnocks(impl.Heap{}, nil))
	stuck := heapWith(held(disc(1, 1)), held(disc(1, 1)), disc(3e38, 1))
	gives(t, "ColoursOfKnocks anywhere", []int64{0, 1, 2})(impl.ColoursOfKnocks(stuck, knocks(0, 1, 0, 2, 1, 2)))
	most := pairKnocks(24, impl.MaxKnocks)
	want, _ := referenceColours(most)
	gives(t, "ColoursOfKnocks of MaxKnocks knocks", want)(impl.ColoursOfKnocks(h, most))
}

func TestColoursAreSolvedInOrder(t *testing.T) {
	// The last knock has the colour 0, and is solved before the second one.
	h := heapWith(disc(0, 1), disc(2, 1), disc(4, 1), disc(6, 1))
	h.Grains[0].Speed, h.Grains[3].Speed = 4, -2
	solved, list, ok := impl.SolveByColours(h, knocks(0, 1, 1, 2, 2, 3), 0, 0, 1, 1)
	check(t, "SolveByColours", []any{list, ok}, "[[{0 1 2 0} {1 2 1.5 0} {2 3 1 0}] true]")
	check(t, "the speeds", []complex64{solved.Grains[0].Speed, solved.Grains[1].Speed, solved.Grains[2].Speed, solved.Grains[3].Speed}, "[(2+0i) (0.5+0i) (0.5+0i) (-1+0i)]")
	_, list, ok = impl.SolveKnocks(h, knocks(0, 1, 1, 2, 2, 3), 0, 0, 1, 1)
	check(t, "SolveKnocks", []any{list, ok}, "[[{0 1 2 0} {1 2 1 0} {2 3 1.5 0}] true]")
}

func TestSolvingOfManyHeaps(t *testing.T) {
	succeeded := 0
	for _, c := range someCollisions() {
		for _, n := range c.list {
			h, one, ok := referenceSolve(c.heap, n, c.manner)
			if ok {
				gives(t, "SolveKnock", h, one)(impl.SolveKnock(c.heap, n, c.rub, c.lean, c.tick))
				succeeded++
			} else {
				fails(t, "SolveKnock")(impl.SolveKnock(c.heap, n, c.rub, c.lean, c.tick))
			}
		}
		colours, order := referenceColours(c.list)
		gives(t, "ColoursOfKnocks", colours)(impl.ColoursOfKnocks(c.heap, c.list))
		for _, rounds := range []int64{1, 3} {
			for k, solve := range solvings() {
				turns := order
				if k == 0 {
					turns = ascending(len(c.list))
				}
				h, list, ok := referenceRounds(c.heap, c.list, c.manner, rounds, turns)
				if ok {
					gives(t, "knocks in rounds", h, list)(solve(c, rounds))
				} else {
					fails(t, "knocks in rounds")(solve(c, rounds))
				}
			}
		}
	}
	check(t, "most knocks are solved", succeeded > 1500, true)
}

func TestSolvingOfOneGrainWithManyOthers(t *testing.T) {
	for _, middle := range []int64{0, 5, 22} {
		h, list := star(23, middle)
		c := collision{h, list, manner{0.5, 0.2, 0.1}}
		want, knocked, ok := referenceRounds(h, list, c.manner, impl.MaxRounds, ascending(len(list)))
		check(t, "the reference succeeds", ok, true)
		for _, solve := range solvings() {
			// Each knock has a colour of its own, so that all orders are the same.
			gives(t, "a star", want, knocked)(solve(c, impl.MaxRounds))
		}
	}
}

func TestMissOfKnocks(t *testing.T) {
	h := heapWith(disc(0, 1), disc(2, 1), disc(3, 1), held(disc(9, 1)), held(disc(9, 1)))
	h.Grains[0].Speed = 1
	for _, c := range []struct {
		list             []impl.Knock
		lean, tick, want float32
	}{
		{nil, 0.5, 1, 0}, {knocks(0, 1), 0.5, 1, 1}, {knocks(0, 1), 0, 1, 1}, {knocks(1, 2), 0, 1, 0}, {knocks(1, 2), 0.5, 1, 0.5}, {knocks(1, 2), 1, 0.5, 2},
		{knocks(0, 1, 1, 2), 1, 0.25, 4}, {knocks(0, 1, 1, 2), 0.5, 1, 1}, {knocks(0, 3), 1, 1, 0}, {knocks(0, 3), 1, 100, sub32(1, 0.07)}, {knocks(3, 4), 1, 1, 0},
		{knocks(0, 1, 3, 4), 1, 1, 1}, {knocks(1, 3), 1, 1, 0}, {knocks(1, 3, 2, 3), 1, 1, 0},
	} {
		gives(t, "MissOfKnocks", c.want)(impl.MissOfKnocks(h, c.list, c.lean, c.tick))
	}
	gives(t, "MissOfKnocks without grains", float32(0))(impl.MissOfKnocks(impl.Heap{}, nil, 0, 1))
	// Of grains that go apart, nothing misses; what the knocks have is not asked.
	gives(t, "MissOfKnocks apart", float32(0))(impl.MissOfKnocks(meeting(0, -2), []impl.Knock{knock(0, 1, 9, 9)}, 0, 1))
	gives(t, "MissOfKnocks at rest", float32(0))(impl.MissOfKnocks(meeting(0, 0), knocks(0, 1), 1, 1))
	for _, m := range wrongManners()[len(notRubs()):] {
		fails(t, "MissOfKnocks in a wrong manner")(impl.MissOfKnocks(h, knocks(0, 1), m.lean, m.tick))
		fails(t, "MissOfKnocks of nothing in a wrong manner")(impl.MissOfKnocks(impl.Heap{}, nil, m.lean, m.tick))
	}
	fails(t, "MissOfKnocks at one place")(impl.MissOfKnocks(heapWith(disc(1, 1), held(disc(1, 1)), disc(5, 1)), knocks(0, 1, 0, 2), 0, 1))
	fails(t, "MissOfKnocks too far apart")(impl.MissOfKnocks(heapWith(disc(-2e38, 1), disc(2e38, 1)), knocks(0, 1), 0, 1))
	fails(t, "MissOfKnocks of a need that is not finite")(impl.MissOfKnocks(meeting(1, 0), knocks(0, 1), 0, number(1)))
	fails(t, "MissOfKnocks of a need that is not a number")(impl.MissOfKnocks(meeting(-1, 0), knocks(0, 1), 0, number(1)))
	light := meeting(0, 2)
	light.Grains[1].Mass = number(1)
	fails(t, "MissOfKnocks of a grain that is too light")(impl.MissOfKnocks(light, knocks(0, 1), 0, 1))
	turning := meeting(0, 2)
	turning.Grains[0].Spin, turning.Grains[0].Radius = 3e38, 2
	fails(t, "MissOfKnocks of what slides too fast")(impl.MissOfKnocks(turning, knocks(0, 1), 0, 1))
	fast := heapWith(disc(0, 1), disc(1, 1))
	fast.Grains[0].Speed = 2e38
	gives(t, "MissOfKnocks that is large", float32(2e38))(impl.MissOfKnocks(fast, knocks(0, 1), 0, 1))
	fails(t, "MissOfKnocks that is too large")(impl.MissOfKnocks(fast, knocks(0, 1), 1, 4e-39))
	fast.Grains[0].Speed = -2e38
	fast.Grains[1].At = 3
	gives(t, "MissOfKnocks that is too small", float32(0))(impl.MissOfKnocks(fast, knocks(0, 1), 1, 4e-39))
}

func TestConeMiss(t *testing.T) {
	h := fullHeap(4)
	list := []impl.Knock{knock(0, 1, 2, 1.5), knock(0, 2, 1, -3), knock(1, 3, 0, 0.5), knock(2, 3, negativeZero(), negativeZero())}
	for _, c := range []struct{ rub, want float32 }{
		{0, 3}, {negativeZero(), 3}, {1, 2}, {2.5, 0.5}, {3, 0.5}, {100, 0.5}, {math.MaxFloat32, 0.5},
	} {
		gives(t, "ConeMiss", c.want)(impl.ConeMiss(h, list, c.rub))
		gives(t, "ConeMiss of none", float32(0))(impl.ConeMiss(h, nil, c.rub))
		gives(t, "ConeMiss without grains", float32(0))(impl.ConeMiss(impl.Heap{}, nil, c.rub))
		gives(t, "ConeMiss of the last one", float32(0))(impl.ConeMiss(h, list[3:], c.rub))
	}
	gives(t, "ConeMiss within the cone", float32(0))(impl.ConeMiss(h, list[:2], 3))
	gives(t, "ConeMiss of a large Rub", float32(math.MaxFloat32))(impl.ConeMiss(h, []impl.Knock{knock(0, 1, 0, -math.MaxFloat32)}, 1))
	gives(t, "ConeMiss of large numbers", float32(0))(impl.ConeMiss(h, []impl.Knock{knock(0, 1, math.MaxFloat32, math.MaxFloat32)}, math.MaxFloat32))
	for _, rub := range notRubs() {
		fails(t, "ConeMiss with a wrong rub")(impl.ConeMiss(h, list, rub))
		fails(t, "ConeMiss of nothing with a wrong rub")(impl.ConeMiss(impl.Heap{}, nil, rub))
	}
}

func TestMissesOfManyHeaps(t *testing.T) {
	for _, c := range someCollisions() {
		miss, ok := referenceMiss(c)
		expectFinite(t, "MissOfKnocks", ok, miss)(impl.MissOfKnocks(c.heap, c.list, c.lean, c.tick))
		gives(t, "ConeMiss", referenceCone(c))(impl.ConeMiss(c.heap, c.list, c.rub))
	}
}
