package tests

import (
	"math"
	"math/rand"
	"slices"
	"testing"

	"loop.example/g01268/impl"
)

func TestValidGrain(t *testing.T) {
	check(t, "MaxGrains", impl.MaxGrains, 24)
	good := impl.Grain{At: complex(-1, negativeZero()), Speed: complex(0, -7), Radius: 0.5, Mass: 2, Turn: -3, Spin: 4, Held: true}
	check(t, "a grain is valid", impl.ValidGrain(good), true)
	for field := range 8 {
		for _, x := range []float32{number(1), math.MaxFloat32, 1} {
			check(t, "a grain with a usual number is valid", impl.ValidGrain(setField(good, field, x)), true)
		}
		if field != 4 && field != 5 {
			for _, x := range []float32{0, negativeZero(), -math.MaxFloat32} {
				check(t, "a grain with another number is valid", impl.ValidGrain(setField(good, field, x)), true)
			}
		}
	}
	for _, g := range invalidGrains() {
		check(t, "a wrong grain is valid: "+told(g), impl.ValidGrain(g), false)
		check(t, "a wrong held grain is valid: "+told(g), impl.ValidGrain(held(g)), false)
	}
}

func TestValidHeap(t *testing.T) {
	check(t, "no grains are valid", impl.ValidHeap(impl.Heap{}), true)
	check(t, "an empty list of grains is valid", impl.ValidHeap(impl.Heap{Grains: []impl.Grain{}}), true)
	for count := range impl.MaxGrains + 1 {
		check(t, "a heap is valid", impl.ValidHeap(fullHeap(count)), true)
		for i := range count {
			h := fullHeap(count)
			h.Grains[i].Mass = 0
			check(t, "a heap with a wrong grain is valid", impl.ValidHeap(h), false)
		}
	}
	for _, h := range invalidHeaps() {
		check(t, "a wrong heap is valid", impl.ValidHeap(h), false)
	}
}

func TestSameHeap(t *testing.T) {
	check(t, "no grains are the same", impl.SameHeap(impl.Heap{}, impl.Heap{Grains: []impl.Grain{}}), true)
	for _, count := range []int{1, 3, 24, 25, 100} {
		h := fullHeap(count)
		check(t, "a heap and itself", impl.SameHeap(h, fullHeap(count)), true)
		check(t, "a heap and a part of it", impl.SameHeap(h, fullHeap(count-1)), false)
		check(t, "a part of a heap and the heap", impl.SameHeap(fullHeap(count-1), h), false)
		for _, i := range []int{0, count / 2, count - 1} {
			other := fullHeap(count)
			other.Grains[i].Held = !other.Grains[i].Held
			check(t, "heaps with another Held", impl.SameHeap(h, other), false)
		}
	}
}

func TestSameHeapComparesEveryNumber(t *testing.T) {
	list := []float32{0, negativeZero(), 1, -1, number(1), inf(1), inf(-1), nan(), number(0xff800001)}
	for field := range 8 {
		for _, x := range list {
			for _, y := range list {
				a := heapWith(disc(1, 1), setField(disc(2, 3), field, x))
				b := heapWith(disc(1, 1), setField(disc(2, 3), field, y))
				check(t, "heaps with "+bits(x)+" and "+bits(y), impl.SameHeap(a, b), bits(x) == bits(y))
			}
		}
	}
}

func TestAddGrain(t *testing.T) {
	h := impl.Heap{}
	for i := range impl.MaxGrains {
		g := fullHeap(impl.MaxGrains).Grains[i]
		h = heap(t, "AddGrain")(impl.AddGrain(h, g))
		check(t, "AddGrain", told(h), told(fullHeap(i+1)))
	}
	fails(t, "AddGrain to a full heap")(impl.AddGrain(h, disc(0, 1)))
	for _, g := range invalidGrains() {
		fails(t, "AddGrain of a wrong grain")(impl.AddGrain(fullHeap(2), g))
		fails(t, "AddGrain of a wrong grain")(impl.AddGrain(impl.Heap{}, g))
	}
	for _, bad := range invalidHeaps() {
		fails(t, "AddGrain to a wrong heap")(impl.AddGrain(bad, disc(0, 1)))
	}
}

func TestSetGrain(t *testing.T) {
	g := held(disc(complex(7, negativeZero()), 9))
	for _, count := range []int{1, 2, 24} {
		for i := range count {
			want := fullHeap(count)
			want.Grains[i] = g
			gives(t, "SetGrain", want)(impl.SetGrain(fullHeap(count), int64(i), g))
		}
		for _, i := range wrongIndices(int64(count)) {
			fails(t, "SetGrain with a wrong index")(impl.SetGrain(fullHeap(count), i, g))
		}
	}
	fails(t, "SetGrain without grains")(impl.SetGrain(impl.Heap{}, 0, g))
	for _, bad := range invalidGrains() {
		fails(t, "SetGrain of a wrong grain")(impl.SetGrain(fullHeap(2), 1, bad))
		fails(t, "SetGrain in place of a wrong grain")(impl.SetGrain(heapWith(bad), 0, g))
	}
	for _, bad := range invalidHeaps() {
		fails(t, "SetGrain in a wrong heap")(impl.SetGrain(bad, 0, g))
	}
}

func TestDropGrain(t *testing.T) {
	for _, count := range []int{1, 2, 24} {
		for i := range count {
			want := impl.Heap{Grains: slices.Delete(fullHeap(count).Grains, i, i+1)}
			gives(t, "DropGrain", want)(impl.DropGrain(fullHeap(count), int64(i)))
		}
		for _, i := range wrongIndices(int64(count)) {
			fails(t, "DropGrain with a wrong index")(impl.DropGrain(fullHeap(count), i))
		}
	}
	fails(t, "DropGrain without grains")(impl.DropGrain(impl.Heap{}, 0))
	for _, bad := range invalidHeaps() {
		fails(t, "DropGrain of a wrong heap")(impl.DropGrain(bad, int64(len(bad.Grains))-1))
	}
}

func TestOrderGrains(t *testing.T) {
	source := rand.New(rand.NewSource(3))
	for count := range impl.MaxGrains + 1 {
		h, want := fullHeap(count), impl.Heap{}
		order := []int64{}
		for _, i := range source.Perm(count) {
			order = append(order, int64(i))
			want.Grains = append(want.Grains, h.Grains[i])
		}
		gives(t, "OrderGrains", want)(impl.OrderGrains(h, order))
	}
	gives(t, "OrderGrains without grains", impl.Heap{})(impl.OrderGrains(impl.Heap{}, nil))
}

func TestOrderGrainsTakesEachGrainOnce(t *testing.T) {
	for _, order := range [][]int64{
		nil, {}, {0}, {0, 1}, {0, 1, 2, 3}, {0, 1, 2, 0}, {0, 0, 1}, {0, 1, 1}, {2, 2, 2}, {0, 1, 3}, {0, 1, -1},
		{3, 1, 0}, {1, 2, 24}, {1, 2, 25}, {0, 1, math.MaxInt64}, {0, math.MinInt64, 1}, {1, 2, 1 << 32},
	} {
		fails(t, "OrderGrains with a wrong order")(impl.OrderGrains(fullHeap(3), order))
	}
	fails(t, "OrderGrains without grains")(impl.OrderGrains(impl.Heap{}, []int64{0}))
	for _, bad := range invalidHeaps() {
		order := make([]int64, len(bad.Grains))
		for i := range order {
			order[i] = int64(i)
		}
		fails(t, "OrderGrains of a wrong heap")(impl.OrderGrains(bad, order))
	}
}

func TestRowOfGrains(t *testing.T) {
	for _, gap := range []float32{0, 0.5, 0.1, -0.3, -2, negativeZero(), 1e20, number(1)} {
		for count := int64(1); count <= impl.MaxGrains; count++ {
			want := impl.Heap{}
			for k := range count {
				x := mul32(float32(k), add32(mul32(2, 0.7), gap))
				want.Grains = append(want.Grains, impl.Grain{At: complex(x, 0), Radius: 0.7, Mass: 3})
			}
			gives(t, "RowOfGrains", want)(impl.RowOfGrains(count, 0.7, gap, 3))
		}
	}
	for _, count := range []int64{0, -1, 25, 1 << 32, 1<<32 + 1, math.MinInt64, math.MaxInt64} {
		fails(t, "RowOfGrains with a wrong count")(impl.RowOfGrains(count, 1, 1, 1))
	}
	for _, x := range append(notFinite(), 0, negativeZero(), -1) {
		fails(t, "RowOfGrains with a wrong radius")(impl.RowOfGrains(1, x, 1, 1))
		fails(t, "RowOfGrains with a wrong mass")(impl.RowOfGrains(1, 1, 1, x))
	}
	for _, x := range notFinite() {
		fails(t, "RowOfGrains with a wrong gap")(impl.RowOfGrains(1, 1, x, 1))
	}
}

func TestRowOfGrainsHasFinitePlaces(t *testing.T) {
	fails(t, "RowOfGrains that is too wide")(impl.RowOfGrains(2, 2e38, 0, 1))
	fails(t, "RowOfGrains of a grain that is too wide")(impl.RowOfGrains(1, 2e38, 0, 1))
	fails(t, "RowOfGrains with a gap that is too wide")(impl.RowOfGrains(2, 1e38, 3e38, 1))
	fails(t, "RowOfGrains with two radii that are too wide")(impl.RowOfGrains(2, 2e38, -3e38, 1))
	row := heap(t, "RowOfGrains")(impl.RowOfGrains(3, 1e38, -5e37, 1))
	checkComplex(t, "the last place", row.Grains[2].At, complex(mul32(2, add32(2e38, -5e37)), 0))
	fails(t, "RowOfGrains that is too long")(impl.RowOfGrains(4, 1e38, -5e37, 1))
}

func TestPileOfGrains(t *testing.T) {
	for rows := int64(1); rows <= 6; rows++ {
		want := impl.Heap{}
		for n := range rows {
			for k := range rows - n {
				x, y := mul32(0.7, float32(2*k+n)), mul32(number(0x3fddb3d7), 0.7, float32(n))
				want.Grains = append(want.Grains, impl.Grain{At: complex(x, y), Radius: 0.7, Mass: 0.1})
			}
		}
		check(t, "how many grains", len(want.Grains), rows*(rows+1)/2)
		gives(t, "PileOfGrains", want)(impl.PileOfGrains(rows, 0.7, 0.1))
	}
	for _, rows := range []int64{0, -1, 7, 1 << 32, 1<<32 + 1, math.MinInt64, math.MaxInt64} {
		fails(t, "PileOfGrains with wrong rows")(impl.PileOfGrains(rows, 1, 1))
	}
	for _, x := range append(notFinite(), 0, negativeZero(), -1) {
		fails(t, "PileOfGrains with a wrong radius")(impl.PileOfGrains(2, x, 1))
		fails(t, "PileOfGrains with a wrong mass")(impl.PileOfGrains(2, 1, x))
	}
	fails(t, "PileOfGrains that is too wide")(impl.PileOfGrains(6, 1e38, 1))
	fails(t, "PileOfGrains of a grain that is too high")(impl.PileOfGrains(1, 3e38, 1))
}

// checkChange checks a function that changes each grain on its own, with
// usual heaps and with wrong ones.
func checkChange(t *testing.T, what string, change func(h impl.Heap) (impl.Heap, bool), wanted func(g impl.Grain) impl.Grain) {
	t.Helper()
	for _, h := range append(someHeaps(), fullHeap(0), fullHeap(1), fullHeap(impl.MaxGrains)) {
		want := impl.Heap{Grains: slices.Clone(h.Grains)}
		for i, g := range want.Grains {
			want.Grains[i] = wanted(g)
		}
		if impl.ValidHeap(want) {
			gives(t, what, want)(change(h))
		} else {
			fails(t, what+" of too large numbers")(change(h))
		}
	}
	for _, h := range invalidHeaps() {
		fails(t, what+" of a wrong heap")(change(h))
	}
}

func TestMoveHeap(t *testing.T) {
	for _, by := range []complex64{0, complex(0.1, -0.7), complex(negativeZero(), negativeZero()), complex(1e38, -3), complex(0, -3e38)} {
		checkChange(t, "MoveHeap", func(h impl.Heap) (impl.Heap, bool) {
			return impl.MoveHeap(h, by)
		}, func(g impl.Grain) impl.Grain {
			g.At = addComplex32(g.At, by)
			return g
		})
	}
	fails(t, "MoveHeap too far")(impl.MoveHeap(heapWith(disc(0, 1), held(disc(3e38, 1))), 3e38))
	fails(t, "MoveHeap too far")(impl.MoveHeap(heapWith(disc(complex(0, -3e38), 1)), complex(0, -3e38)))
	for _, x := range notFinite() {
		for _, h := range []impl.Heap{{}, fullHeap(2)} {
			fails(t, "MoveHeap by no finite number")(impl.MoveHeap(h, complex(x, 0)))
			fails(t, "MoveHeap by no finite number")(impl.MoveHeap(h, complex(0, x)))
		}
	}
}

func TestMirrorHeap(t *testing.T) {
	checkChange(t, "MirrorHeap", impl.MirrorHeap, func(g impl.Grain) impl.Grain {
		g.At = complex(-real(g.At), imag(g.At))
		g.Speed = complex(-real(g.Speed), imag(g.Speed))
		g.Turn, g.Spin = -g.Turn, -g.Spin
		return g
	})
	zeros := impl.Grain{At: complex(0, negativeZero()), Speed: complex(negativeZero(), 0), Radius: 1, Mass: 1, Turn: 0, Spin: negativeZero()}
	want := impl.Grain{At: complex(negativeZero(), negativeZero()), Radius: 1, Mass: 1, Turn: negativeZero()}
	gives(t, "MirrorHeap of zeros", heapWith(want))(impl.MirrorHeap(heapWith(zeros)))
}

func TestPushHeap(t *testing.T) {
	for _, by := range []complex64{0, complex(0.1, -0.7), complex(3e38, -3e38)} {
		checkChange(t, "PushHeap", func(h impl.Heap) (impl.Heap, bool) {
			return impl.PushHeap(h, by)
		}, func(g impl.Grain) impl.Grain {
			if !g.Held {
				g.Speed = addComplex32(g.Speed, by)
			}
			return g
		})
	}
	fast := impl.Grain{Speed: complex(0, 3e38), Radius: 1, Mass: 1}
	fails(t, "PushHeap too fast")(impl.PushHeap(heapWith(disc(0, 1), fast), complex(0, 3e38)))
	gives(t, "PushHeap of a held grain", heapWith(held(fast)))(impl.PushHeap(heapWith(held(fast)), complex(0, 3e38)))
	for _, x := range notFinite() {
		for _, h := range []impl.Heap{{}, heapWith(held(fast)), fullHeap(2)} {
			fails(t, "PushHeap by no finite number")(impl.PushHeap(h, complex(x, 0)))
			fails(t, "PushHeap by no finite number")(impl.PushHeap(h, complex(0, x)))
		}
	}
}

func TestHoldGrain(t *testing.T) {
	for _, count := range []int{1, 2, 24} {
		for i := range count {
			for _, hold := range []bool{false, true} {
				want := fullHeap(count)
				want.Grains[i].Held = hold
				gives(t, "HoldGrain", want)(impl.HoldGrain(fullHeap(count), int64(i), hold))
			}
		}
		for _, i := range wrongIndices(int64(count)) {
			fails(t, "HoldGrain with a wrong index")(impl.HoldGrain(fullHeap(count), i, true))
		}
	}
	fails(t, "HoldGrain without grains")(impl.HoldGrain(impl.Heap{}, 0, false))
	for _, bad := range invalidHeaps() {
		fails(t, "HoldGrain of a wrong heap")(impl.HoldGrain(bad, 0, true))
	}
}

func TestFlyHeap(t *testing.T) {
	for _, tick := range []float32{0, negativeZero(), 0.01, -0.3, 7, 1e20, -3e38} {
		for _, pull := range []complex64{0, complex(0.3, -9.81), complex(negativeZero(), 1e19)} {
			checkChange(t, "FlyHeap", func(h impl.Heap) (impl.Heap, bool) {
				return impl.FlyHeap(h, pull, tick)
			}, func(g impl.Grain) impl.Grain {
				return referenceFlight(g, pull, tick)
			})
		}
	}
	g := impl.Grain{At: complex(1, 2), Speed: complex(4, 0), Radius: 1, Mass: 9, Turn: 0.5, Spin: 6.2831855}
	want := g
	want.Speed, want.At, want.Turn = complex(4, -2), complex(3, 1), 1
	gives(t, "FlyHeap", heapWith(want, held(g)))(impl.FlyHeap(heapWith(g, held(g)), complex(0, -4), 0.5))
}

func TestFlyHeapStaysFinite(t *testing.T) {
	g := impl.Grain{At: 3e38, Speed: 1, Radius: 1, Mass: 1, Spin: 1}
	gives(t, "FlyHeap of a held grain", heapWith(held(g)))(impl.FlyHeap(heapWith(held(g)), 3e38, 3e38))
	fails(t, "FlyHeap with a pull that is too large")(impl.FlyHeap(heapWith(g), 3e38, 3e38))
	fails(t, "FlyHeap too far")(impl.FlyHeap(heapWith(g), 0, 3e38))
	g.At, g.Speed, g.Spin = 0, 0, 3e38
	fails(t, "FlyHeap with a turn that is too large")(impl.FlyHeap(heapWith(disc(5, 1), g), 0, 2))
	for _, h := range []impl.Heap{{}, heapWith(held(g)), fullHeap(3)} {
		for _, x := range notFinite() {
			fails(t, "FlyHeap with no finite tick")(impl.FlyHeap(h, 0, x))
			fails(t, "FlyHeap with no finite pull")(impl.FlyHeap(h, complex(x, 0), 1))
			fails(t, "FlyHeap with no finite pull")(impl.FlyHeap(h, complex(0, x), 0))
		}
	}
}
