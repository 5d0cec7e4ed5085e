package tests

import (
	"math"
	"testing"

	"loop.example/g01268/impl"
)

func heavy(g impl.Grain, mass float32) impl.Grain {
	g.Mass = mass
	return g
}

func TestWeightOfPair(t *testing.T) {
	h := heapWith(disc(0, 1), heavy(disc(5, 1), 4), held(heavy(disc(1, 1), 8)), held(heavy(disc(1, 1), number(1))), heavy(disc(1, 1), math.MaxFloat32))
	for _, c := range []struct {
		i, k int64
		want float32
	}{
		{0, 1, 1.25}, {0, 2, 1}, {1, 2, 0.25}, {0, 3, 1}, {2, 3, 0}, {2, 4, div32(1, math.MaxFloat32)}, {1, 4, 0.25},
	} {
		gives(t, "WeightOfPair", c.want)(impl.WeightOfPair(h, c.i, c.k))
		gives(t, "WeightOfPair from the other side", c.want)(impl.WeightOfPair(h, c.k, c.i))
	}
	light := heapWith(heavy(disc(0, 1), number(1)), disc(1, 1), held(disc(2, 1)), held(heavy(disc(3, 1), number(1))), heavy(disc(4, 1), 5e-39), heavy(disc(5, 1), 5e-39))
	fails(t, "WeightOfPair of a grain that is too light")(impl.WeightOfPair(light, 0, 1))
	fails(t, "WeightOfPair of a grain that is too light")(impl.WeightOfPair(light, 2, 0))
	gives(t, "WeightOfPair of light grains that are held", float32(0))(impl.WeightOfPair(light, 2, 3))
	gives(t, "WeightOfPair of a light grain", div32(1, 5e-39))(impl.WeightOfPair(light, 2, 4))
	fails(t, "WeightOfPair of two grains that are too light")(impl.WeightOfPair(light, 5, 4))
	apart := heapWith(disc(-2e38, 1), disc(2e38, 1), disc(2e38, 1))
	gives(t, "WeightOfPair of grains far apart", float32(2))(impl.WeightOfPair(apart, 0, 1))
	gives(t, "WeightOfPair of grains at one place", float32(2))(impl.WeightOfPair(apart, 2, 1))
}

func TestNeedOf(t *testing.T) {
	for _, c := range []struct{ gap, lean, tick, want float32 }{
		// apart, lean changes nothing
		{1, 0, 0.5, -2}, {1, 0.5, 0.5, -2}, {1, 1, 0.5, -2}, {1, negativeZero(), 4, -0.25}, {number(0x34800000), 1, 1, number(0xb4800000)},
		// gaps of nothing
		{0, 0, 1, negativeZero()}, {0, 1, 1, negativeZero()}, {0, 0.5, math.MaxFloat32, negativeZero()}, {0, negativeZero(), number(1), negativeZero()},
		// overlaps
		{-1, 0, 0.5, 0}, {-1, negativeZero(), 0.5, negativeZero()}, {-1, 0.25, 0.5, 0.5}, {-1, 1, 0.5, 2}, {-0.5, 0.5, 4, 0.0625}, {-2, 1, 1, 2},
		{-1, number(1), 1, number(1)}, {-1, 0.3, 0.7, mul32(0.3, div32(1, 0.7))},
	} {
		gives(t, "NeedOf", c.want)(impl.NeedOf(facing(c.gap, 7), 0, 1, c.lean, c.tick))
		gives(t, "NeedOf from the other side", c.want)(impl.NeedOf(facing(c.gap, 7), 1, 0, c.lean, c.tick))
	}
	gives(t, "NeedOf grains that are held", float32(-2))(impl.NeedOf(heapWith(held(disc(0, 1)), held(disc(3, 1))), 0, 1, 0, 0.5))
	gives(t, "NeedOf grains at one place", float32(2))(impl.NeedOf(heapWith(disc(5, 1), disc(5, 1)), 0, 1, 0.5, 0.5))
	for _, lean := range []float32{0, 0.5, 1} {
		fails(t, "NeedOf a quotient that is not finite")(impl.NeedOf(facing(1, 0), 0, 1, lean, number(1)))
		fails(t, "NeedOf a quotient that is not finite")(impl.NeedOf(facing(-1, 0), 0, 1, lean, number(1)))
		fails(t, "NeedOf grains too far apart")(impl.NeedOf(heapWith(disc(-2e38, 1), disc(2e38, 1)), 0, 1, lean, 1))
		fails(t, "NeedOf grains that are too wide")(impl.NeedOf(heapWith(disc(0, 2e38), disc(0, 2e38)), 0, 1, lean, 1))
	}
	for _, m := range wrongManners()[len(notRubs()):] {
		fails(t, "NeedOf in a wrong manner")(impl.NeedOf(facing(1, 0), 0, 1, m.lean, m.tick))
		fails(t, "NeedOf in a wrong manner")(impl.NeedOf(facing(-1, 0), 0, 1, m.lean, m.tick))
	}
}

func TestHitPair(t *testing.T) {
	a := impl.Grain{Speed: complex(1, 2), Radius: 2, Mass: 2, Turn: 7, Spin: 3}
	b := impl.Grain{At: complex(0, 5), Speed: complex(-1, 4), Radius: 0.5, Mass: 4, Turn: 8, Spin: -1}
	// The way is up, so that what rubs goes to the left of it.
	hitA, hitB := a, b
	hitA.Speed, hitA.Spin = complex(1+3, 2-4), 3-12.0/4
	hitB.Speed, hitB.Spin = complex(-1-1.5, 4+2), -1-12.0/2
	other := impl.Grain{At: 3, Speed: 9, Radius: 1, Mass: 1, Spin: 9}
	gives(t, "HitPair", heapWith(hitA, hitB, other))(impl.HitPair(heapWith(a, b, other), 0, 1, 8, 6))
	gives(t, "HitPair with the first grain held", heapWith(held(a), hitB))(impl.HitPair(heapWith(held(a), b), 0, 1, 8, 6))
	gives(t, "HitPair with the second grain held", heapWith(hitA, held(b)))(impl.HitPair(heapWith(a, held(b)), 0, 1, 8, 6))
	gives(t, "HitPair with both grains held", heapWith(held(a), held(b)))(impl.HitPair(heapWith(held(a), held(b)), 0, 1, 8, 6))
	gives(t, "HitPair from the other side", heapWith(hitB, other, hitA))(impl.HitPair(heapWith(b, other, a), 2, 0, 8, 6))
	gives(t, "HitPair with the opposites of it", heapWith(a, b))(impl.HitPair(heapWith(hitA, hitB), 0, 1, -8, -6))
	gives(t, "HitPair of nothing", heapWith(a, b))(impl.HitPair(heapWith(a, b), 0, 1, 0, 0))
	pushedA, pushedB := a, b
	pushedA.Speed, pushedB.Speed = complex(1, 2-4), complex(-1, 4+2)
	gives(t, "HitPair without a rub", heapWith(pushedA, pushedB))(impl.HitPair(heapWith(a, b), 0, 1, 8, 0))
}

func TestHitPairAndZeros(t *testing.T) {
	zeros := complex(negativeZero(), negativeZero())
	at := []complex64{0, 3, complex(0, 3), complex(-3, negativeZero()), complex(-3, -4)}
	for _, place := range at[1:] {
		for n := range 4 {
			a, b := disc(at[0], 1), disc(place, 1)
			a.Speed, b.Speed, a.Spin, b.Spin = zeros, zeros, negativeZero(), negativeZero()
			a.Held, b.Held = n%2 == 1, n > 1
			for _, c := range [][2]float32{{0, 0}, {negativeZero(), 0}, {0, negativeZero()}, {negativeZero(), negativeZero()}, {1, 0}, {-1, 0}, {0, 1}, {0, -1}, {-2, 3}} {
				want, ok := referenceHit(heapWith(a, b), 0, 1, c[0], c[1])
				check(t, "the reference succeeds", ok, true)
				gives(t, "HitPair", want)(impl.HitPair(heapWith(a, b), 0, 1, c[0], c[1]))
			}
		}
	}
	// To a Speed -0 of a grain that is held, a product with the weight +0 is added, too.
	both := heapWith(held(disc(0, 1)), held(disc(3, 1)))
	both.Grains[0].Speed, both.Grains[1].Speed = zeros, zeros
	hit, ok := impl.HitPair(both, 0, 1, 1, 0)
	check(t, "HitPair succeeds", ok, true)
	checkComplex(t, "the first grain that is held", hit.Grains[0].Speed, zeros)
	checkComplex(t, "the second grain that is held", hit.Grains[1].Speed, 0)
}

func TestHitPairIsFinite(t *testing.T) {
	h := heapWith(disc(0, 1), disc(complex(3, 3), 1), disc(complex(9, 9), 1))
	const most = math.MaxFloat32
	for _, c := range [][2]float32{{most, 0}, {-most, 0}, {0, 1e38}, {0, -1e38}} {
		hit, ok := impl.HitPair(h, 0, 1, c[0], c[1])
		check(t, "HitPair with large numbers", []any{impl.ValidHeap(hit), ok}, "[true true]")
	}
	for _, c := range [][2]float32{{most, most}, {most, -most}, {-most, most}, {0, most}, {0, -most}} {
		fails(t, "HitPair with numbers that are too large")(impl.HitPair(h, 0, 1, c[0], c[1]))
	}
	both := heapWith(held(h.Grains[0]), held(h.Grains[1]))
	gives(t, "HitPair of what is held turns nothing", both)(impl.HitPair(both, 0, 1, 0, most))
	fails(t, "HitPair of what is held with a sum that is too large")(impl.HitPair(both, 0, 1, most, most))
	for _, x := range notFinite() {
		for _, bad := range []impl.Heap{h, both} {
			fails(t, "HitPair with a wrong push")(impl.HitPair(bad, 0, 1, x, 0))
			fails(t, "HitPair with a wrong rub")(impl.HitPair(bad, 0, 1, 0, x))
		}
	}
	light := heapWith(heavy(disc(0, 1), number(1)), disc(3, 1))
	fails(t, "HitPair of a grain that is too light")(impl.HitPair(light, 0, 1, 1, 0))
	fails(t, "HitPair of a grain that is too light by nothing")(impl.HitPair(light, 0, 1, 0, 0))
	fails(t, "HitPair of a grain that is too light from the other side")(impl.HitPair(light, 1, 0, 1, 0))
	light.Grains[0].Held = true
	gives(t, "HitPair of nothing with a light grain that is held", light)(impl.HitPair(light, 0, 1, 0, 0))
	tiny := heapWith(impl.Grain{Radius: 1e-30, Mass: 1e-30}, disc(3, 1))
	fails(t, "HitPair of a grain that turns too lightly")(impl.HitPair(tiny, 0, 1, 0, 1))
	fails(t, "HitPair of a grain that turns too lightly by nothing")(impl.HitPair(tiny, 0, 1, 0, 0))
	tiny.Grains[0].Held = true
	gives(t, "HitPair of nothing with a tiny grain that is held", tiny)(impl.HitPair(tiny, 0, 1, 0, 0))
	huge := heapWith(impl.Grain{At: complex(0, 3e30), Radius: 1e30, Mass: 1e30, Spin: 5}, disc(0, 1))
	hit, ok := impl.HitPair(huge, 0, 1, 0, 1e38)
	check(t, "HitPair of a grain that is too heavy to turn", []any{hit.Grains[0].Spin, ok}, "[5 true]")
}

func TestHitPairHasAWay(t *testing.T) {
	stuck := heapWith(disc(1, 1), disc(1, 1))
	far := heapWith(disc(-2e38, 1), disc(2e38, 1))
	for _, h := range []impl.Heap{stuck, far, heapWith(held(stuck.Grains[0]), held(stuck.Grains[1])), heapWith(held(far.Grains[0]), held(far.Grains[1]))} {
		for _, c := range [][2]float32{{0, 0}, {1, 0}, {0, 1}} {
			fails(t, "HitPair without a way")(impl.HitPair(h, 0, 1, c[0], c[1]))
			fails(t, "WarmHeap without a way")(impl.WarmHeap(h, []impl.Knock{knock(0, 1, c[0], c[1])}))
		}
	}
}

// failsForBoth checks all functions with two grains.
func failsForBoth(t *testing.T, h impl.Heap, i, k int64) {
	t.Helper()
	fails(t, "WeightOfPair")(impl.WeightOfPair(h, i, k))
	fails(t, "NeedOf")(impl.NeedOf(h, i, k, 0.5, 1))
	fails(t, "HitPair")(impl.HitPair(h, i, k, 1, 1))
	fails(t, "HitPair of nothing")(impl.HitPair(h, i, k, 0, 0))
}

func TestImpulsesFail(t *testing.T) {
	h := heapWith(disc(0, 1), disc(2, 1), disc(4, 1))
	for i := range int64(3) {
		failsForBoth(t, h, i, i)
		for _, k := range wrongIndices(3) {
			failsForBoth(t, h, i, k)
			failsForBoth(t, h, k, i)
			failsForBoth(t, h, k, k)
		}
	}
	failsForBoth(t, impl.Heap{}, 0, 1)
	failsForBoth(t, fullHeap(1), 0, 1)
	for _, bad := range invalidHeaps() {
		failsForBoth(t, bad, 0, 1)
	}
}

func TestWarmHeap(t *testing.T) {
	row := heap(t, "RowOfGrains")(impl.RowOfGrains(3, 1, 0, 2))
	row.Grains[2].Held = true
	list := []impl.Knock{knock(0, 1, 4, 0), knock(0, 2, 2, 0), knock(1, 2, 6, -1)}
	want := heapWith(row.Grains...)
	want.Grains = append([]impl.Grain{}, row.Grains...)
	want.Grains[0].Speed, want.Grains[1].Speed = complex(-2-1, 0), complex(2-3, 0.5)
	want.Grains[1].Spin = 1
	gives(t, "WarmHeap", want)(impl.WarmHeap(row, list))
	gives(t, "WarmHeap without knocks", row)(impl.WarmHeap(row, nil))
	gives(t, "WarmHeap without grains", impl.Heap{})(impl.WarmHeap(impl.Heap{}, nil))
	gives(t, "WarmHeap with a knock of nothing", row)(impl.WarmHeap(row, knocks(0, 1)))
	fails(t, "WarmHeap that is too fast on the way")(impl.WarmHeap(heapWith(heavy(disc(0, 1), 0.5), heavy(disc(2, 1), 0.5), disc(1, 1)), []impl.Knock{knock(0, 1, 2e38, 0), knock(1, 2, 2e38, 0)}))
}

func TestWarmHeapGoesInOrder(t *testing.T) {
	// A speed that is too large is too large also if a later knock takes it back.
	h := heapWith(disc(-3, 1), disc(0, 1), disc(3, 1), disc(-6, 1))
	h.Grains[1].Speed = 2e38
	gives(t, "WarmHeap back and forth", heapWith(
		impl.Grain{At: -3, Radius: 1, Mass: 1}, impl.Grain{Speed: 2e38, Radius: 1, Mass: 1}, impl.Grain{At: 3, Speed: 2e38, Radius: 1, Mass: 1}, impl.Grain{At: -6, Speed: -2e38, Radius: 1, Mass: 1}))(
		impl.WarmHeap(heapWith(disc(-3, 1), h.Grains[1], disc(3, 1), disc(-6, 1)), []impl.Knock{knock(0, 3, 0, 0), knock(1, 2, 2e38, 0), knock(1, 3, 2e38, 0)}))
	fails(t, "WarmHeap forth and back")(impl.WarmHeap(h, []impl.Knock{knock(0, 1, 2e38, 0), knock(1, 2, 2e38, 0)}))
	left, middle, right, near := disc(-1, 8), disc(0, 1), disc(1, 8), disc(complex(2, 0), 8)
	last, _ := impl.WarmHeap(heapWith(left, middle, right, near), []impl.Knock{knock(0, 1, 1<<26, 0), knock(1, 2, 1<<26, 0), knock(1, 3, 1, 0)})
	check(t, "the little push last", last.Grains[1].Speed, "(-1+0i)")
	second, _ := impl.WarmHeap(heapWith(left, middle, near, right), []impl.Knock{knock(0, 1, 1<<26, 0), knock(1, 2, 1, 0), knock(1, 3, 1<<26, 0)})
	check(t, "the little push second", second.Grains[1].Speed, "(0+0i)")
}

func TestImpulsesOfManyHeaps(t *testing.T) {
	hits, warm := 0, 0
	for _, c := range someCollisions() {
		for _, n := range c.list {
			weight := referenceWeight(c.heap, n.A, n.B)
			expectFinite(t, "WeightOfPair", isFinite(weight), weight)(impl.WeightOfPair(c.heap, n.A, n.B))
			need := referenceNeed(c.heap, n.A, n.B, c.lean, c.tick)
			expectFinite(t, "NeedOf", isFinite(need), need)(impl.NeedOf(c.heap, n.A, n.B, c.lean, c.tick))
			for _, way := range [][2]int64{{n.A, n.B}, {n.B, n.A}} {
				hit, ok := referenceHit(c.heap, way[0], way[1], n.Push-0.3, n.Rub)
				expectFinite(t, "HitPair", ok, hit)(impl.HitPair(c.heap, way[0], way[1], n.Push-0.3, n.Rub))
				if ok {
					hits++
				}
			}
		}
		h, ok := referenceWarmHeap(c.heap, c.list)
		expectFinite(t, "WarmHeap", ok, h)(impl.WarmHeap(c.heap, c.list))
		if ok && len(c.list) > 2 {
			warm++
		}
	}
	check(t, "most heaps are warmed", []bool{hits > 2000, warm > 100}, "[true true]")
}
