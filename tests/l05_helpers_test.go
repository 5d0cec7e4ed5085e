package tests

import (
	"math"
	"math/rand"

	"loop.example/g01268/impl"
)

func knock(a, b int64, push, rub float32) impl.Knock {
	return impl.Knock{A: a, B: b, Push: push, Rub: rub}
}

// knocks returns knocks with these grains, two for each one, with Push and Rub +0.
func knocks(grains ...int64) []impl.Knock {
	list := []impl.Knock{}
	for n := 0; n < len(grains); n += 2 {
		list = append(list, knock(grains[n], grains[n+1], 0, 0))
	}
	return list
}

// pairKnocks returns the first knocks of the first grains.
func pairKnocks(grains, most int) []impl.Knock {
	list := []impl.Knock{}
	for _, t := range allPairs(grains, most) {
		list = append(list, knock(t.A, t.B, float32(t.A+t.B)/8, t.Slide/8))
	}
	return list
}

// meeting returns two grains of the radius 1 and the mass 1 with this gap that
// come together with this speed, each with half of it.
func meeting(gap, speed float32) impl.Heap {
	h := facing(gap, 0)
	h.Grains[0].Speed, h.Grains[1].Speed = complex(speed/2, 0), complex(-speed/2, 0)
	return h
}

// wrongKnocks returns knocks that are none of a heap with count grains, 3 or more.
func wrongKnocks(count int64) []impl.Knock {
	list := []impl.Knock{}
	for _, t := range wrongTouches(count) {
		list = append(list, knock(t.A, t.B, 0, t.Slide))
	}
	for _, x := range append(notFinite(), -1, number(0x80000001), -math.MaxFloat32) {
		list = append(list, knock(0, 1, x, 0))
	}
	return list
}

// wrongKnockLists returns lists that are no knocks of a heap with count
// grains, 3 to 24.
func wrongKnockLists(count int64) [][]impl.Knock {
	lists := [][]impl.Knock{
		knocks(0, 1, 0, 1), knocks(0, 2, 0, 1), knocks(1, 2, 0, 1), knocks(0, 1, 1, 2, 0, 2), knocks(1, 2, 0, 2),
		{knock(0, 1, 1, 0), knock(0, 1, 2, 0)}, {knock(0, 1, 1, 1), knock(0, 1, 0, 0)}, {knock(0, 1, 0, 1), knock(0, 1, 0, 2)},
		repeated(knock(0, 1, 0, 0), impl.MaxKnocks+1), repeated(knock(0, 1, 0, 0), 100000), repeated(impl.Knock{}, 3),
	}
	for _, n := range wrongKnocks(count) {
		lists = append(lists, []impl.Knock{n}, []impl.Knock{knock(0, 1, 0, 0), n}, []impl.Knock{n, knock(1, 2, 0, 0)})
	}
	return lists
}

// notShares returns numbers that are not from 0 to 1.
func notShares() []float32 {
	return append(notFinite(), -1, number(0x80000001), number(0x3f800001), 2, math.MaxFloat32, -math.MaxFloat32)
}

// notRubs returns numbers that knocks cannot rub with.
func notRubs() []float32 {
	return append(notFinite(), -1, number(0x80000001), -math.MaxFloat32)
}

// notTicks returns numbers that are no ticks of knocks.
func notTicks() []float32 {
	return append(notFinite(), 0, negativeZero(), -1, number(0x80000001), -math.MaxFloat32)
}

// wrongRounds returns numbers of rounds that cannot be made.
func wrongRounds() []int64 {
	return []int64{-1, impl.MaxRounds + 1, math.MinInt64, math.MaxInt64, 1 << 32}
}

// manner is how knocks are solved.
type manner struct {
	rub, lean, tick float32
}

// wrongManners returns manners each of which has one number that is wrong.
func wrongManners() []manner {
	list := []manner{}
	for _, x := range notRubs() {
		list = append(list, manner{x, 0.5, 1})
	}
	for _, x := range notShares() {
		list = append(list, manner{0.5, x, 1})
	}
	for _, x := range notTicks() {
		list = append(list, manner{0.5, 0.5, x})
	}
	return list
}

// someManner returns a manner, often with a 0 or a 1.
func someManner(source *rand.Rand) manner {
	rubs := []float32{0, 0.3, 1, float32(source.Float64()), 7, negativeZero()}
	leans := []float32{0, 0.2, 1, float32(source.Float64())}
	return manner{rubs[source.Intn(len(rubs))], leans[source.Intn(len(leans))], float32(0.01 + source.Float64())}
}

// someKnocks returns knocks of grains that are near, and of some others, with
// any Pushes and Rubs.
func someKnocks(source *rand.Rand, h impl.Heap) []impl.Knock {
	list := []impl.Knock{}
	for a := range h.Grains {
		for b := a + 1; b < len(h.Grains); b++ {
			isNear := referenceGap(h.Grains[a], h.Grains[b]) <= 0.2
			if source.Intn(10) == 0 != isNear && len(list) < impl.MaxKnocks {
				n := knock(int64(a), int64(b), 0, 0)
				if source.Intn(3) > 0 {
					n.Push, n.Rub = float32(source.Float64()), someNumber(source, 0.5)
				}
				list = append(list, n)
			}
		}
	}
	return list
}

// collision is a heap with knocks, and how they are solved.
type collision struct {
	heap impl.Heap
	list []impl.Knock
	manner
}

// someCollisions returns heaps of all counts with knocks, always the same ones.
func someCollisions() []collision {
	source := rand.New(rand.NewSource(31))
	list := []collision{}
	for count := range impl.MaxGrains + 1 {
		for _, size := range []float64{0.1, 0.7, 1.5, 3, 5, 8, 1e6, 1e18, 1e38} {
			h := someHeap(source, count, size)
			list = append(list, collision{h, someKnocks(source, h), someManner(source)})
		}
	}
	for rows := int64(1); rows <= 6; rows++ {
		h, _ := impl.PileOfGrains(rows, 0.75, 0.3)
		for i := range h.Grains {
			h.Grains[i].At += somePoint(source, 0.02)
			h.Grains[i].Speed = somePoint(source, 1)
			h.Grains[i].Spin = someNumber(source, 1)
			h.Grains[i].Held = i < int(rows)
		}
		list = append(list, collision{h, someKnocks(source, h), someManner(source)})
	}
	return list
}

// star returns a heap in which count grains come to the one in the middle,
// which is behind some of them, and their knocks with it.
func star(count int, middle int64) (impl.Heap, []impl.Knock) {
	h, list := impl.Heap{}, []impl.Knock{}
	for k := range int64(count) {
		if k == middle {
			h.Grains = append(h.Grains, disc(0, 1))
		}
		way := impl.PhasorOf(float64(k) / float64(count))
		g := disc(impl.ScaleComplex(way, 9), 8)
		g.Speed = impl.ScaleComplex(way, -1)
		h.Grains = append(h.Grains, g)
	}
	for i := range int64(count + 1) {
		if i != middle {
			list = append(list, knock(min(i, middle), max(i, middle), 0, 0))
		}
	}
	return h, list
}
