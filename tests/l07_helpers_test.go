package tests

import (
	"math"
	"math/rand"
	"testing"

	"loop.example/g01268/impl"
)

func bond(a, b int64, long, strength float32) impl.Bond {
	return impl.Bond{A: a, B: b, Long: long, Strength: strength}
}

// bonds returns bonds with these grains, two for each one, with the Long 1 and
// the Strength 2.
func bonds(grains ...int64) []impl.Bond {
	list := []impl.Bond{}
	for n := 0; n < len(grains); n += 2 {
		list = append(list, bond(grains[n], grains[n+1], 1, 2))
	}
	return list
}

// pairBonds returns the first bonds of the first grains.
func pairBonds(grains, most int) []impl.Bond {
	list := []impl.Bond{}
	for _, t := range allPairs(grains, most) {
		list = append(list, bond(t.A, t.B, float32(t.A+t.B)/8, float32(t.A)/4))
	}
	return list
}

// beads returns grains with the radius 1/2 on a line, at these places.
func beads(places ...float32) impl.Heap {
	h := impl.Heap{}
	for _, x := range places {
		h.Grains = append(h.Grains, disc(complex(x, 0), 0.5))
	}
	return h
}

// wrongBonds returns bonds that are none of a heap with count grains, 3 or more.
func wrongBonds(count int64) []impl.Bond {
	list := []impl.Bond{}
	for _, t := range wrongTouches(count) {
		list = append(list, bond(t.A, t.B, 1+t.Slide, 1))
	}
	for _, x := range notPositive() {
		list = append(list, bond(0, 1, x, 1))
	}
	for _, x := range wrongStiffs() {
		list = append(list, bond(0, 1, 1, x))
	}
	return list
}

// wrongBondLists returns lists that are no bonds of a heap with count grains,
// 3 to 24.
func wrongBondLists(count int64) [][]impl.Bond {
	lists := [][]impl.Bond{
		bonds(0, 1, 0, 1), bonds(0, 2, 0, 1), bonds(1, 2, 0, 1), bonds(0, 1, 1, 2, 0, 2), bonds(1, 2, 0, 2), bonds(0, 1, 0, 2, 0, 2),
		{bond(0, 1, 1, 0), bond(0, 1, 2, 0)}, {bond(0, 1, 2, 1), bond(0, 1, 1, 0)}, {bond(0, 1, 1, 1), bond(0, 1, 1, 2)},
		repeated(bond(0, 1, 1, 1), impl.MaxBonds+1), repeated(bond(0, 1, 1, 1), 100000), repeated(impl.Bond{}, 3),
	}
	for _, b := range wrongBonds(count) {
		lists = append(lists, []impl.Bond{b}, []impl.Bond{bond(0, 1, 1, 1), b}, []impl.Bond{b, bond(1, 2, 1, 1)})
	}
	return lists
}

// wrongSteps returns numbers of steps that cannot be made.
func wrongSteps() []int64 {
	return []int64{-1, impl.MaxSteps + 1, math.MinInt64, math.MaxInt64, 1 << 32}
}

// expects checks a function that succeeds only if ok is true.
func expects(t *testing.T, what string, ok bool, wants ...any) func(results ...any) {
	t.Helper()
	if ok {
		return gives(t, what, wants...)
	}
	return fails(t, what)
}

// tied is a heap with bonds.
type tied struct {
	heap impl.Heap
	list []impl.Bond
}

// someBonds returns bonds of grains that are near, and of some others. Many of
// them are nearly as long as their grains are apart.
func someBonds(source *rand.Rand, h impl.Heap) []impl.Bond {
	list := []impl.Bond{}
	for a := range h.Grains {
		for b := a + 1; b < len(h.Grains) && len(list) < impl.MaxBonds; b++ {
			isNear := referenceGap(h.Grains[a], h.Grains[b]) <= 0.3
			if source.Intn(12) == 0 == isNear {
				continue
			}
			long := long32(subComplex32(h.Grains[b].At, h.Grains[a].At))
			if source.Intn(2) == 0 || !isFinite(long) {
				long = 1
			}
			long *= float32(0.5 + source.Float64())
			if !isFinite(long) || long == 0 {
				long = 2
			}
			list = append(list, bond(int64(a), int64(b), long, float32(source.Intn(4))*float32(source.Float64())))
		}
	}
	return list
}

// someTies returns heaps of all counts with bonds, always the same ones.
func someTies() []tied {
	source := rand.New(rand.NewSource(61))
	list := []tied{}
	for count := range impl.MaxGrains + 1 {
		for _, size := range []float64{0.1, 0.7, 1.5, 3, 5, 8, 20, 1e6, 1e18, 1e38} {
			h := someHeap(source, count, size)
			list = append(list, tied{h, someBonds(source, h)})
		}
		// Some grains are at one place.
		h := someHeap(source, count, 2)
		for i := range h.Grains {
			if source.Intn(8) == 0 {
				h.Grains[i].At = h.Grains[source.Intn(i+1)].At
			}
		}
		list = append(list, tied{h, someBonds(source, h)})
	}
	h := someHeap(source, impl.MaxGrains, 4)
	list = append(list, tied{h, nil}, tied{h, pairBonds(24, impl.MaxBonds)[1:]})
	for rows := int64(1); rows <= 6; rows++ {
		h, _ := impl.PileOfGrains(rows, 0.75, 0.3)
		for i := range h.Grains {
			h.Grains[i].At += somePoint(source, 0.02)
			h.Grains[i].Held = i%5 == 0
		}
		list = append(list, tied{h, someBonds(source, h)})
	}
	return list
}
