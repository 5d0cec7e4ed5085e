package tests

import (
	"math"
	"math/rand"

	"loop.example/g01268/impl"
)

func touch(a, b int64, slide float32) impl.Touch {
	return impl.Touch{A: a, B: b, Slide: slide}
}

// touches returns touches with these grains, two for each one, and the Slide +0.
func touches(grains ...int64) []impl.Touch {
	list := []impl.Touch{}
	for n := 0; n < len(grains); n += 2 {
		list = append(list, touch(grains[n], grains[n+1], 0))
	}
	return list
}

// allPairs returns the first touches of the first grains.
func allPairs(grains, most int) []impl.Touch {
	list := []impl.Touch{}
	for a := range grains {
		for b := a + 1; b < grains && len(list) < most; b++ {
			list = append(list, touch(int64(a), int64(b), float32(a)-float32(b)/4))
		}
	}
	return list
}

// clusters returns a heap with grains that all touch one another in each
// cluster, and no others.
func clusters(counts ...int) impl.Heap {
	h := impl.Heap{}
	for n, count := range counts {
		for k := range count {
			h.Grains = append(h.Grains, disc(complex(float32(100*n), float32(k)/32), 1))
		}
	}
	return h
}

func setRule(r impl.Rules, field int, x float32) impl.Rules {
	switch field {
	case 0:
		r.Stiff = x
	case 1:
		r.Loss = x
	case 2:
		r.Rub = x
	case 3:
		r.Grip = x
	}
	return r
}

func usualRules() impl.Rules {
	return impl.Rules{Stiff: 2, Loss: 0.25, Rub: 0.5, Grip: 1}
}

// invalidRules returns rules each of which has one number that is wrong.
func invalidRules() []impl.Rules {
	list := []impl.Rules{}
	for field := range 4 {
		for _, x := range append(notFinite(), -1, number(0x80000001), -math.MaxFloat32) {
			list = append(list, setRule(usualRules(), field, x))
		}
	}
	return list
}

// wrongTicks returns numbers that are no ticks.
func wrongTicks() []float32 {
	return append(notFinite(), -1, number(0x80000001), -math.MaxFloat32)
}

// wrongTouches returns touches that are none of a heap with count grains, 3 or more.
func wrongTouches(count int64) []impl.Touch {
	list := []impl.Touch{touch(0, 0, 0), touch(1, 0, 0), touch(1, 1, 1), touch(count-1, 0, 0), touch(-2, -1, 0), touch(count, count+1, 0)}
	for _, i := range wrongIndices(count) {
		list = append(list, touch(0, i, 0), touch(i, 1, 0), touch(i, i, 0))
	}
	for _, x := range notFinite() {
		list = append(list, touch(0, 1, x))
	}
	return list
}

// wrongLists returns lists that are no touches of a heap with count grains, 3
// to 24.
func wrongLists(count int64) [][]impl.Touch {
	lists := [][]impl.Touch{
		touches(0, 1, 0, 1), touches(0, 2, 0, 1), touches(1, 2, 0, 1), touches(0, 1, 1, 2, 0, 2), touches(1, 2, 0, 2),
		{touch(0, 1, 1), touch(0, 1, 2)}, {touch(0, 1, 1), touch(0, 1, 0)},
		repeated(touch(0, 1, 0), impl.MaxTouches+1), repeated(touch(0, 1, 0), 100000), repeated(impl.Touch{}, 3),
	}
	for _, t := range wrongTouches(count) {
		lists = append(lists, []impl.Touch{t}, []impl.Touch{touch(0, 1, 0), t}, []impl.Touch{t, touch(1, 2, 0)})
	}
	return lists
}

// someRules returns valid rules, often with a 0.
func someRules(source *rand.Rand) impl.Rules {
	r := impl.Rules{}
	for field, size := range []float64{30, 5, 1, 20} {
		if source.Intn(5) > 0 {
			r = setRule(r, field, float32(source.Float64()*size))
		}
	}
	return r
}

// someTouches returns the touches of a heap and some others, with any Slides.
func someTouches(source *rand.Rand, h impl.Heap) []impl.Touch {
	list := []impl.Touch{}
	for a := range h.Grains {
		for b := a + 1; b < len(h.Grains); b++ {
			if isNear := referenceGap(h.Grains[a], h.Grains[b]) <= 0; source.Intn(10) == 0 != isNear && len(list) < impl.MaxTouches {
				list = append(list, touch(int64(a), int64(b), someNumber(source, 0.5)))
			}
		}
	}
	return list
}

// heapsThatTouch returns heaps of all counts most of which have touches, with
// rules and lists of touches, always the same ones.
func heapsThatTouch() []situation {
	source := rand.New(rand.NewSource(9))
	list := []situation{}
	for count := range impl.MaxGrains + 1 {
		for _, size := range []float64{0.1, 0.7, 1.5, 3, 5, 8, 1e18, 1e38} {
			h := someHeap(source, count, size)
			list = append(list, situation{h, someRules(source), someTouches(source, h)})
		}
	}
	for rows := int64(1); rows <= 5; rows++ {
		h, _ := impl.PileOfGrains(rows, 0.75, 0.3)
		for i := range h.Grains {
			h.Grains[i].At += somePoint(source, 0.02)
			h.Grains[i].Held = i%7 == 0
		}
		list = append(list, situation{h, someRules(source), someTouches(source, h)})
	}
	return list
}

// situation is a heap with rules and touches.
type situation struct {
	heap  impl.Heap
	rules impl.Rules
	list  []impl.Touch
}
