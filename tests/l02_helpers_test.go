package tests

import (
	"math"
	"reflect"
	"testing"

	"loop.example/g01268/impl"
)

// fails checks the results of a function that fails: false at the end, and
// zero values before.
func fails(t *testing.T, what string) func(results ...any) {
	t.Helper()
	return func(results ...any) {
		t.Helper()
		last := len(results) - 1
		check(t, what+" succeeds", results[last], false)
		for _, r := range results[:last] {
			check(t, what+" fails with", told(r), told(reflect.Zero(reflect.TypeOf(r)).Interface()))
		}
	}
}

// gives checks the results of a function that succeeds.
func gives(t *testing.T, what string, wants ...any) func(results ...any) {
	t.Helper()
	return func(results ...any) {
		t.Helper()
		check(t, what, told(results...), told(append(wants, true)...))
	}
}

// heap checks that a function succeeds, and returns its heap.
func heap(t *testing.T, what string) func(h impl.Heap, ok bool) impl.Heap {
	t.Helper()
	return func(h impl.Heap, ok bool) impl.Heap {
		t.Helper()
		check(t, what+" succeeds", ok, true)
		return h
	}
}

func heapWith(grains ...impl.Grain) impl.Heap {
	return impl.Heap{Grains: grains}
}

// disc returns a grain with the mass 1 that is at rest.
func disc(at complex64, radius float32) impl.Grain {
	return impl.Grain{At: at, Radius: radius, Mass: 1}
}

func held(g impl.Grain) impl.Grain {
	g.Held = true
	return g
}

// fullHeap returns a heap with count grains, all different.
func fullHeap(count int) impl.Heap {
	grains := make([]impl.Grain, count)
	for i := range grains {
		grains[i] = impl.Grain{
			At: complex(float32(i), float32(-i)), Speed: complex(float32(2*i), 1),
			Radius: 0.5, Mass: float32(i + 1), Turn: 0.25, Spin: float32(-i), Held: i%3 == 0,
		}
	}
	return impl.Heap{Grains: grains}
}

// setField returns a grain with another number in one of its eight fields.
func setField(g impl.Grain, field int, x float32) impl.Grain {
	switch field {
	case 0:
		g.At = complex(x, imag(g.At))
	case 1:
		g.At = complex(real(g.At), x)
	case 2:
		g.Speed = complex(x, imag(g.Speed))
	case 3:
		g.Speed = complex(real(g.Speed), x)
	case 4:
		g.Radius = x
	case 5:
		g.Mass = x
	case 6:
		g.Turn = x
	case 7:
		g.Spin = x
	}
	return g
}

// invalidGrains returns grains each of which has one number that is wrong.
func invalidGrains() []impl.Grain {
	good := disc(complex(1, 2), 3)
	list := []impl.Grain{{}}
	for field := range 8 {
		for _, x := range []float32{nan(), number(0xff800001), inf(1), inf(-1)} {
			list = append(list, setField(good, field, x))
		}
	}
	for _, x := range []float32{0, negativeZero(), -1, number(0x80000001), -math.MaxFloat32} {
		list = append(list, setField(good, 4, x), setField(good, 5, x))
	}
	return list
}

// invalidHeaps returns heaps with a wrong grain, or too many grains.
func invalidHeaps() []impl.Heap {
	list := []impl.Heap{fullHeap(impl.MaxGrains + 1), fullHeap(1000)}
	for _, g := range invalidGrains() {
		list = append(list, heapWith(g), heapWith(disc(0, 1), disc(5, 1), g))
	}
	return list
}

// wrongIndices returns numbers that are no indices of a heap with count grains.
func wrongIndices(count int64) []int64 {
	return []int64{-1, count, count + 1, -count - 1, impl.MaxGrains, 1 << 32, math.MinInt64, math.MaxInt64}
}

func notFinite() []float32 {
	return []float32{nan(), inf(1), inf(-1)}
}
