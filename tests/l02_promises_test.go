package tests

import (
	"math"
	"math/rand"
	"testing"

	"loop.example/g01268/impl"
)

// heapsOf tells all heaps that functions make of a heap and these arguments.
func heapsOf(h impl.Heap, g impl.Grain, i int64, order []int64, x, y float32) string {
	text := told(impl.ValidGrain(g), impl.ValidHeap(h), impl.SameHeap(h, h), impl.SameHeap(h, heapWith(g)))
	tell := func(made impl.Heap, ok bool) {
		text += told(made, ok) + "\n"
	}
	z := complex(x, y)
	tell(impl.AddGrain(h, g))
	tell(impl.SetGrain(h, i, g))
	tell(impl.DropGrain(h, i))
	tell(impl.OrderGrains(h, order))
	tell(impl.RowOfGrains(i, x, y, g.Mass))
	tell(impl.PileOfGrains(i, x, y))
	tell(impl.MoveHeap(h, z))
	tell(impl.MirrorHeap(h))
	tell(impl.PushHeap(h, z))
	tell(impl.HoldGrain(h, i, x < y))
	tell(impl.FlyHeap(h, z, y))
	return text
}

// viewsOf tells what functions tell of a heap.
func viewsOf(h impl.Heap, i, k int64, x, y float32) string {
	text := ""
	tell := func(results ...any) {
		text += told(results...) + "\n"
	}
	tell(impl.GapOf(h, i, k))
	tell(impl.WayOf(h, i, k))
	tell(impl.SlideOf(h, i, k))
	tell(impl.PairsNear(h, x))
	tell(impl.PairsByCells(h, x, y))
	tell(impl.MassOfHeap(h))
	tell(impl.MomentumOf(h))
	tell(impl.CentreOfHeap(h))
	tell(impl.EnergyOfHeap(h, complex(x, y)))
	tell(impl.TurningOf(h))
	tell(impl.BoxOfHeap(h))
	return text
}

// oddHeaps returns heaps with any numbers, and heaps with too many grains.
func oddHeaps() []impl.Heap {
	heaps := append(someHeaps(), invalidHeaps()...)
	list := oddNumbers()
	for n := range list {
		at := func(k int) float32 { return list[(n*k+k)%len(list)] }
		g := impl.Grain{At: complex(at(1), at(2)), Speed: complex(at(3), at(5)), Radius: at(7), Mass: at(11), Turn: at(13), Spin: at(17)}
		heaps = append(heaps, heapWith(g), heapWith(disc(1, 1), g), heapWith(g, held(g), g))
		wide := setField(setField(g, 4, float32(math.Abs(float64(at(7))))), 5, float32(math.Abs(float64(at(11)))))
		heaps = append(heaps, heapWith(wide, held(disc(0, 1)), wide))
	}
	return heaps
}

func TestHeapsReturnForAllArguments(t *testing.T) {
	source := rand.New(rand.NewSource(5))
	numbers := oddNumbers()
	indices := []int64{-1, 0, 1, 2, 6, 23, 24, 25, math.MinInt64, math.MaxInt64}
	for _, h := range oddHeaps() {
		for range 8 {
			i, k := indices[source.Intn(len(indices))], indices[source.Intn(len(indices))]
			x, y := numbers[source.Intn(len(numbers))], numbers[source.Intn(len(numbers))]
			g := setField(someGrain(source, 1), source.Intn(8), x)
			order := []int64{i, k, i - k}[:source.Intn(4)]
			check(t, "heaps, again", heapsOf(h, g, i, order, x, y), heapsOf(h, g, i, order, x, y))
			check(t, "views, again", viewsOf(h, i, k, x, y), viewsOf(h, i, k, x, y))
		}
	}
}

func TestHeapsAreNotModified(t *testing.T) {
	behind := impl.Grain{At: complex(9, 9), Radius: 99, Mass: 99, Held: true}
	for count := range impl.MaxGrains + 2 {
		short, whole := withRoom(fullHeap(count).Grains, behind)
		before := told(impl.Heap{Grains: whole})
		h, order := impl.Heap{Grains: short}, make([]int64, 0, 40)
		for i := range count {
			order = append(order, int64(count-1-i))
		}
		longOrder := order[:cap(order)]
		orderBefore := told(longOrder)
		for _, i := range []int64{-1, 0, int64(count) / 2, int64(count) - 1, int64(count)} {
			check(t, "heaps, again", heapsOf(h, behind, i, order, 0.5, 3), heapsOf(h, behind, i, order, 0.5, 3))
			check(t, "views, again", viewsOf(h, i, 0, 0.5, 300), viewsOf(h, i, 0, 0.5, 300))
		}
		check(t, "the grains behind", told(impl.Heap{Grains: whole}), before)
		check(t, "the order behind", told(longOrder), orderBefore)
	}
}

// madeHeaps returns what functions make of a heap with three grains where
// nothing, or little, changes.
func madeHeaps(t *testing.T, h impl.Heap) []impl.Heap {
	t.Helper()
	return []impl.Heap{
		heap(t, "AddGrain")(impl.AddGrain(h, disc(1, 1))),
		heap(t, "SetGrain")(impl.SetGrain(h, 1, h.Grains[1])),
		heap(t, "DropGrain")(impl.DropGrain(h, 0)),
		heap(t, "DropGrain")(impl.DropGrain(h, 2)),
		heap(t, "OrderGrains")(impl.OrderGrains(h, []int64{0, 1, 2})),
		heap(t, "MoveHeap")(impl.MoveHeap(h, 0)),
		heap(t, "MirrorHeap")(impl.MirrorHeap(h)),
		heap(t, "PushHeap")(impl.PushHeap(h, 0)),
		heap(t, "HoldGrain")(impl.HoldGrain(h, 0, h.Grains[0].Held)),
		heap(t, "FlyHeap")(impl.FlyHeap(h, 0, 0)),
	}
}

func TestHeapsThatAreMadeAreNew(t *testing.T) {
	short, whole := withRoom(fullHeap(3).Grains, disc(9, 9))
	h := impl.Heap{Grains: short}
	before := told(impl.Heap{Grains: whole})
	made, again := madeHeaps(t, h), madeHeaps(t, h)
	for n := range made {
		want := told(again[n])
		for i := range made[n].Grains {
			made[n].Grains[i] = impl.Grain{}
		}
		_ = append(made[n].Grains, impl.Grain{})
		check(t, "a heap that is made again", told(again[n]), want)
		check(t, "the heap", told(impl.Heap{Grains: whole}), before)
	}
	row, other := heap(t, "RowOfGrains")(impl.RowOfGrains(2, 1, 1, 1)), heap(t, "RowOfGrains")(impl.RowOfGrains(2, 1, 1, 1))
	row.Grains[1].Mass = 7
	checkNumber(t, "the other row", other.Grains[1].Mass, 1)
	pile, another := heap(t, "PileOfGrains")(impl.PileOfGrains(2, 1, 1)), heap(t, "PileOfGrains")(impl.PileOfGrains(2, 1, 1))
	pile.Grains[1].Mass = 7
	checkNumber(t, "the other pile", another.Grains[1].Mass, 1)
}

func TestPairsAreNew(t *testing.T) {
	row := heap(t, "RowOfGrains")(impl.RowOfGrains(4, 1, 0, 1))
	for _, find := range []func() ([][]int64, bool){
		func() ([][]int64, bool) { return impl.PairsNear(row, 0) },
		func() ([][]int64, bool) { return impl.PairsByCells(row, 0, 2) },
	} {
		pairs, _ := find()
		other, _ := find()
		for i := range pairs {
			_ = append(pairs[i], 77, 77)
		}
		check(t, "the pairs", pairs, "[[0 1] [1 2] [2 3]]")
		pairs[0][0], pairs[0][1] = 8, 9
		pairs[1] = nil
		check(t, "the pairs", pairs, "[[8 9] [] [2 3]]")
		check(t, "the pairs again", other, "[[0 1] [1 2] [2 3]]")
	}
}

func isNearly(a, b, size float32) bool {
	return math.Abs(float64(a)-float64(b)) <= 1e-5*float64(size)
}

func TestPairsAreTheSameFromBothSides(t *testing.T) {
	source := rand.New(rand.NewSource(6))
	for range 500 {
		h := someHeap(source, 2, 5)
		gap, ok := impl.GapOf(h, 0, 1)
		back, again := impl.GapOf(h, 1, 0)
		check(t, "gaps succeed", []bool{ok, again}, "[true true]")
		check(t, "the gap from both sides", isNearly(gap, back, 20), true)
		way, ok := impl.WayOf(h, 0, 1)
		home, again := impl.WayOf(h, 1, 0)
		check(t, "ways succeed", []bool{ok, again}, "[true true]")
		check(t, "the length of a way", isNearly(long32(way), 1, 1), true)
		check(t, "the ways go there and back", isNearly(long32(way+home), 0, 1), true)
		along, across, ok := impl.SlideOf(h, 0, 1)
		alongBack, acrossBack, again := impl.SlideOf(h, 1, 0)
		check(t, "slides succeed", []bool{ok, again}, "[true true]")
		check(t, "what goes away from both sides", isNearly(along, alongBack, 20), true)
		check(t, "what slides from both sides", isNearly(across, acrossBack, 20), true)
	}
}

func TestGrainsThatRollDoNotSlide(t *testing.T) {
	source := rand.New(rand.NewSource(7))
	for range 200 {
		h := someHeap(source, 2, 5)
		a, b := &h.Grains[0], &h.Grains[1]
		a.Speed, b.Speed = 0, 0
		b.Spin = -a.Spin * a.Radius / b.Radius
		along, across, ok := impl.SlideOf(h, 0, 1)
		check(t, "SlideOf succeeds", ok, true)
		check(t, "grains that roll stay and do not slide", isNearly(along, 0, 1) && isNearly(across, 0, 10), true)
	}
}

func TestCellsFindTheSamePairs(t *testing.T) {
	source := rand.New(rand.NewSource(8))
	for n := range 1000 {
		h := someHeap(source, n%(impl.MaxGrains+1), []float64{0.5, 3, 10, 100}[n%4])
		near := float32(source.Float64() * 4)
		side := near
		for _, g := range h.Grains {
			side = max(side, near+2*g.Radius)
		}
		side += number(1) + float32(n%3)*side
		want, ok := impl.PairsNear(h, near)
		check(t, "PairsNear succeeds", ok, true)
		gives(t, "PairsByCells", want)(impl.PairsByCells(h, near, side))
	}
}
