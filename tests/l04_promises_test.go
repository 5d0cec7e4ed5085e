package tests

import (
	"math"
	"math/rand"
	"testing"

	"loop.example/g01268/impl"
)

// wallsTold tells what functions with walls and numbers return.
func wallsTold(list []impl.Wall, w impl.Wall, n int64, x, y, z float32) string {
	text := told(impl.ValidWall(w), impl.AreWalls(list), impl.SameWalls(list, list), impl.SameWalls(list, nil), impl.SameWalls(nil, list))
	tell := func(results ...any) {
		text += told(results...) + "\n"
	}
	a, b := complex(x, y), complex(z, x)
	tell(impl.BoxOfWalls(a, b))
	tell(impl.HopperWalls(x, y, z))
	tell(impl.DrumWalls(n, a, z))
	tell(impl.MoveWalls(list, a))
	tell(impl.TurnWalls(list, a, y, z))
	tell(impl.ShakeWalls(list, a, y, z))
	tell(impl.StepWalls(list, x))
	tell(impl.NearestOn(w, a))
	tell(impl.SideOf(w, b))
	tell(impl.CrossesWall(w, a, b))
	return text
}

// amongTold tells what functions with walls and a heap return.
func amongTold(list []impl.Wall, w impl.Wall, h impl.Heap, i int64, x, y, z float32) string {
	text := ""
	tell := func(results ...any) {
		text += told(results...) + "\n"
	}
	tell(impl.WallGap(w, h, i))
	tell(impl.WallWay(w, h, i))
	tell(impl.WallSlide(w, h, i))
	tell(impl.WallPush(w, h, i, x, y))
	tell(impl.PushesOfWalls(list, h, x, y))
	tell(impl.WallTouches(list, h, z))
	tell(impl.FallOnWalls(h, list, complex(x, z), x, y, z, i))
	tell(impl.GrainsBeyond(h, w))
	tell(impl.DropBeyond(h, w))
	tell(impl.LowestFree(h))
	return text
}

func TestWallsReturnForAllArguments(t *testing.T) {
	source := rand.New(rand.NewSource(26))
	numbers := oddNumbers()
	indices := []int64{-1, 0, 1, 2, 3, 12, 13, 23, 24, 64, 65, math.MinInt64, math.MaxInt64}
	walls := append(append(invalidWalls(), edgeWalls()...), someWalls(source, 40, 3)...)
	lists := append(wrongWalls(), nil, []impl.Wall{wall(0, 1)}, repeated(wall(0, 4), impl.MaxWalls))
	for n, h := range oddHeaps() {
		for k := range 4 {
			x, y, z := numbers[source.Intn(len(numbers))], numbers[source.Intn(len(numbers))], numbers[source.Intn(len(numbers))]
			w, list, i := walls[source.Intn(len(walls))], lists[source.Intn(len(lists))], indices[source.Intn(len(indices))]
			if k%2 == 0 {
				list = someWalls(source, n%(impl.MaxWalls+2), 2)
			}
			check(t, "walls, again", wallsTold(list, w, i, x, y, z), wallsTold(list, w, i, x, y, z))
			check(t, "walls and a heap, again", amongTold(list, w, h, i, x, y, z), amongTold(list, w, h, i, x, y, z))
		}
	}
}

func TestWallsAndHeapsAreNotModified(t *testing.T) {
	source := rand.New(rand.NewSource(27))
	for count := range impl.MaxGrains + 2 {
		list, allWalls := withRoom(someWalls(source, count%(impl.MaxWalls+2), 4), moving(wall(99, 98), 97))
		grains, allGrains := withRoom(someHeap(source, count, 2).Grains, held(disc(99, 99)))
		h, w := impl.Heap{Grains: grains}, someWall(source, 2)
		before := told(impl.Heap{Grains: allGrains}, allWalls)
		for _, i := range []int64{0, 1, 3, 12, 64} {
			check(t, "walls, again", wallsTold(list, w, i, 0.5, 2, 3), wallsTold(list, w, i, 0.5, 2, 3))
			check(t, "walls and a heap, again", amongTold(list, w, h, i, 0.5, 2, 0.25), amongTold(list, w, h, i, 0.5, 2, 0.25))
			check(t, "the grains and the walls", told(impl.Heap{Grains: allGrains}, allWalls), before)
		}
	}
}

func TestNilIsNoWalls(t *testing.T) {
	h := fullHeap(3)
	for _, i := range []int64{0, 3, 64} {
		check(t, "no walls", wallsTold(nil, wall(0, 1), i, 1, 2, 3), wallsTold([]impl.Wall{}, wall(0, 1), i, 1, 2, 3))
		check(t, "no walls", amongTold(nil, wall(0, 1), h, i, 1, 2, 3), amongTold([]impl.Wall{}, wall(0, 1), h, i, 1, 2, 3))
		empty := impl.Heap{Grains: []impl.Grain{}}
		check(t, "no grains", amongTold(nil, wall(0, 1), empty, i, 1, 2, 3), amongTold(nil, wall(0, 1), impl.Heap{}, i, 1, 2, 3))
	}
}

func TestWallsThatAreMadeAreNew(t *testing.T) {
	list, all := withRoom([]impl.Wall{wall(1, 2), moving(wall(3, 5), 0)}, wall(9, 8))
	before := told(all)
	for _, make := range []func() ([]impl.Wall, bool){
		func() ([]impl.Wall, bool) { return impl.MoveWalls(list, 0) },
		func() ([]impl.Wall, bool) { return impl.TurnWalls(list, 0, 0, 0) },
		func() ([]impl.Wall, bool) { return impl.ShakeWalls(list, 0, 0, 0) },
		func() ([]impl.Wall, bool) { return impl.StepWalls(list, 0) },
		func() ([]impl.Wall, bool) { return impl.BoxOfWalls(0, complex(1, 1)) },
		func() ([]impl.Wall, bool) { return impl.HopperWalls(2, 1, 1) },
		func() ([]impl.Wall, bool) { return impl.DrumWalls(3, 0, 1) },
	} {
		made, ok := make()
		again, _ := make()
		want := told(again)
		spoil(made, impl.Wall{})
		check(t, "walls that are made again", told(again, ok), want+" true")
		check(t, "the walls", told(all), before)
	}
}

func TestResultsAmongWallsAreNew(t *testing.T) {
	grains, allGrains := withRoom([]impl.Grain{disc(complex(0, 1), 1), disc(complex(0, 2), 1)}, disc(9, 9))
	h, list := impl.Heap{Grains: grains}, []impl.Wall{wall(-4, 4)}
	before := told(impl.Heap{Grains: allGrains}, list)
	for _, make := range []func() impl.Heap{
		func() impl.Heap { return heap(t, "FallOnWalls")(impl.FallOnWalls(h, list, 0, 1, 1, 0, 0)) },
		func() impl.Heap { return heap(t, "FallOnWalls")(impl.FallOnWalls(h, list, 0, 1, 1, 0, 2)) },
		func() impl.Heap {
			left, _, ok := impl.DropBeyond(h, list[0])
			return heap(t, "DropBeyond")(left, ok)
		},
	} {
		made, again := make(), make()
		want := told(again)
		spoil(made.Grains, impl.Grain{})
		check(t, "heaps that are made again", told(again), want)
		check(t, "the grains and the walls", told(impl.Heap{Grains: allGrains}, list), before)
	}
	pushes, _ := impl.PushesOfWalls(list, h, 1, 1)
	beyond, _ := impl.GrainsBeyond(h, wall(4, -4))
	pairs, _ := impl.WallTouches(list, h, 2)
	for i := range pairs {
		spoil(pairs[i], 77)
		check(t, "the pairs behind", pairs[i+1:], [][]int64{{0, 0}, {0, 1}}[i+1:])
	}
	spoil(pushes, 77)
	spoil(beyond, 77)
	check(t, "the grains and the walls", told(impl.Heap{Grains: allGrains}, list), before)
	pushesAgain, _ := impl.PushesOfWalls(list, h, 1, 1)
	beyondAgain, _ := impl.GrainsBeyond(h, wall(4, -4))
	pairsAgain, _ := impl.WallTouches(list, h, 2)
	check(t, "results, again", told(pushesAgain, beyondAgain, pairsAgain), told(make([]complex64, 2), []int64{0, 1}, [][]int64{{0, 0}, {0, 1}}))
}

func TestWallsNeverPull(t *testing.T) {
	pushes := 0
	for _, s := range someScenes() {
		for _, w := range s.walls {
			for i := range s.heap.Grains {
				n := int64(i)
				push, pushOk := impl.WallPush(w, s.heap, n, s.stiff, s.loss)
				gap, gapOk := impl.WallGap(w, s.heap, n)
				if gapOk && gap >= 0 {
					check(t, "what does not touch is not pushed", told(push, pushOk), told(complex64(0), true))
				}
				if push == 0 {
					continue
				}
				pushes++
				way, wayOk := impl.WallWay(w, s.heap, n)
				along := real(push)*real(way) + imag(push)*imag(way)
				check(t, "a push goes away from the wall", []bool{wayOk, along < 0, isNearly(-along, long32(push), long32(push))}, "[true true true]")
			}
		}
	}
	check(t, "many walls push", pushes > 500, true)
}

func TestWallsPushNothingThatDoesNotTouch(t *testing.T) {
	for _, s := range someScenes() {
		pairs, pairsOk := impl.WallTouches(s.walls, s.heap, 0)
		pushes, ok := impl.PushesOfWalls(s.walls, s.heap, s.stiff, s.loss)
		touches := make([]bool, len(s.heap.Grains))
		for _, p := range pairs {
			touches[p[1]] = true
		}
		for i, push := range pushes {
			check(t, "only what touches is pushed", push == 0 || touches[i], true)
		}
		check(t, "what has pushes has touches", !ok || pairsOk, true)
	}
}

func TestWhatIsBeyondIsDropped(t *testing.T) {
	for _, s := range someScenes() {
		for _, w := range s.walls {
			left, dropped, ok := impl.DropBeyond(s.heap, w)
			if !ok {
				continue
			}
			check(t, "the grains that are left and dropped", int64(len(left.Grains))+dropped, len(s.heap.Grains))
			gives(t, "GrainsBeyond what is left", []int64{})(impl.GrainsBeyond(left, w))
			gives(t, "DropBeyond, again", left, int64(0))(impl.DropBeyond(left, w))
			for _, g := range left.Grains {
				side, ok := impl.SideOf(w, g.At)
				check(t, "what is left is not beyond", []bool{ok, side >= 0}, "[true true]")
			}
		}
	}
}

func TestTheNearestPointIsNearest(t *testing.T) {
	source := rand.New(rand.NewSource(28))
	for range 500 {
		w, at := someWall(source, 4), somePoint(source, 6)
		nearest, ok := impl.NearestOn(w, at)
		check(t, "NearestOn succeeds", ok, true)
		for n := range 17 {
			point := w.From + impl.ScaleComplex(w.To-w.From, float32(n)/16)
			check(t, "no other point is nearer", long32(nearest-at) <= long32(point-at)+1e-5, true)
		}
	}
}
