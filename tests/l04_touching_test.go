package tests

import (
	"math"
	"testing"

	"loop.example/g01268/impl"
)

// lone returns a heap with one grain of the radius 1.
func lone(at complex64) impl.Heap {
	return heapWith(disc(at, 1))
}

func TestWallGap(t *testing.T) {
	w := moving(wall(0, 4), complex(7, 8))
	for _, c := range []struct {
		at   complex64
		want float32
	}{
		{complex(2, 3), 2}, {complex(2, -3), 2}, {complex(2, 1), 0}, {complex(2, -1), 0}, {complex(2, 0.5), -0.5}, {2, -1}, {0, -1}, {4, -1},
		// before the beginning and behind the end, the ends are nearest
		{complex(-3, 4), 4}, {complex(7, -4), 4}, {-1, 0}, {5, 0}, {-2, 1}, {4.5, -0.5}, {complex(-0.25, negativeZero()), -0.75},
	} {
		gives(t, "WallGap", c.want)(impl.WallGap(w, lone(c.at), 0))
		gives(t, "WallGap the other way", c.want)(impl.WallGap(wall(4, 0), lone(c.at), 0))
		gives(t, "WallGap of a grain that is held", c.want)(impl.WallGap(w, heapWith(disc(0, 9), held(disc(c.at, 1))), 1))
	}
	fails(t, "WallGap too far away")(impl.WallGap(w, lone(complex(3e38, 3e38)), 0))
	fails(t, "WallGap too far away")(impl.WallGap(wall(complex(-3e38, 1), complex(-3e38, 2)), lone(3e38), 0))
	gives(t, "WallGap far away", float32(3e38))(impl.WallGap(w, lone(complex(0, 3e38)), 0))
	gives(t, "WallGap of a wide grain", float32(-3e38))(impl.WallGap(w, heapWith(disc(complex(0, 1), 3e38)), 0))
}

func TestWallWay(t *testing.T) {
	w := moving(wall(0, 4), complex(7, 8))
	for _, c := range []struct{ at, want complex64 }{
		{complex(2, 3), complex(0, -1)}, {complex(2, -0.25), complex(0, 1)}, {-3, 1}, {8, complex(-1, 0)},
		{complex(-3, -4), complex(0.6, 0.8)}, {complex(7, 4), complex(-0.6, -0.8)}, {complex(0, 1e-30), complex(0, -1)}, {complex(4, -1e30), complex(0, 1)},
	} {
		gives(t, "WallWay", c.want)(impl.WallWay(w, lone(c.at), 0))
	}
	for _, at := range []complex64{0, 1, 4, 2.5, complex(1, negativeZero())} {
		fails(t, "WallWay from the wall")(impl.WallWay(w, lone(at), 0))
		fails(t, "WallSlide from the wall")(impl.WallSlide(w, lone(at), 0))
	}
	gives(t, "WallWay from very near", complex64(complex(0, -1)))(impl.WallWay(w, lone(complex(1, number(1))), 0))
	fails(t, "WallWay from too far away")(impl.WallWay(w, lone(complex(3e38, 3e38)), 0))
	gives(t, "WallWay from a zero with a sign", complex64(complex(0, -1)))(impl.WallWay(wall(-4, 4), lone(complex(negativeZero(), 3)), 0))
	gives(t, "WallWay from a wall with a zero with a sign", complex64(complex(negativeZero(), -1)))(
		impl.WallWay(wall(complex(negativeZero(), 0), 4), lone(complex(0, 3)), 0))
}

func TestWallSlide(t *testing.T) {
	w := moving(wall(-4, 4), complex(1, 2))
	g := impl.Grain{At: complex(0, 3), Speed: complex(-2, 7), Radius: 2, Mass: 5, Spin: 3, Turn: 9}
	// The wall comes by 5 along the way down, and goes 3 to the left of it.
	gives(t, "WallSlide from above", float32(5), float32(3-6))(impl.WallSlide(w, heapWith(g), 0))
	g.At = complex(0, -3)
	gives(t, "WallSlide from below", float32(-5), float32(-3-6))(impl.WallSlide(w, heapWith(g), 0))
	g.At = -9
	gives(t, "WallSlide from the left", float32(3), float32(-5-6))(impl.WallSlide(w, heapWith(held(g)), 0))
	g.At, g.Spin = 9, -3
	gives(t, "WallSlide from the right", float32(-3), float32(5+6))(impl.WallSlide(w, heapWith(disc(0, 1), g), 1))
	gives(t, "WallSlide at rest", float32(0), float32(0))(impl.WallSlide(wall(-4, 4), lone(complex(0, -3)), 0))
	fast := lone(complex(0, 3))
	fast.Grains[0].Speed = complex(0, -3e38)
	fails(t, "WallSlide too fast")(impl.WallSlide(moving(w, complex(0, 3e38)), fast, 0))
	fast.Grains[0].Speed = -3e38
	fails(t, "WallSlide too fast across")(impl.WallSlide(moving(w, 3e38), fast, 0))
	fast.Grains[0] = impl.Grain{At: complex(0, 3), Radius: 2, Mass: 1, Spin: 3e38}
	fails(t, "WallSlide that turns too fast")(impl.WallSlide(w, fast, 0))
	fast.Grains[0].Spin = -3e38
	fails(t, "WallSlide that turns too fast")(impl.WallSlide(w, fast, 0))
}

func TestWallPush(t *testing.T) {
	w := wall(-4, 4)
	for _, c := range []struct {
		y, speed, stiff, loss, want float32
	}{
		{0.5, 0, 4, 0, 2}, {0.5, 0, 4, 3, 2}, {0.5, -2, 4, 3, 8}, {0.5, -2, 4, 0, 2}, {0.5, -2, 0, 3, 6},
		{0.5, 0.5, 4, 3, 0.5}, {0.75, -1, 4, 1, 2}, {number(0x3f7fffff), 0, 1, 0, number(0x33800000)},
		// grains behind the wall go further behind it
		{-0.5, 0, 4, 3, -2}, {-0.5, 2, 4, 3, -8}, {-0.5, -0.5, 4, 3, -0.5},
		{-0.125, 0, 8, 0, -7}, {0.125, 0, 8, 0, 7},
	} {
		h := lone(complex(0, c.y))
		h.Grains[0].Speed = complex(9, c.speed)
		push, ok := impl.WallPush(w, h, 0, c.stiff, c.loss)
		check(t, "WallPush", []any{c, real(push) == 0, imag(push), ok}, []any{c, true, c.want, true})
	}
	// What goes away fast enough, or does not touch, has no push.
	for _, c := range []struct{ y, speed, stiff, loss float32 }{
		{0.5, 1, 4, 2}, {0.5, 3, 4, 2}, {0.5, 0, 0, 0}, {0.5, -1, 0, 0}, {0.5, 1, 0, 2}, {0.5, 0, 0, 2}, {0.5, -1, negativeZero(), negativeZero()},
		{-0.5, -1, 4, 2}, {-0.5, -3e38, 4, 2}, {0.5, 3e38, 4, 1e38},
		{1, -5, 4, 2}, {-1, 5, 4, 2}, {2, -5, 4, 2}, {-9, 5, 4, 2}, {number(0x3f800001), -5, 4, 2}, {1, -3e38, 3e38, 3e38},
	} {
		h := lone(complex(0, c.y))
		h.Grains[0].Speed = complex(9, c.speed)
		gives(t, "WallPush of nothing", complex64(0))(impl.WallPush(w, h, 0, c.stiff, c.loss))
	}
	gives(t, "WallPush the zeros", complex64(complex(negativeZero(), 2)))(impl.WallPush(wall(-4, 4), lone(complex(0, 0.5)), 0, 4, 0))
}

func TestWallPushAtTheEnds(t *testing.T) {
	w := wall(0, 4)
	for _, c := range []struct{ at, want complex64 }{
		{-0.5, complex(-4, 0)}, {4.5, 4}, {complex(-0.375, -0.5), complex(-1.8, -2.4)}, {complex(4.375, 0.5), complex(1.8, 2.4)},
		{complex(0, 0.5), complex(0, 4)}, {complex(4, -0.5), complex(0, -4)}, {-1, 0}, {5, 0}, {-1.5, 0}, {complex(5, 0.5), 0},
	} {
		push, ok := impl.WallPush(w, lone(c.at), 0, 8, 0)
		check(t, "WallPush", []any{c, isNearly(real(push), real(c.want), 1), isNearly(imag(push), imag(c.want), 1), ok}, []any{c, true, true, true})
	}
	// A grain at the wall, or on its end, has no way to it; one where the wall would go on has.
	for _, at := range []complex64{0, 1, 4} {
		fails(t, "WallPush on the wall")(impl.WallPush(w, lone(at), 0, 8, 0))
		fails(t, "WallPush on the wall without Stiff and Loss")(impl.WallPush(w, lone(at), 0, 0, 0))
	}
	gives(t, "WallPush where the wall would go on", complex64(0))(impl.WallPush(w, lone(7), 0, 8, 0))
}

func TestWallPushOfMovingWalls(t *testing.T) {
	h := lone(complex(0, 0.5))
	for _, c := range []struct{ speed, want float32 }{{1, 5}, {-0.5, 0.5}, {-1, 0}, {-9, 0}} {
		push, ok := impl.WallPush(moving(wall(-4, 4), complex(50, c.speed)), h, 0, 4, 3)
		check(t, "WallPush", []any{imag(push), ok}, []any{c.want, true})
	}
}

func TestWallPushIsFinite(t *testing.T) {
	w, wide := wall(-4, 4), heapWith(disc(complex(0, 1), 9))
	fails(t, "WallPush that is too large")(impl.WallPush(w, wide, 0, 1e38, 0))
	fails(t, "PushesOfWalls that are too large")(impl.PushesOfWalls([]impl.Wall{w}, wide, 1e38, 0))
	gives(t, "WallPush that is large", complex64(complex(negativeZero(), 8e37)))(impl.WallPush(w, wide, 0, 1e37, 0))
	wide.Grains[0].Speed = complex(0, -9)
	fails(t, "WallPush with a loss that is too large")(impl.WallPush(w, wide, 0, 1, 1e38))
	// Products that are not finite, and whose difference is not greater than 0.
	wide.Grains[0].Speed = complex(0, 9)
	gives(t, "WallPush that is no number", complex64(0))(impl.WallPush(w, wide, 0, 1e38, 1e38))
	gives(t, "WallPush that is too small", complex64(0))(impl.WallPush(w, wide, 0, 1, 1e38))
	fast := impl.Grain{At: complex(0, 0.5), Speed: complex(0, 3e38), Radius: 1, Mass: 1}
	down := moving(w, complex(0, -3e38))
	fails(t, "WallPush too fast")(impl.WallPush(down, heapWith(fast), 0, 0, 0))
	fails(t, "WallPush of what turns too fast")(impl.WallPush(w, heapWith(impl.Grain{At: complex(0, 1), Radius: 2, Mass: 1, Spin: 3e38}), 0, 1, 0))
	fast.At = complex(0, 1)
	gives(t, "WallPush too fast without a touch", complex64(0))(impl.WallPush(down, heapWith(fast), 0, 1, 1))
	fails(t, "WallPush too far away")(impl.WallPush(w, lone(complex(3e38, 3e38)), 0, 0, 0))
	tiny := heapWith(disc(complex(0, number(1)), 1))
	gives(t, "WallPush from very near", complex64(complex(negativeZero(), 1)))(impl.WallPush(w, tiny, 0, 1, 1))
}

func TestPushesOfWalls(t *testing.T) {
	corner := []impl.Wall{wall(0, 4), wall(complex(0, 4), 0), wall(complex(9, 9), complex(9, 8))}
	h := heapWith(disc(complex(0.5, 0.75), 1), held(disc(complex(3, 0.5), 1)), disc(complex(3, 3), 1))
	want := []complex64{complex(4, 2), complex(0, 4), 0}
	gives(t, "PushesOfWalls", want)(impl.PushesOfWalls(corner, h, 8, 0))
	for _, list := range [][]impl.Wall{nil, {}} {
		gives(t, "PushesOfWalls without walls", make([]complex64, 3))(impl.PushesOfWalls(list, h, 8, 0))
		gives(t, "PushesOfWalls without walls and grains", []complex64{})(impl.PushesOfWalls(list, impl.Heap{}, 8, 0))
	}
	gives(t, "PushesOfWalls without grains", []complex64{})(impl.PushesOfWalls(corner, impl.Heap{}, 8, 0))
	gives(t, "PushesOfWalls without Stiff and Loss", make([]complex64, 3))(impl.PushesOfWalls(corner, h, 0, 0))
	fails(t, "PushesOfWalls on a wall")(impl.PushesOfWalls(corner, heapWith(disc(complex(3, 3), 1), held(disc(2, 1))), 0, 0))
	fails(t, "PushesOfWalls too far away")(impl.PushesOfWalls(corner, heapWith(disc(complex(3, 3), 1), disc(complex(3e38, 3e38), 1)), 0, 0))
	// Sums that are too large; two walls that push against one another are nothing.
	wide := heapWith(disc(complex(0, 0.5), 1))
	low, high := wall(-4, 4), wall(complex(-4, 1), complex(4, 1))
	gives(t, "PushesOfWalls of one", []complex64{complex(0, 1.5e38)})(impl.PushesOfWalls([]impl.Wall{low}, wide, 3e38, 0))
	gives(t, "PushesOfWalls of two", []complex64{complex(0, 3e38)})(impl.PushesOfWalls([]impl.Wall{low, low}, wide, 3e38, 0))
	gives(t, "PushesOfWalls against one another", []complex64{0})(impl.PushesOfWalls([]impl.Wall{low, high}, wide, 3e38, 0))
	fails(t, "PushesOfWalls of three")(impl.PushesOfWalls([]impl.Wall{low, low, low}, wide, 3e38, 0))
	fails(t, "PushesOfWalls of three, and back")(impl.PushesOfWalls([]impl.Wall{low, low, low, high}, wide, 3e38, 0))
	gives(t, "PushesOfWalls of three in another order", []complex64{complex(0, 3e38)})(impl.PushesOfWalls([]impl.Wall{low, low, high, low}, wide, 3e38, 0))
}

func TestWallTouches(t *testing.T) {
	list := []impl.Wall{wall(0, 4), wall(complex(0, 4), 0)}
	h := heapWith(disc(complex(3, 3), 1), held(disc(complex(3, 1), 1)), disc(1, 1), disc(complex(1.5, -9), 1))
	for _, c := range []struct {
		near float32
		want [][]int64
	}{
		{-1, [][]int64{{0, 2}}}, {number(0xbf800001), [][]int64{}}, {-3e38, [][]int64{}}, {number(0xb3000000), [][]int64{{0, 2}}},
		{0, [][]int64{{0, 1}, {0, 2}, {1, 2}}}, {negativeZero(), [][]int64{{0, 1}, {0, 2}, {1, 2}}},
		{2, [][]int64{{0, 0}, {0, 1}, {0, 2}, {1, 0}, {1, 1}, {1, 2}}}, {number(0x3fffffff), [][]int64{{0, 1}, {0, 2}, {1, 2}}},
		{3e38, [][]int64{{0, 0}, {0, 1}, {0, 2}, {0, 3}, {1, 0}, {1, 1}, {1, 2}, {1, 3}}},
	} {
		gives(t, "WallTouches", c.want)(impl.WallTouches(list, h, c.near))
	}
	for _, near := range []float32{-1, 0, 3e38} {
		gives(t, "WallTouches without walls", [][]int64{})(impl.WallTouches(nil, h, near))
		gives(t, "WallTouches without grains", [][]int64{})(impl.WallTouches(list, impl.Heap{}, near))
		far := heapWith(disc(complex(3, 3), 1), disc(complex(3e38, 3e38), 1))
		fails(t, "WallTouches too far away")(impl.WallTouches(list, far, near))
	}
	for _, x := range notFinite() {
		fails(t, "WallTouches that are not near")(impl.WallTouches(list, h, x))
		fails(t, "WallTouches of nothing that are not near")(impl.WallTouches(nil, impl.Heap{}, x))
	}
	full := repeated(wall(0, 4), impl.MaxWalls)
	all, ok := impl.WallTouches(full, fullHeap(impl.MaxGrains), 1000)
	check(t, "WallTouches of all", []any{len(all), ok, all[0], all[287]}, "[288 true [0 0] [11 23]]")
}

func TestTouchingOfManyWalls(t *testing.T) {
	failed, pushed, touched := 0, 0, 0
	for _, s := range someScenes() {
		for _, w := range s.walls {
			for i, g := range s.heap.Grains {
				n := int64(i)
				gap := referenceWallGap(w, g)
				expectFinite(t, "WallGap", isFinite(gap), gap)(impl.WallGap(w, s.heap, n))
				way := referenceWallWay(w, g)
				expectFinite(t, "WallWay", isFiniteComplex(way), way)(impl.WallWay(w, s.heap, n))
				if away, across := referenceWallSlide(w, g); isFinite(away, across) {
					gives(t, "WallSlide", away, across)(impl.WallSlide(w, s.heap, n))
				} else {
					fails(t, "WallSlide")(impl.WallSlide(w, s.heap, n))
				}
				push, ok := referenceWallPush(w, g, s.stiff, s.loss)
				expectFinite(t, "WallPush", ok, push)(impl.WallPush(w, s.heap, n, s.stiff, s.loss))
			}
		}
		pushes, ok := referenceWallPushes(s)
		expectFinite(t, "PushesOfWalls", ok, pushes)(impl.PushesOfWalls(s.walls, s.heap, s.stiff, s.loss))
		for _, push := range pushes {
			if push != 0 {
				pushed++
			}
		}
		if !ok {
			failed++
		}
		for _, near := range []float32{-0.1, 0, 0.7, 3} {
			pairs, ok := referenceWallTouches(s, near)
			expectFinite(t, "WallTouches", ok, pairs)(impl.WallTouches(s.walls, s.heap, near))
			touched += len(pairs)
		}
	}
	check(t, "walls push and touch", []bool{pushed > 300, touched > 1000, failed < 20}, "[true true true]")
}

// failsToTouch checks functions with one wall and a grain.
func failsToTouch(t *testing.T, w impl.Wall, h impl.Heap, i int64) {
	t.Helper()
	fails(t, "WallGap")(impl.WallGap(w, h, i))
	fails(t, "WallWay")(impl.WallWay(w, h, i))
	fails(t, "WallSlide")(impl.WallSlide(w, h, i))
	fails(t, "WallPush")(impl.WallPush(w, h, i, 1, 1))
}

// failsAmong checks functions with lists of walls and a heap.
func failsAmong(t *testing.T, list []impl.Wall, h impl.Heap) {
	t.Helper()
	fails(t, "PushesOfWalls")(impl.PushesOfWalls(list, h, 1, 1))
	fails(t, "WallTouches")(impl.WallTouches(list, h, 1))
	fails(t, "FallOnWalls without steps")(impl.FallOnWalls(h, list, 0, 1, 1, 1, 0))
	fails(t, "FallOnWalls")(impl.FallOnWalls(h, list, 0, 1, 1, 1, 1))
}

func TestTouchingFails(t *testing.T) {
	w, h := wall(complex(0, 9), complex(4, 9)), heapWith(disc(0, 1), disc(1, 1), disc(2, 1))
	for _, bad := range invalidWalls() {
		failsToTouch(t, bad, h, 0)
	}
	for _, list := range wrongWalls() {
		failsAmong(t, list, h)
		failsAmong(t, list, impl.Heap{})
	}
	for _, bad := range invalidHeaps() {
		failsToTouch(t, w, bad, 0)
		failsAmong(t, []impl.Wall{w}, bad)
		failsAmong(t, nil, bad)
	}
	for _, i := range wrongIndices(3) {
		failsToTouch(t, w, h, i)
	}
	failsToTouch(t, w, impl.Heap{}, 0)
	for _, x := range wrongStiffs() {
		for i := range int64(3) {
			fails(t, "WallPush with a wrong stiff")(impl.WallPush(w, h, i, x, 1))
			fails(t, "WallPush with a wrong loss")(impl.WallPush(w, h, i, 1, x))
		}
		for _, list := range [][]impl.Wall{nil, {w}} {
			for _, grains := range []impl.Heap{{}, h} {
				fails(t, "PushesOfWalls with a wrong stiff")(impl.PushesOfWalls(list, grains, x, 1))
				fails(t, "PushesOfWalls with a wrong loss")(impl.PushesOfWalls(list, grains, 1, x))
			}
		}
	}
	for _, most := range []float32{0, math.MaxFloat32, negativeZero()} {
		gives(t, "PushesOfWalls of nothing near", make([]complex64, 3))(impl.PushesOfWalls([]impl.Wall{w}, h, most, most))
	}
}
