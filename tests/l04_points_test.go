package tests

import (
	"math/rand"
	"testing"

	"loop.example/g01268/impl"
)

func TestNearestOn(t *testing.T) {
	w := wall(complex(1, 2), complex(5, 2))
	for _, c := range []struct{ at, want complex64 }{
		{complex(2, 9), complex(2, 2)}, {complex(4.5, -9), complex(4.5, 2)}, {complex(3, 2), complex(3, 2)},
		// before the beginning, behind the end, and just at both
		{complex(0, 2), w.From}, {complex(-7, 9), w.From}, {complex(number(0x3f7fffff), 3), w.From},
		{complex(6, 2), w.To}, {complex(70, -9), w.To}, {complex(number(0x40a00001), 3), w.To},
		{w.From, w.From}, {w.To, w.To}, {complex(1, 7), w.From}, {complex(5, -7), w.To},
		{complex(-3e38, 3e38), w.From}, {complex(3e38, 3e38), w.To}, {complex(1, 3e38), w.From},
	} {
		gives(t, "NearestOn", c.want)(impl.NearestOn(w, c.at))
		gives(t, "NearestOn the other way", c.want)(impl.NearestOn(moving(wall(w.To, w.From), 9), c.at))
	}
	for _, x := range []float32{number(0x3f800001), number(0x409fffff)} {
		gives(t, "NearestOn just between both ends", complex64(complex(x, 2)))(impl.NearestOn(w, complex(x, 7)))
	}
	slant := wall(complex(0, 4), complex(4, 0))
	gives(t, "NearestOn a slant", complex64(complex(3, 1)))(impl.NearestOn(slant, complex(5, 3)))
	gives(t, "NearestOn a slant", complex64(complex(1, 3)))(impl.NearestOn(slant, complex(-1, 1)))
}

func TestNearestOnZeros(t *testing.T) {
	// The ends keep their zeros, and a point between them is a sum.
	zeros := wall(negativeZeros(), complex(4, negativeZero()))
	gives(t, "NearestOn the beginning", negativeZeros())(impl.NearestOn(zeros, complex(-1, 1)))
	gives(t, "NearestOn the beginning", negativeZeros())(impl.NearestOn(zeros, 0))
	gives(t, "NearestOn the end", complex64(complex(4, negativeZero())))(impl.NearestOn(zeros, 5))
	gives(t, "NearestOn the end", complex64(complex(4, negativeZero())))(impl.NearestOn(zeros, complex(4, 3)))
	gives(t, "NearestOn the middle", complex64(1))(impl.NearestOn(zeros, complex(1, 1)))
	back := wall(complex(4, negativeZero()), complex(0, negativeZero()))
	gives(t, "NearestOn the middle", complex64(1))(impl.NearestOn(back, complex(1, 1)))
}

func TestNearestOnFarPoints(t *testing.T) {
	// The difference of the point and From is infinite.
	far := wall(complex(3e38, 0), complex(3e38, 1e10))
	gives(t, "NearestOn without a number", far.From)(impl.NearestOn(far, complex(-3e38, 5e9)))
	up := wall(complex(1, 3e38), complex(2, 3e38))
	gives(t, "NearestOn what is infinitely far below", up.From)(impl.NearestOn(up, complex(1.5, -3e38)))
	slant := wall(complex(0, 0), complex(1e18, 1e18))
	gives(t, "NearestOn what is far behind", slant.To)(impl.NearestOn(slant, complex(3e38, 3e38)))
	gives(t, "NearestOn what is far before", slant.From)(impl.NearestOn(slant, complex(-3e38, -3e38)))
	gives(t, "NearestOn what is far at both sides", slant.From)(impl.NearestOn(slant, complex(3e38, -3e38)))
	for _, w := range edgeWalls() {
		for _, at := range []complex64{0, 1, w.From, w.To, complex(3e38, -3e38), w.From/2 + w.To/2} {
			gives(t, "NearestOn", referenceNearest(w, at))(impl.NearestOn(w, at))
		}
	}
}

func TestSideOf(t *testing.T) {
	w := wall(complex(1, 2), complex(3, 6))
	for _, c := range []struct {
		at   complex64
		want float32
	}{
		{complex(0, 2), 4}, {complex(2, 2), -4}, {complex(2, 4), 0}, {w.From, 0}, {w.To, 0},
		// where the wall would go on
		{complex(0, 0), 0}, {complex(4, 8), 0}, {complex(4, 9), 2}, {complex(4, 7), -2}, {complex(-1, -2), 0},
	} {
		gives(t, "SideOf", c.want)(impl.SideOf(w, c.at))
		gives(t, "SideOf the other way", 0-c.want)(impl.SideOf(moving(wall(w.To, w.From), 9), c.at))
	}
	gives(t, "SideOf a far point", float32(3e38))(impl.SideOf(wall(0, 1), complex(3e38, 3e38)))
	gives(t, "SideOf a product that is rounded to 0", float32(0))(impl.SideOf(wall(0, 1e-20), complex(0, 1e-30)))
	gives(t, "SideOf a product that is rounded to -0", negativeZero())(impl.SideOf(wall(0, 1e-20), complex(0, -1e-30)))
	fails(t, "SideOf a point too far away")(impl.SideOf(wall(0, 2), complex(0, 3e38)))
	fails(t, "SideOf a point too far away")(impl.SideOf(wall(0, complex(0, 2)), complex(3e38, 0)))
	fails(t, "SideOf a point too far away")(impl.SideOf(wall(complex(0, -3e38), complex(1, -3e38)), complex(0, 3e38)))
	fails(t, "SideOf a point too far away")(impl.SideOf(wall(0, complex(8, 8)), complex(3e38, 3e38)))
	// Nothing times a difference that is infinite is no number.
	fails(t, "SideOf a point too far away")(impl.SideOf(wall(complex(-3e38, 0), complex(-2.9e38, 0)), 3e38))
	fails(t, "SideOf a point too far along")(impl.SideOf(wall(complex(-3e38, 1), complex(-3e38, 2)), complex(3e38, 1.5)))
}

func TestCrossesWall(t *testing.T) {
	w := wall(0, 4)
	for _, c := range []struct {
		from, to complex64
		want     bool
	}{
		{complex(1, 1), complex(1, -1), true}, {complex(1, -1), complex(1, 1), true}, {complex(-1, 1), complex(5, -1), true},
		// beside the wall, and on one side of it
		{complex(5, 1), complex(5, -1), false}, {complex(-1, -1), complex(-1, 1), false}, {complex(1, 1), complex(3, 2), false},
		{complex(1, -1), complex(3, -2), false}, {complex(1, 1), complex(-3, -1), false}, {complex(3, 1), complex(9, -1), false},
		// an end of the way is on the wall: this is not less than 0
		{complex(2, -1), 2, true}, {2, complex(2, -1), true}, {complex(2, 1), 2, false}, {2, complex(2, 1), false},
		{complex(2, -1), complex(2, negativeZero()), true},
		// the way goes through an end of the wall
		{complex(0, 1), complex(0, -1), false}, {complex(0, -1), complex(0, 1), true},
		{complex(4, 1), complex(4, -1), true}, {complex(4, -1), complex(4, 1), false},
		// from end to end, and along the wall
		{0, 4, false}, {4, 0, false}, {1, 2, false}, {-1, 5, false}, {5, 6, false}, {0, complex(0, -1), false}, {complex(0, -1), 0, true},
		{0, complex(0, 1), false}, {4, complex(4, -1), true}, {complex(4, -1), 4, false},
		// ways that are no walls
		{1, 1, false}, {complex(1, 1), complex(1, 1), false}, {complex(1, 0x1p-76), complex(1, -0x1p-76), false},
		{complex(1, 0x1p63), complex(1, -0x1p63), false}, {complex(1, 3e38), complex(1, -3e38), false},
		{complex(1, 0x1p61), complex(1, -0x1p61), true},
	} {
		check(t, "CrossesWall", []any{c.from, c.to, impl.CrossesWall(w, c.from, c.to)}, []any{c.from, c.to, c.want})
		check(t, "CrossesWall that moves", impl.CrossesWall(moving(w, complex(9, 9)), c.from, c.to), c.want)
	}
	for _, x := range notFinite() {
		for _, wrong := range []complex64{complex(x, 1), complex(1, x)} {
			check(t, "CrossesWall from a wrong point", impl.CrossesWall(w, wrong, complex(1, -1)), false)
			check(t, "CrossesWall to a wrong point", impl.CrossesWall(w, complex(1, 1), wrong), false)
		}
	}
	for _, bad := range invalidWalls() {
		check(t, "CrossesWall that is none", impl.CrossesWall(bad, complex(1, 1), complex(1, -1)), false)
		check(t, "CrossesWall that is none", impl.CrossesWall(bad, complex(1, 5), complex(3, 2)), false)
	}
}

func TestCrossesWallNeedsSides(t *testing.T) {
	// The side of a point, or of an end of the wall, is not finite.
	check(t, "CrossesWall from too far away", impl.CrossesWall(wall(-1e18, 1e18), complex(0, 1e18), complex(0, -1e18)), true)
	long := wall(complex(-9e18, 1), complex(9e18, 1))
	check(t, "the wall and the way are valid", []bool{impl.ValidWall(long), impl.ValidWall(wall(complex(0, 9e18), complex(0, -9e18)))}, "[true true]")
	check(t, "CrossesWall from far away", impl.CrossesWall(long, complex(0, 9e18), complex(0, -9e18)), true)
	far := wall(complex(3e38, 0), complex(3e38, 4))
	check(t, "CrossesWall far away", impl.CrossesWall(far, complex(3e38, 1), complex(3e38, 2)), false)
	check(t, "the ends of a wall that is far away", impl.CrossesWall(wall(0, 4e18), complex(2e18, 3e38), complex(2e18, -1)), false)
	check(t, "a way that is far away", impl.CrossesWall(wall(3e38-1e36, 3e38), complex(0, 1), complex(0, -1)), false)
	// Both are valid and cross, but one point has no side of the other one.
	slope, upright := wall(0, complex(1.3e19, 1.3e19)), wall(complex(1.2e19, 2.7e19), complex(1.2e19, 1e19))
	check(t, "the wall and the way are valid", impl.AreWalls([]impl.Wall{slope, upright}), true)
	fails(t, "SideOf a point too far away")(impl.SideOf(slope, upright.From))
	for _, w := range []impl.Wall{upright, wall(upright.To, upright.From)} {
		check(t, "CrossesWall with a point that has no side", impl.CrossesWall(slope, w.From, w.To), false)
		check(t, "CrossesWall whose end has no side", impl.CrossesWall(w, slope.From, slope.To), false)
	}
	check(t, "CrossesWall with points that have sides", impl.CrossesWall(slope, complex(1.2e19, 2.5e19), upright.To), true)
}

func TestPointsOfManyWalls(t *testing.T) {
	source := rand.New(rand.NewSource(24))
	crossed := 0
	for n := range 3000 {
		size := []float64{1e-20, 0.1, 1, 7, 1e6, 1e18}[n%6]
		w, at, to := someWall(source, size), somePoint(source, size), somePoint(source, size)
		if n%4 == 0 {
			at = w.From + (w.To-w.From)*complex(float32(source.Float64()), 0)
		}
		gives(t, "NearestOn", referenceNearest(w, at))(impl.NearestOn(w, at))
		gives(t, "NearestOn the end", referenceNearest(w, w.To))(impl.NearestOn(w, w.To))
		gives(t, "NearestOn the beginning", w.From)(impl.NearestOn(w, w.From))
		side := referenceSide(w, at)
		expectFinite(t, "SideOf", isFinite(side), side)(impl.SideOf(w, at))
		check(t, "CrossesWall", impl.CrossesWall(w, at, to), referenceCrosses(w, at, to))
		if impl.CrossesWall(w, at, to) {
			crossed++
		}
	}
	check(t, "some ways cross", crossed > 200 && crossed < 2000, true)
}

func TestWallsAndPointsFail(t *testing.T) {
	for _, w := range invalidWalls() {
		fails(t, "NearestOn no wall")(impl.NearestOn(w, 1))
		fails(t, "SideOf no wall")(impl.SideOf(w, 1))
	}
	for _, w := range append(edgeWalls(), wall(0, 1)) {
		for _, x := range notFinite() {
			for _, wrong := range []complex64{complex(x, 1), complex(1, x), complex(x, x)} {
				fails(t, "NearestOn a wrong point")(impl.NearestOn(w, wrong))
				fails(t, "SideOf a wrong point")(impl.SideOf(w, wrong))
			}
		}
	}
}

func TestCrossesWallOfOddNumbers(t *testing.T) {
	numbers := oddNumbers()
	for i, x := range numbers {
		for k, y := range numbers {
			z := numbers[(i*7+k)%len(numbers)]
			w := wall(complex(x, 0), complex(y, z))
			from, to := complex(z, 1), complex(y, -x)
			want := isFiniteComplex(from) && isFiniteComplex(to) && isWall(w) && referenceCrosses(w, from, to)
			check(t, "CrossesWall", impl.CrossesWall(w, from, to), want)
			isPoint := isWall(w) && isFiniteComplex(from)
			side := referenceSide(w, from)
			expectFinite(t, "NearestOn", isPoint, referenceNearest(w, from))(impl.NearestOn(w, from))
			expectFinite(t, "SideOf", isPoint && isFinite(side), side)(impl.SideOf(w, from))
		}
	}
}
