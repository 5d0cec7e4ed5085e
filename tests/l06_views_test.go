package tests

import (
	"math"
	"math/rand"
	"testing"

	"loop.example/g01268/impl"
)

func TestValidView(t *testing.T) {
	for wide := int64(1); wide <= impl.MaxView; wide++ {
		for high := int64(1); high <= impl.MaxView; high++ {
			check(t, "a view", impl.ValidView(evenView(wide, high, -3)), true)
			less, more := evenView(wide, high, 1), evenView(wide, high, 1)
			less.Values, more.Values = less.Values[1:], append(more.Values, 1)
			check(t, "a view with less or more values", []bool{impl.ValidView(less), impl.ValidView(more)}, "[false false]")
		}
	}
	check(t, "a view with any values", impl.ValidView(row(0, negativeZero(), number(1), math.MaxFloat32, -math.MaxFloat32)), true)
	for _, v := range invalidViews() {
		check(t, "no view", impl.ValidView(v), false)
	}
}

func TestSameView(t *testing.T) {
	list := append([]impl.View{row(1), row(1, 2), view(1, 2, 1, 2), row(2, 1), row(1, 3), row(0), row(negativeZero()), row(number(1)), view(2, 2, 1, 2, 3, 4),
		view(4, 1, 1, 2, 3, 4), view(2, 2, 1, 2, 3, 5), view(2, 2, 0, 2, 3, 4), view(2, 1, 1, 2, 3), view(1<<33, 1, 1)}, row(1, nan()), row(inf(1), 1), row(inf(-1), 1), impl.View{})
	for i, a := range list {
		for k, b := range list {
			check(t, "views", impl.SameView(a, b), i == k)
		}
	}
	check(t, "views without values", impl.SameView(impl.View{Wide: -7, High: 3}, view(-7, 3)), true)
	check(t, "not-a-numbers", impl.SameView(row(nan(), number(0xff800001)), row(number(0xff800001), nan())), true)
	for _, v := range invalidViews() {
		check(t, "a view that is not valid, and itself", impl.SameView(v, impl.View{Wide: v.Wide, High: v.High, Values: append([]float32{}, v.Values...)}), true)
		check(t, "a view that is not valid, and one more value", impl.SameView(v, impl.View{Wide: v.Wide, High: v.High, Values: append([]float32{0}, v.Values...)}), false)
	}
}

func TestCoverView(t *testing.T) {
	h := heapWith(disc(complex(1, 1), 0.75), held(disc(complex(3, 0), 9)), disc(complex(0.5, 0.5), 0.25))
	small := heapWith(h.Grains[0], h.Grains[2])
	for _, c := range []struct {
		h      impl.Heap
		corner complex64
		cell   float32
		wide   int64
		high   int64
		parts  int64
		want   []float32
	}{
		// The middles of four cells are as far from 1 + i.
		{small, 0, 1, 2, 2, 1, []float32{1, 1, 1, 1}}, {small, 0, 1, 3, 2, 1, []float32{1, 1, 0, 1, 1, 0}}, {small, 0, 2, 1, 1, 1, []float32{1}},
		{small, 0, 2, 1, 1, 2, []float32{1}}, {small, 0, 4, 1, 1, 2, []float32{0.25}}, {small, complex(-2, -2), 2, 2, 2, 1, []float32{0, 0, 0, 1}},
		{heapWith(disc(complex(1, 1), 0.8)), 0, 1, 2, 2, 2, []float32{0.75, 0.75, 0.75, 0.75}}, {h, 0, 1, 2, 2, 8, []float32{1, 1, 1, 1}},
		{impl.Heap{}, 0, 1, 2, 1, 8, []float32{0, 0}}, {heapWith(disc(complex(3, 0), 1.5)), 0, 1, 4, 1, 1, []float32{0, 0, 1, 1}},
		// a point in two grains is one point
		{heapWith(disc(0, 5), disc(0, 5), disc(1, 5)), 0, 1, 1, 1, 3, []float32{1}},
		// row by row from below, and points outside of all
		{heapWith(disc(complex(0.5, 2.5), 0.25)), 0, 1, 2, 3, 1, []float32{0, 0, 0, 0, 1, 0}}, {heapWith(disc(complex(2.5, 0.5), 0.25)), 0, 1, 3, 2, 1, []float32{0, 0, 1, 0, 0, 0}},
		{heapWith(disc(-1, 0.25)), 0, 1, 2, 2, 4, []float32{0, 0, 0, 0}},
		// points at the Radius, and just beyond it
		{heapWith(disc(complex(0.5, 2.5), 2)), 0, 1, 1, 1, 1, []float32{1}}, {heapWith(disc(complex(0.5, 2.5), number(0x3fffffff))), 0, 1, 1, 1, 1, []float32{0}},
		{heapWith(disc(complex(-0.75, 0.25), 1)), 0, 1, 1, 1, 2, []float32{0.25}}, {heapWith(disc(complex(-0.75, 0.25), number(0x3f7fffff))), 0, 1, 1, 1, 2, []float32{0}},
		{heapWith(disc(complex(0.25, 1.75), 1)), 0, 1, 1, 1, 2, []float32{0.25}}, {heapWith(disc(complex(3.5, 4.5), 5)), 0, 1, 1, 1, 1, []float32{1}},
	} {
		gives(t, "CoverView", view(c.wide, c.high, c.want...))(impl.CoverView(c.h, c.corner, c.cell, c.wide, c.high, c.parts))
	}
	third, ok := impl.CoverView(heapWith(disc(complex(0.5, 0.5), number(1))), 0, 1, 1, 1, 3)
	check(t, "one of nine points", []any{told(third.Values), ok}, []any{told([]float32{float32(1) / 9}), true})
	for parts := int64(1); parts <= 8; parts++ {
		for _, size := range []int64{1, impl.MaxView} {
			gives(t, "CoverView inside", evenView(size, size, 1))(impl.CoverView(heapWith(disc(0, 90)), 0, 1, size, size, parts))
			gives(t, "CoverView outside", evenView(size, size, 0))(impl.CoverView(heapWith(disc(-9, 5)), 0, 1, size, size, parts))
		}
	}
	// Points that are not finite are in no grain.
	gives(t, "CoverView far away", row(1, 0, 0))(impl.CoverView(heapWith(disc(0, 3e38)), 0, 3e38, 3, 1, 1))
	gives(t, "CoverView far away", row(1, 0))(impl.CoverView(heapWith(disc(0, math.MaxFloat32)), complex(-3e38, -3e38), 3e38, 2, 1, 1))
}

func TestMassView(t *testing.T) {
	h := heapWith(heavy(disc(complex(0.5, 0.5), 9), 2), held(heavy(disc(complex(1.5, 0.25), 1), 3)), heavy(disc(complex(0.25, 0), 1), 5),
		heavy(disc(complex(1, 1), 1), 7), heavy(disc(complex(negativeZero(), 1.75), 1), 11))
	for _, c := range []struct {
		corner complex64
		cell   float32
		wide   int64
		high   int64
		want   []float32
	}{
		{0, 1, 2, 2, []float32{7, 3, 11, 7}}, {0, 1, 1, 1, []float32{7}}, {0, 2, 1, 1, []float32{28}}, {0, 1, 3, 1, []float32{7, 3, 0}}, {0, 1, 1, 3, []float32{7, 11, 0}},
		{complex(-1, -1), 1, 2, 2, []float32{0, 0, 0, 7}}, {complex(0.5, 0.5), 1, 1, 1, []float32{9}}, {complex(0.5, 0.5), 0.5, 2, 2, []float32{2, 0, 0, 7}},
		{complex(1, 1), 1, 2, 2, []float32{7, 0, 0, 0}}, {complex(2, 0), 1, 2, 2, []float32{0, 0, 0, 0}}, {complex(negativeZero(), negativeZero()), 1, 1, 2, []float32{7, 11}},
		// at the edge of a cell, and just before it
		{0, 1.75, 1, 1, []float32{17}}, {0, 1.75, 1, 2, []float32{17, 11}}, {0, number(0x3fe00001), 1, 1, []float32{28}}, {0, 0.25, 3, 1, []float32{0, 5, 0}},
		{complex(number(0x3e800001), 0), 1, 1, 1, []float32{2}}, {-3e38, 3e38, 2, 1, []float32{0, 28}}, {-3e38, 3e38, 1, 1, []float32{0}}, {3e38, 1e38, 2, 1, []float32{0, 0}},
	} {
		gives(t, "MassView", view(c.wide, c.high, c.want...))(impl.MassView(h, c.corner, c.cell, c.wide, c.high))
		gives(t, "MassView without grains", evenView(c.wide, c.high, 0))(impl.MassView(impl.Heap{}, c.corner, c.cell, c.wide, c.high))
	}
	for _, at := range []complex64{complex(4, 0), complex(0, 4), complex(-number(1), 0), complex(0, -number(1)), complex(16, 2), complex(-3e38, 0), complex(0, 3e38)} {
		gives(t, "MassView of grains outside of all", evenView(4, 4, 0))(impl.MassView(lone(at), 0, 1, 4, 4))
	}
	// The quotient is rounded: what is very little less than 0 is at -0.
	gives(t, "MassView of what is rounded", row(1))(impl.MassView(lone(complex(number(0x80000001), number(0x80000001))), 0, 4, 1, 1))
	last := evenView(16, 16, 0)
	last.Values[255] = 1
	gives(t, "MassView of the last cell", last)(impl.MassView(lone(complex(15.5, 15)), 0, 1, 16, 16))
	// 2^24 takes no 1 at a time.
	gives(t, "MassView in order", row(1<<24))(impl.MassView(heapWith(heavy(disc(0, 1), 1<<24), disc(0, 1), disc(0, 1)), 0, 1, 1, 1))
	gives(t, "MassView in order", row(1<<24+2))(impl.MassView(heapWith(disc(0, 1), disc(0, 1), heavy(disc(0, 1), 1<<24)), 0, 1, 1, 1))
	large := heapWith(heavy(disc(0, 1), 3e38), heavy(disc(0, 1), 3e38))
	fails(t, "MassView of a mass that is not finite")(impl.MassView(large, complex(-1, -1), 1, 2, 2))
	gives(t, "MassView of such a mass outside of all", evenView(2, 2, 0))(impl.MassView(large, complex(1, -1), 1, 2, 2))
	gives(t, "MassView far away", row(0))(impl.MassView(lone(3e38), -3e38, 1e38, 1, 1))
}

func TestViewsFail(t *testing.T) {
	for _, h := range []impl.Heap{{}, lone(0.5)} {
		for _, size := range notViewSizes() {
			fails(t, "CoverView with a wrong Wide")(impl.CoverView(h, 0, 1, size, 1, 1))
			fails(t, "CoverView with a wrong High")(impl.CoverView(h, 0, 1, 1, size, 1))
			fails(t, "CoverView with a wrong size")(impl.CoverView(h, 0, 1, size, size, 1))
			fails(t, "MassView with a wrong Wide")(impl.MassView(h, 0, 1, size, 1))
			fails(t, "MassView with a wrong High")(impl.MassView(h, 0, 1, 1, size))
			fails(t, "MassView with a wrong size")(impl.MassView(h, 0, 1, size, size))
			fails(t, "TopsOf with a wrong count")(impl.TopsOf(h, 0, 1, size))
		}
		for _, parts := range []int64{0, -1, 9, 1 << 32, math.MinInt64, math.MaxInt64} {
			fails(t, "CoverView with wrong parts")(impl.CoverView(h, 0, 1, 2, 2, parts))
		}
		for _, cell := range notPositive() {
			fails(t, "CoverView with a wrong cell")(impl.CoverView(h, 0, cell, 2, 2, 1))
			fails(t, "MassView with a wrong cell")(impl.MassView(h, 0, cell, 2, 2))
			fails(t, "TopsOf with a wrong step")(impl.TopsOf(h, 0, cell, 2))
		}
		for _, x := range notFinite() {
			for _, corner := range []complex64{complex(x, 0), complex(0, x)} {
				fails(t, "CoverView with a wrong corner")(impl.CoverView(h, corner, 1, 2, 2, 1))
				fails(t, "MassView with a wrong corner")(impl.MassView(h, corner, 1, 2, 2))
			}
			fails(t, "TopsOf with a wrong beginning")(impl.TopsOf(h, x, 1, 2))
		}
	}
	for _, bad := range invalidHeaps() {
		fails(t, "CoverView of a wrong heap")(impl.CoverView(bad, 0, 1, 2, 2, 1))
		fails(t, "MassView of a wrong heap")(impl.MassView(bad, 0, 1, 2, 2))
		fails(t, "TopsOf a wrong heap")(impl.TopsOf(bad, 0, 1, 2))
	}
	for _, bad := range invalidViews() {
		fails(t, "MeanOfView of a wrong view")(impl.MeanOfView(bad))
		for _, level := range []float32{0, 1, inf(1), inf(-1), nan()} {
			fails(t, "VoidsOf a wrong view")(impl.VoidsOf(bad, level))
		}
	}
}

func TestMeanOfView(t *testing.T) {
	gives(t, "MeanOfView", float32(2.5))(impl.MeanOfView(view(2, 2, 1, 2, 3, 4)))
	gives(t, "MeanOfView of one", float32(-7))(impl.MeanOfView(row(-7)))
	gives(t, "MeanOfView of three", float32(2)/3)(impl.MeanOfView(view(1, 3, 1, 0, 1)))
	gives(t, "MeanOfView of zeros with a sign", float32(0))(impl.MeanOfView(row(negativeZero(), negativeZero())))
	gives(t, "MeanOfView of little", negativeZero())(impl.MeanOfView(row(number(0x80000001), 0, 0)))
	gives(t, "MeanOfView of a full view", float32(3))(impl.MeanOfView(evenView(16, 16, 3)))
	// 2^24 takes no 1 at a time.
	gives(t, "MeanOfView in order", float32(1<<22))(impl.MeanOfView(row(1<<24, 1, 1, 0)))
	gives(t, "MeanOfView in order", float32(1<<24+2)/4)(impl.MeanOfView(row(1, 1, 1<<24, 0)))
	gives(t, "MeanOfView of large ones", float32(0))(impl.MeanOfView(row(3e38, -3e38)))
	for _, x := range []float32{3e38, -3e38} {
		fails(t, "MeanOfView that is not finite")(impl.MeanOfView(row(x, x)))
		fails(t, "MeanOfView that is not finite on the way")(impl.MeanOfView(row(x, x, -x, -x)))
	}
	source := rand.New(rand.NewSource(47))
	for wide := int64(1); wide <= impl.MaxView; wide++ {
		for high := int64(1); high <= impl.MaxView; high++ {
			v := someView(source, wide, high)
			gives(t, "MeanOfView", referenceMean(v))(impl.MeanOfView(v))
		}
	}
}

func TestVoidsOf(t *testing.T) {
	for _, c := range []struct {
		v     impl.View
		level float32
		want  []int64
		count int64
	}{
		{row(1, 0, 1), 0.5, []int64{-1, 0, -1}, 1}, {row(0, 1, 0), 0.5, []int64{0, -1, 1}, 2}, {view(1, 3, 0, 1, 0), 0.5, []int64{0, -1, 1}, 2},
		// a value at the level is in no void
		{row(1, 2, 3), 2, []int64{0, -1, -1}, 1}, {row(1, 2, 3), number(0x40000001), []int64{0, 0, -1}, 1}, {row(0, 0), 0, []int64{-1, -1}, 0},
		{row(negativeZero(), 0), 0, []int64{-1, -1}, 0}, {row(negativeZero(), 0), negativeZero(), []int64{-1, -1}, 0}, {row(0, -1, 1), negativeZero(), []int64{-1, 0, -1}, 1},
		// voids that touch at a corner only
		{view(2, 2, 0, 1, 1, 0), 1, []int64{0, -1, -1, 1}, 2}, {view(2, 2, 1, 0, 0, 1), 1, []int64{-1, 0, 1, -1}, 2}, {view(2, 2, 0, 0, 1, 0), 1, []int64{0, 0, -1, 0}, 1},
		// the end of a row and the beginning of the next one have no side in common
		{view(3, 2, 1, 1, 0, 0, 1, 1), 1, []int64{-1, -1, 0, 1, -1, -1}, 2}, {view(2, 3, 1, 0, 1, 1, 0, 1), 1, []int64{-1, 0, -1, -1, 1, -1}, 2},
		// two ways that meet below, numbered by their first cells
		{view(3, 2, 0, 1, 0, 0, 0, 0), 1, []int64{0, -1, 0, 0, 0, 0}, 1}, {view(3, 3, 0, 1, 0, 1, 1, 0, 0, 0, 0), 1, []int64{0, -1, 1, -1, -1, 1, 1, 1, 1}, 2},
		{view(3, 3, 0, 0, 0, 0, 1, 0, 0, 0, 0), 1, []int64{0, 0, 0, 0, -1, 0, 0, 0, 0}, 1}, {view(3, 3, 1, 1, 1, 1, 0, 1, 1, 1, 1), 1, []int64{-1, -1, -1, -1, 0, -1, -1, -1, -1}, 1},
		// a level that is not finite, or is above or below all
		{row(3e38, -3e38), inf(1), []int64{0, 0}, 1}, {row(3e38, -3e38), inf(-1), []int64{-1, -1}, 0}, {row(3e38, -3e38), nan(), []int64{-1, -1}, 0},
		{row(math.MaxFloat32), math.MaxFloat32, []int64{-1}, 0}, {row(-math.MaxFloat32), number(0xff7ffffe), []int64{0}, 1},
	} {
		gives(t, "VoidsOf", c.want, c.count)(impl.VoidsOf(c.v, c.level))
	}
	full := evenView(16, 16, 1)
	gives(t, "VoidsOf one large void", repeated(int64(0), 256), int64(1))(impl.VoidsOf(full, 2))
	gives(t, "VoidsOf no void", repeated(int64(-1), 256), int64(0))(impl.VoidsOf(full, 1))
	want := repeated(int64(-1), 256)
	for n := range full.Values {
		if (n/16+n)%2 == 0 {
			full.Values[n], want[n] = 0, int64(n/2)
		}
	}
	gives(t, "VoidsOf many voids", want, int64(128))(impl.VoidsOf(full, 1))
	// One void goes to and fro.
	for n := range full.Values {
		full.Values[n], want[n] = 0, 0
		if y, x := n/16, n%16; y%2 == 1 && x != 15*(y/2%2) {
			full.Values[n], want[n] = 1, -1
		}
	}
	gives(t, "VoidsOf a long void", want, int64(1))(impl.VoidsOf(full, 1))
}

func TestTopsOf(t *testing.T) {
	h := heapWith(disc(complex(0.5, 2), 1), held(disc(complex(1.5, -5), 2)), disc(complex(0.25, 1), 2.5), disc(complex(1, -9), 1), disc(complex(3, 4), 0.5))
	for _, c := range []struct {
		from, step float32
		want       []float32
	}{
		{0, 1, []float32{3.5, -3, 0, 4.5}}, {0, 1, []float32{3.5}}, {0, 4, []float32{4.5}}, {-1, 1, []float32{0, 3.5, -3, 0, 4.5, 0}}, {0.25, 0.25, []float32{3.5, 3, 0, -8, 0, -3}},
		{1, 1, []float32{-3, 0, 4.5}}, {1, 0.5, []float32{-8, -3}}, {2, 1, []float32{0, 4.5}}, {-5, 1, []float32{0, 0, 0}}, {-1e30, 1e30, []float32{0, 4.5}},
		// at the edge of a column, and just beside it
		{3, 1, []float32{4.5}}, {number(0x40400001), 1, []float32{0}}, {2, 1, []float32{0}}, {1.5, 1.5, []float32{-3}}, {1.5, number(0x3fc00001), []float32{-3}}, {1.5, number(0x3fc00002), []float32{4.5}},
		{number(0x3f800001), 0.5, []float32{-3}}, {negativeZero(), 0.5, []float32{3.5}},
		// sums that are not finite, and steps too small to be seen
		{0, 3e38, []float32{4.5, 0, 0}}, {-3e38, 3e38, []float32{0, 4.5, 0, 0}}, {1, number(1), []float32{0, 0, 0}}, {3e38, 3e38, []float32{0, 0}},
	} {
		gives(t, "TopsOf", c.want)(impl.TopsOf(h, c.from, c.step, int64(len(c.want))))
		gives(t, "TopsOf no grains", make([]float32, len(c.want)))(impl.TopsOf(impl.Heap{}, c.from, c.step, int64(len(c.want))))
	}
	gives(t, "TopsOf MaxView columns", []float32{0, 0, 0, 0, 0, 0, 0, 0, 0, 0, 0, 0, 0, 0, 0, 1})(impl.TopsOf(lone(15.5), 0, 1, impl.MaxView))
	gives(t, "TopsOf a grain at 0", []float32{0})(impl.TopsOf(lone(complex(0, -1)), 0, 1, 1))
	// What counts is how high a grain reaches.
	gives(t, "TopsOf a wide grain below", []float32{6})(impl.TopsOf(heapWith(disc(complex(0, 3), 1), disc(complex(0, -1), 7), disc(0, 6)), 0, 1, 1))
	gives(t, "TopsOf grains all below 0", []float32{-3})(impl.TopsOf(heapWith(disc(complex(0, -9), 1), disc(complex(0, -5), 2), disc(complex(0, -7), 1)), 0, 1, 1))
	wide := heapWith(disc(complex(0.5, 3e38), 3e38), disc(1.5, 1))
	fails(t, "TopsOf a top that is not finite")(impl.TopsOf(wide, 0, 1, 2))
	gives(t, "TopsOf others", []float32{1, 0})(impl.TopsOf(wide, 1, 1, 2))
}

func TestViewsOfManyHeaps(t *testing.T) {
	source := rand.New(rand.NewSource(48))
	for n, b := range someBounds() {
		corner, cell := somePoint(source, 2), float32(0.1+source.Float64())
		wide, high, parts := int64(1+source.Intn(5)), int64(1+source.Intn(5)), int64(1+source.Intn(8))
		if n%20 == 0 {
			wide, high = impl.MaxView, impl.MaxView
		}
		gives(t, "CoverView", referenceCover(b.heap, corner, cell, wide, high, parts))(impl.CoverView(b.heap, corner, cell, wide, high, parts))
		masses, ok := referenceMasses(b.heap, corner, cell, wide, high)
		expectFinite(t, "MassView", ok, masses)(impl.MassView(b.heap, corner, cell, wide, high))
		tops, ok := referenceTops(b.heap, real(corner), cell, wide)
		expectFinite(t, "TopsOf", ok, tops)(impl.TopsOf(b.heap, real(corner), cell, wide))
	}
	for n := range 400 {
		v := someView(source, int64(1+n%16), int64(1+source.Intn(16)))
		for _, level := range []float32{1, 2.5, 3} {
			voids, count := referenceVoids(v, level)
			gives(t, "VoidsOf", voids, count)(impl.VoidsOf(v, level))
		}
	}
}

// TestEdgesOfViews takes grains at the edges of cells and columns, or just
// beside them.
func TestEdgesOfViews(t *testing.T) {
	source := rand.New(rand.NewSource(49))
	for range 300 {
		corner, cell := somePoint(source, 2), float32(0.1+source.Float64())
		beside := func(x float32) float32 {
			return number(math.Float32bits(x) + uint32(source.Intn(3)) - 1)
		}
		h := impl.Heap{}
		for range impl.MaxGrains {
			x := add32(real(corner), mul32(float32(source.Intn(6)), cell))
			y := add32(imag(corner), mul32(float32(source.Intn(6)), cell))
			h.Grains = append(h.Grains, disc(complex(beside(x), beside(y)), float32(0.1+source.Float64())))
		}
		masses, ok := referenceMasses(h, corner, cell, 5, 4)
		expectFinite(t, "MassView", ok, masses)(impl.MassView(h, corner, cell, 5, 4))
		tops, ok := referenceTops(h, real(corner), cell, 5)
		expectFinite(t, "TopsOf", ok, tops)(impl.TopsOf(h, real(corner), cell, 5))
		// The Radius is just how far a point is away.
		x, y := source.Intn(5), source.Intn(4)
		point := complex(add32(real(corner), mul32(cell, add32(float32(x), 0.5))), add32(imag(corner), mul32(cell, add32(float32(y), 0.5))))
		for i := range h.Grains {
			h.Grains[i].Radius = beside(long32(subComplex32(point, h.Grains[i].At)))
		}
		for i := range h.Grains {
			one := heapWith(h.Grains[i])
			gives(t, "CoverView", referenceCover(one, corner, cell, 5, 4, 1))(impl.CoverView(one, corner, cell, 5, 4, 1))
		}
	}
}
