package tests

import (
	"math"
	"math/rand"
	"testing"

	"loop.example/g01268/impl"
)

func TestStressOf(t *testing.T) {
	h := heapWith(disc(complex(1, 1), 1), disc(complex(3, 1), 1), held(disc(complex(2, 5), 9)), disc(complex(1, 1), 1))
	one := []impl.Link{link(0, 1, complex(3, 5))}
	gives(t, "StressOf one link", []float32{6, 10, 0, 0})(impl.StressOf(h, one, 1))
	gives(t, "StressOf an area", []float32{1.5, 2.5, 0, 0})(impl.StressOf(h, one, 4))
	gives(t, "StressOf another link", []float32{3, 5, 12, 20})(impl.StressOf(h, []impl.Link{link(0, 2, complex(3, 5))}, 1))
	gives(t, "StressOf a link that goes back", []float32{-3, -5, -12, -20})(impl.StressOf(h, []impl.Link{link(2, 0, complex(3, 5))}, 1))
	back, _ := impl.BackLinks(one)
	gives(t, "StressOf BackLinks", []float32{6, 10, 0, 0})(impl.StressOf(h, back, 1))
	gives(t, "StressOf links twice and back", []float32{12, 20, 0, 0})(impl.StressOf(h, []impl.Link{one[0], one[0], link(1, 0, complex(3, 5)), back[0]}, 1))
	gives(t, "StressOf a link at one place", []float32{0, 0, 0, 0})(impl.StressOf(h, []impl.Link{link(0, 3, complex(3, 5))}, 1))
	for _, area := range []float32{1, number(1), math.MaxFloat32} {
		gives(t, "StressOf no links", []float32{0, 0, 0, 0})(impl.StressOf(h, nil, area))
		gives(t, "StressOf no grains", []float32{0, 0, 0, 0})(impl.StressOf(impl.Heap{}, nil, area))
	}
	// The sums begin with +0, and have its sign where all is 0.
	gives(t, "StressOf zeros", []float32{0, 0, 0, 0})(impl.StressOf(h, []impl.Link{link(1, 0, 0)}, 1))
	gives(t, "StressOf little", []float32{negativeZero(), 0, 0, 0})(impl.StressOf(h, []impl.Link{link(0, 1, complex(number(0x80000001), 0))}, 1e30))
}

func TestStressOfFails(t *testing.T) {
	h := heapWith(disc(0, 1), disc(4, 1))
	for _, area := range notPositive() {
		fails(t, "StressOf a wrong area")(impl.StressOf(h, links(0, 1), area))
		fails(t, "StressOf no links with a wrong area")(impl.StressOf(h, nil, area))
		fails(t, "StressOf no grains with a wrong area")(impl.StressOf(impl.Heap{}, nil, area))
	}
	fails(t, "StressOf a quotient that is not finite")(impl.StressOf(h, links(0, 1), 1e-38))
	fails(t, "StressOf a product that is not finite")(impl.StressOf(h, []impl.Link{link(0, 1, 1e38)}, 1e10))
	fails(t, "StressOf a sum that is not finite")(impl.StressOf(h, repeated(link(0, 1, 0.5e38), 2), 1e10))
	gives(t, "StressOf a large sum", []float32{2, 0, 0, 0})(impl.StressOf(h, []impl.Link{link(0, 1, 0x1p125)}, 0x1p126))
	fails(t, "StressOf grains too far apart")(impl.StressOf(heapWith(disc(-3e38, 1), disc(3e38, 1)), []impl.Link{link(0, 1, 0)}, 1))
}

func TestAxesOfStress(t *testing.T) {
	for _, c := range []struct {
		a, b, c, e            float32
		greatest, least, turn float32
	}{
		{3, 0, 0, 1, 3, 1, 0}, {1, 0, 0, 3, 3, 1, 0.25}, {0, 1, 1, 0, 1, -1, 0.125}, {0, -1, -1, 0, 1, -1, -0.125},
		{4, 3, 3, -4, 5, -5, float32(impl.AngleTurns(3, 4) / 2)}, {-1, 0, 0, -1, -1, -1, 0}, {5, 6, 2, -3, 1 + long32(complex(4, 4)), 1 - long32(complex(4, 4)), 0.0625},
		// axes of equal pressures, also where b and c are opposite
		{2, 0, 0, 2, 2, 2, 0}, {2, 7, -7, 2, 2, 2, 0}, {-2, negativeZero(), negativeZero(), -2, -2, -2, 0}, {0, 5, -5, 0, 0, 0, 0},
		// nothing
		{0, 0, 0, 0, 0, 0, 0}, {negativeZero(), negativeZero(), negativeZero(), negativeZero(), 0, negativeZero(), 0},
		{negativeZero(), 0, 0, 0, 0, 0, 0}, {0, negativeZero(), negativeZero(), negativeZero(), 0, 0, 0},
		// a least axis turned by half of 180 degrees, whatever the sign of the zero is
		{-3, 0, 0, 1, 1, -3, 0.25}, {-3, negativeZero(), negativeZero(), 1, 1, -3, 0.25},
		{math.MaxFloat32, 0, 0, negativeZero(), math.MaxFloat32, 0, 0}, {number(2), 0, 0, 0, number(2), 0, 0},
	} {
		gives(t, "AxesOfStress", c.greatest, c.least, c.turn)(impl.AxesOfStress([]float32{c.a, c.b, c.c, c.e}))
	}
}

func TestAxesOfStressFails(t *testing.T) {
	for count := range 300 {
		if count != 4 {
			fails(t, "AxesOfStress of another number of numbers")(impl.AxesOfStress(repeated(float32(1), count)))
		}
	}
	for n := range 4 {
		for _, x := range notFinite() {
			stress := []float32{1, 2, 3, 4}
			stress[n] = x
			fails(t, "AxesOfStress of numbers that are not finite")(impl.AxesOfStress(stress))
		}
	}
	for _, stress := range [][]float32{
		{3e38, 0, 0, 3e38}, {-3e38, 0, 0, -3e38}, {3e38, 0, 0, -3e38}, {0, 3e38, 3e38, 0}, {0, -3e38, -3e38, 0}, {3e38, 3e38, 3.1e37, -3e37}, {3e38, 1.5e38, 1.5e38, 1e38},
		{-3e38, 1.5e38, 1.5e38, -1e38},
	} {
		fails(t, "AxesOfStress that are too large")(impl.AxesOfStress(stress))
	}
}

func TestFabricOf(t *testing.T) {
	h := heapWith(disc(0, 1), disc(4, 1), held(disc(complex(0, 3), 9)), disc(complex(-2, -2), 1), disc(0, 1))
	for _, c := range []struct {
		list []impl.Link
		want complex64
	}{
		{links(0, 1), 1}, {links(0, 2), -1}, {links(0, 1, 0, 2), 0}, {links(0, 1, 0, 1, 0, 2, 1, 0), 0.5}, {links(0, 2, 2, 0, 0, 1, 0, 2), -0.5},
		{[]impl.Link{link(0, 1, 0)}, 1}, {[]impl.Link{link(0, 1, complex(-7, 5))}, 1}, {repeated(link(1, 0, 0), impl.MaxLinks), 1},
	} {
		fabric, ok := impl.FabricOf(h, c.list)
		check(t, "FabricOf", []any{fabric == c.want, ok}, "[true true]")
	}
	fabric, ok := impl.FabricOf(h, links(0, 3, 3, 0))
	check(t, "FabricOf a diagonal", []any{isNearly(real(fabric), 0, 1), isNearly(imag(fabric), 1, 1), ok}, "[true true true]")
	fails(t, "FabricOf no links")(impl.FabricOf(h, nil))
	fails(t, "FabricOf no links and grains")(impl.FabricOf(impl.Heap{}, nil))
	for _, list := range [][]impl.Link{links(0, 4), links(4, 0), links(0, 1, 0, 4), links(4, 0, 0, 1)} {
		fails(t, "FabricOf grains at one place")(impl.FabricOf(h, list))
	}
	gives(t, "FabricOf others than those at one place", complex64(complex(1, 0)))(impl.FabricOf(h, links(0, 1, 4, 1)))
	far := heapWith(disc(-2e38, 1), disc(2e38, 1), disc(-1e38, 1))
	fails(t, "FabricOf grains too far apart")(impl.FabricOf(far, links(0, 2, 0, 1)))
	gives(t, "FabricOf grains that are not too far apart", complex64(1))(impl.FabricOf(far, links(0, 2)))
}

func TestIslandsOf(t *testing.T) {
	h := fullHeap(7)
	for _, c := range []struct {
		list  []impl.Link
		want  []int64
		count int64
	}{
		{nil, []int64{0, 1, 2, 3, 4, 5, 6}, 7}, {links(0, 1), []int64{0, 0, 1, 2, 3, 4, 5}, 6}, {links(6, 0), []int64{0, 1, 2, 3, 4, 5, 0}, 6},
		{links(5, 6, 4, 5, 3, 4, 2, 3, 1, 2, 0, 1), []int64{0, 0, 0, 0, 0, 0, 0}, 1}, {links(1, 0, 2, 1, 3, 2, 4, 3, 5, 4, 6, 5), []int64{0, 0, 0, 0, 0, 0, 0}, 1},
		{links(1, 5, 5, 1, 1, 5, 2, 6, 6, 4), []int64{0, 1, 2, 3, 2, 1, 2}, 4}, {links(0, 6, 5, 1, 2, 4, 3, 0), []int64{0, 1, 2, 0, 2, 1, 0}, 3},
		{links(0, 1, 1, 2, 2, 0), []int64{0, 0, 0, 1, 2, 3, 4}, 5}, {[]impl.Link{link(3, 4, 0)}, []int64{0, 1, 2, 3, 3, 4, 5}, 6},
	} {
		gives(t, "IslandsOf", c.want, c.count)(impl.IslandsOf(h, c.list))
	}
	gives(t, "IslandsOf no grains", []int64{}, int64(0))(impl.IslandsOf(impl.Heap{}, nil))
	gives(t, "IslandsOf grains at one place", []int64{0, 1}, int64(2))(impl.IslandsOf(heapWith(disc(0, 1), disc(0, 1)), nil))
	gives(t, "IslandsOf linked grains at one place", []int64{0, 0}, int64(1))(impl.IslandsOf(heapWith(disc(0, 1), disc(0, 1)), links(1, 0)))
	gives(t, "IslandsOf full heaps", repeated(int64(0), 24), int64(1))(impl.IslandsOf(fullHeap(24), ringLinks(24, impl.MaxLinks)))
}

func TestChainFrom(t *testing.T) {
	h := heap(t, "RowOfGrains")(impl.RowOfGrains(5, 1, 0, 1))
	list := links(0, 1, 2, 1, 2, 3, 3, 4)
	for _, c := range []struct {
		start int64
		way   complex64
		want  []int64
	}{
		{0, 1, []int64{0, 1, 2, 3, 4}}, {2, 1, []int64{2, 3, 4}}, {4, 1, []int64{4}}, {4, -1, []int64{4, 3, 2, 1, 0}}, {2, -1, []int64{2, 1, 0}},
		{0, -1, []int64{0}}, {1, complex(0, 1), []int64{1}}, {1, complex(0, -1), []int64{1}}, {1, 0, []int64{1}}, {1, complex(negativeZero(), negativeZero()), []int64{1}},
		{0, complex(1e-3, 5), []int64{0, 1, 2, 3, 4}}, {4, complex(-3e38, 3e38), []int64{4, 3, 2, 1, 0}}, {3, complex(number(1), 0), []int64{3, 4}},
	} {
		gives(t, "ChainFrom", c.want)(impl.ChainFrom(h, list, c.start, c.way))
		gives(t, "ChainFrom without links", []int64{c.start})(impl.ChainFrom(h, nil, c.start, c.way))
	}
	long := heap(t, "RowOfGrains")(impl.RowOfGrains(24, 1, 0, 1))
	gives(t, "ChainFrom of all grains", allGrains())(impl.ChainFrom(long, ringLinks(24, 23), 0, 1))
	gives(t, "ChainFrom a grain without links", []int64{4})(impl.ChainFrom(h, list[:3], 4, -1))
	gives(t, "ChainFrom of what is held", []int64{0, 1})(impl.ChainFrom(heapWith(held(disc(0, 1)), held(disc(1, 1))), links(1, 0), 0, 1))
}

// allGrains returns the numbers from 0 to 23.
func allGrains() []int64 {
	list := []int64{}
	for i := range int64(24) {
		list = append(list, i)
	}
	return list
}

func TestChainsTakeTheStrongest(t *testing.T) {
	h := heapWith(disc(0, 1), disc(complex(2, 1), 1), disc(complex(2, -1), 1), disc(complex(2, 0), 1), disc(-2, 1))
	for _, c := range []struct {
		list []impl.Link
		want []int64
	}{
		// two strongest ones: the first one of them
		{[]impl.Link{link(0, 1, 4), link(0, 2, 5), link(0, 3, complex(-3, 4))}, []int64{0, 2}},
		{[]impl.Link{link(0, 1, 4), link(3, 0, complex(-3, 4)), link(2, 0, 5)}, []int64{0, 3}},
		{[]impl.Link{link(1, 0, 0), link(3, 0, 0)}, []int64{0, 1}}, {[]impl.Link{link(3, 0, 0), link(1, 0, 0)}, []int64{0, 3}},
		// the strongest one of all leads back, and another one of the same grains is weak
		{[]impl.Link{link(0, 4, 9), link(0, 2, 1), link(1, 0, 2), link(0, 2, 1)}, []int64{0, 1}},
		{[]impl.Link{link(0, 2, 1), link(1, 0, 2), link(0, 2, 3), link(2, 0, 1)}, []int64{0, 2}},
		{[]impl.Link{link(0, 2, complex(number(1), 0)), link(1, 0, complex(number(2), 0))}, []int64{0, 1}},
		// strengths that are not finite are the greatest ones
		{[]impl.Link{link(0, 1, math.MaxFloat32), link(0, 2, complex(3e38, 3e38)), link(0, 3, complex(-3.1e38, 3e38))}, []int64{0, 2}},
		{[]impl.Link{link(0, 1, complex(3e38, 3e38)), link(0, 2, math.MaxFloat32)}, []int64{0, 1}},
	} {
		gives(t, "ChainFrom", c.want)(impl.ChainFrom(h, c.list, 0, 1))
	}
	// On the side, and the way counts, not how far the grain is.
	gives(t, "ChainFrom up", []int64{0, 1})(impl.ChainFrom(h, []impl.Link{link(0, 2, 9), link(0, 1, 1), link(0, 3, 9), link(0, 4, 9)}, 0, complex(0, 2)))
	gives(t, "ChainFrom over several", []int64{4, 0, 2, 3, 1})(
		impl.ChainFrom(h, []impl.Link{link(0, 4, 1), link(0, 2, 2), link(1, 3, 1), link(0, 1, 1), link(2, 3, 5), link(2, 1, 4)}, 4, complex(1, 0.1)))
}

func TestChainFromFails(t *testing.T) {
	h := heapWith(disc(0, 1), disc(2, 1), disc(2, 2), disc(-2, 1))
	fails(t, "ChainFrom to a grain at one place")(impl.ChainFrom(h, links(0, 1, 1, 2), 0, 1))
	fails(t, "ChainFrom at one place")(impl.ChainFrom(h, links(2, 1), 1, 0))
	// Only links that are asked must have a way.
	gives(t, "ChainFrom that does not come there", []int64{0})(impl.ChainFrom(h, links(0, 1, 1, 2), 0, -1))
	gives(t, "ChainFrom beside", []int64{3, 0})(impl.ChainFrom(h, links(3, 0, 1, 2), 3, 1))
	for _, start := range wrongIndices(4) {
		fails(t, "ChainFrom a wrong grain")(impl.ChainFrom(h, links(0, 1), start, 1))
		fails(t, "ChainFrom a wrong grain without links")(impl.ChainFrom(h, nil, start, 1))
	}
	fails(t, "ChainFrom without grains")(impl.ChainFrom(impl.Heap{}, nil, 0, 1))
	for _, x := range notFinite() {
		fails(t, "ChainFrom in a wrong way")(impl.ChainFrom(h, links(0, 1), 0, complex(x, 0)))
		fails(t, "ChainFrom in a wrong way")(impl.ChainFrom(h, nil, 0, complex(0, x)))
	}
	fails(t, "ChainFrom grains too far apart")(impl.ChainFrom(heapWith(disc(-2e38, 1), disc(2e38, 1)), links(0, 1), 0, 1))
}

// turningHeaps returns heaps with three grains, nearly on one line, each of
// which lies ahead of the one before on this way, and the first one ahead of
// the last one too, as all numbers are rounded.
func turningHeaps() (heaps []impl.Heap, ways []complex64) {
	source := rand.New(rand.NewSource(44))
	for len(heaps) < 20 {
		line := impl.PhasorOf(source.Float64())
		way := complex(-imag(line), real(line))
		h := impl.Heap{}
		for range 3 {
			h.Grains = append(h.Grains, disc(scale32(line, someNumber(source, 3)), 1))
		}
		turns := true
		for i := range int64(3) {
			ahead, ok := referenceAhead(h, i, (i+1)%3, way)
			turns = turns && ok && ahead > 0
		}
		if turns {
			heaps, ways = append(heaps, h), append(ways, way)
		}
	}
	return heaps, ways
}

func TestChainsThatComeBack(t *testing.T) {
	heaps, ways := turningHeaps()
	for n, h := range heaps {
		way := ways[n]
		gives(t, "ChainFrom that comes back", []int64{0, 1, 2})(impl.ChainFrom(h, links(0, 1, 1, 2, 2, 0), 0, way))
		gives(t, "ChainFrom that comes back", []int64{2, 0, 1})(impl.ChainFrom(h, links(0, 1, 1, 2, 2, 0), 2, way))
		// The strongest link leads to a grain of the chain, and the weaker one goes on.
		end := h.Grains[2]
		end.At = addComplex32(end.At, scale32(way, 3))
		h.Grains = append(h.Grains, end)
		list := []impl.Link{link(0, 1, 1), link(1, 2, 1), link(2, 0, 9), link(2, 3, 1)}
		gives(t, "ChainFrom that goes on", []int64{0, 1, 2, 3})(impl.ChainFrom(h, list, 0, way))
		// A grain at the place of the first one is another one.
		h.Grains[3].At = h.Grains[0].At
		gives(t, "ChainFrom to the place of its beginning", []int64{0, 1, 2, 3})(impl.ChainFrom(h, links(0, 1, 1, 2, 2, 3, 3, 1), 0, way))
		fails(t, "ChainFrom on from the place of another one")(impl.ChainFrom(h, links(1, 2, 2, 3, 3, 0), 1, way))
	}
	h := heap(t, "RowOfGrains")(impl.RowOfGrains(3, 1, 0, 1))
	gives(t, "ChainFrom with links back", []int64{0, 1, 2})(impl.ChainFrom(h, links(0, 1, 1, 0, 1, 2, 2, 1, 2, 0), 0, 1))
}

func TestBinsOfPushes(t *testing.T) {
	// The strengths are 0, 1, 2, 5, 5 and 8.
	list := []impl.Link{link(0, 1, 0), link(0, 1, -1), link(5, 5, complex(0, 2)), link(-9, 1<<40, complex(3, -4)), link(1, 0, complex(-4, 3)), link(0, 0, 8)}
	for _, c := range []struct {
		width float32
		want  []int64
	}{
		{1, []int64{1, 1, 1, 0, 0, 2}}, {1, []int64{1, 1, 1, 0, 0, 2, 0, 0, 1}}, {1, []int64{1}}, {2, []int64{2, 1, 2, 0, 1}}, {2.5, []int64{3, 0, 2, 1}},
		{8, []int64{5, 1}}, {8, []int64{5}}, {number(0x41000001), []int64{6}}, {5, []int64{3, 3}}, {number(0x40a00001), []int64{5, 1}}, {number(0x409fffff), []int64{3, 3}},
		{0.5, []int64{1, 0, 1, 0, 1, 0, 0, 0, 0, 0, 2, 0, 0, 0, 0, 0}}, {math.MaxFloat32, []int64{6, 0, 0, 0, 0, 0, 0, 0, 0, 0, 0, 0, 0, 0, 0, 0}},
		{number(1), []int64{1, 0, 0}}, {1e-38, []int64{1, 0}},
	} {
		gives(t, "BinsOfPushes", c.want)(impl.BinsOfPushes(list, c.width, int64(len(c.want))))
		gives(t, "BinsOfPushes of none", make([]int64, len(c.want)))(impl.BinsOfPushes(nil, c.width, int64(len(c.want))))
	}
	// What is beyond, and not-a-numbers, are left out.
	odd := []impl.Link{link(0, 1, complex(inf(1), 0)), link(0, 1, complex(0, inf(-1))), link(0, 1, complex(nan(), 0)), link(0, 1, complex(0, nan())),
		link(0, 1, complex(inf(1), nan())), link(0, 1, complex(3e38, 3e38)), link(0, 1, 15.5), link(0, 1, 16), link(0, 1, 3e38)}
	want := repeated(int64(0), impl.MaxView)
	want[15] = 1
	gives(t, "BinsOfPushes of odd ones", want)(impl.BinsOfPushes(odd, 1, impl.MaxView))
	gives(t, "BinsOfPushes of wide bins", []int64{3})(impl.BinsOfPushes(odd, math.MaxFloat32, 1))
	// The quotient is rounded: this strength is less than 5 widths.
	gives(t, "BinsOfPushes of a quotient that is rounded", []int64{0, 0, 0, 0, 0, 1})(impl.BinsOfPushes([]impl.Link{link(0, 1, complex(number(0x40a00001), 0))}, number(0x3f800001), 6))
	for _, width := range notPositive() {
		fails(t, "BinsOfPushes of a wrong width")(impl.BinsOfPushes(list, width, 3))
		fails(t, "BinsOfPushes of none of a wrong width")(impl.BinsOfPushes(nil, width, 3))
	}
	for _, count := range notViewSizes() {
		fails(t, "BinsOfPushes with a wrong count")(impl.BinsOfPushes(list, 1, count))
		fails(t, "BinsOfPushes of none with a wrong count")(impl.BinsOfPushes(nil, 1, count))
	}
}

func TestStressOfManyHeaps(t *testing.T) {
	source := rand.New(rand.NewSource(45))
	succeeded, long := 0, 0
	for _, b := range someBounds() {
		area := float32(0.01 + 9*source.Float64())
		stress := referenceStress(b, area)
		expectFinite(t, "StressOf", isFinite(stress...), stress)(impl.StressOf(b.heap, b.links, area))
		if greatest, least, turn := referenceAxes(stress); isFinite(greatest, least, turn) && isFinite(stress...) {
			gives(t, "AxesOfStress", greatest, least, turn)(impl.AxesOfStress(stress))
			succeeded++
		} else {
			fails(t, "AxesOfStress")(impl.AxesOfStress(stress))
		}
		fabric, ok := referenceFabric(b)
		expectFinite(t, "FabricOf", ok, fabric)(impl.FabricOf(b.heap, b.links))
		islands, count := referenceIslands(b)
		gives(t, "IslandsOf", islands, count)(impl.IslandsOf(b.heap, b.links))
		for start := range b.heap.Grains {
			way := somePoint(source, 2)
			chain, ok := referenceChain(b, int64(start), way)
			expectFinite(t, "ChainFrom", ok, chain)(impl.ChainFrom(b.heap, b.links, int64(start), way))
			if len(chain) > 4 {
				long++
			}
		}
		for _, count := range []int64{1, 5, impl.MaxView} {
			width := float32(0.05 + source.Float64())
			gives(t, "BinsOfPushes", referenceBins(b.links, width, count))(impl.BinsOfPushes(b.links, width, count))
		}
	}
	check(t, "many heaps have axes, and many chains are long", []bool{succeeded > 300, long > 100}, "[true true]")
}

func TestBinsOfManyStrengths(t *testing.T) {
	source := rand.New(rand.NewSource(46))
	for range 300 {
		width := float32(0.1 + source.Float64())
		list := []impl.Link{}
		for len(list) < impl.MaxLinks {
			// Many strengths lie at the edges of bins, or just beside them.
			edge := math.Float32bits(mul32(width, float32(source.Intn(18))))
			list = append(list, link(0, 1, complex(number(edge+uint32(source.Intn(2))), 0)))
		}
		gives(t, "BinsOfPushes", referenceBins(list, width, impl.MaxView))(impl.BinsOfPushes(list, width, impl.MaxView))
	}
}
