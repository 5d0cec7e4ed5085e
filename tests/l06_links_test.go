package tests

import (
	"math"
	"math/rand"
	"testing"

	"loop.example/g01268/impl"
)

func TestAreLinks(t *testing.T) {
	check(t, "the limits", []int{impl.MaxLinks, impl.MaxView}, "[64 16]")
	for count := range impl.MaxGrains + 1 {
		h := fullHeap(count)
		check(t, "no links", impl.AreLinks(h, nil), true)
		check(t, "no links", impl.AreLinks(h, []impl.Link{}), true)
		check(t, "a link of a grain that is not there", impl.AreLinks(h, links(0, int64(max(count, 1)))), false)
		if count >= 3 {
			for _, most := range []int{1, 2, impl.MaxLinks} {
				check(t, "links", impl.AreLinks(h, ringLinks(count, most)), true)
			}
			for _, list := range wrongLinkLists(int64(count)) {
				check(t, "wrong links: "+told(list), impl.AreLinks(h, list), false)
			}
		}
	}
	h := fullHeap(impl.MaxGrains)
	check(t, "links of the last grains", impl.AreLinks(h, links(22, 23, 23, 22, 0, 23)), true)
	check(t, "links in any order, twice and back", impl.AreLinks(h, links(5, 4, 1, 2, 1, 2, 2, 1, 0, 7)), true)
	check(t, "one link more than MaxLinks", impl.AreLinks(h, ringLinks(24, impl.MaxLinks+1)), false)
	for _, x := range []float32{0, negativeZero(), number(1), 1, math.MaxFloat32, -math.MaxFloat32} {
		check(t, "a link with any Push", impl.AreLinks(h, []impl.Link{link(0, 1, complex(x, -x)), link(3, 2, complex(0, x))}), true)
	}
	for _, bad := range invalidHeaps() {
		check(t, "no links of a wrong heap", impl.AreLinks(bad, nil), false)
		check(t, "links of a wrong heap", impl.AreLinks(bad, links(0, 1)), false)
	}
}

func TestSameLinks(t *testing.T) {
	check(t, "no links are the same", impl.SameLinks(nil, []impl.Link{}), true)
	list := []impl.Link{link(0, 1, 0), link(0, 1, complex(negativeZero(), 0)), link(0, 1, complex(0, negativeZero())), link(1, 0, 0), link(0, 2, 0), link(2, 1, 0),
		link(0, 1, 1), link(0, 1, complex(0, 1)), link(0, 1, complex(number(1), 0)), link(7, 7, complex(nan(), 0)), link(7, 7, complex(0, nan())),
		link(7, 7, complex(inf(1), 0)), link(7, 7, complex(inf(-1), 0)), link(7, 7, complex(0, inf(-1))), link(math.MaxInt64, math.MinInt64, 0), link(0, 1+1<<32, 0)}
	for i, a := range list {
		check(t, "links and less of them", impl.SameLinks(list[:i], list[:i+1]), false)
		check(t, "links and more of them", impl.SameLinks(list[:i+1], list[:i]), false)
		for k, b := range list {
			check(t, "one link", impl.SameLinks([]impl.Link{a}, []impl.Link{b}), i == k)
			check(t, "the last link", impl.SameLinks([]impl.Link{b, b, a}, []impl.Link{b, b, b}), i == k)
			check(t, "the first link", impl.SameLinks([]impl.Link{a, b}, []impl.Link{b, b}), i == k)
		}
	}
	odd := number(0xff800001)
	check(t, "not-a-numbers", impl.SameLinks([]impl.Link{link(0, 1, complex(nan(), odd))}, []impl.Link{link(0, 1, complex(odd, nan()))}), true)
	check(t, "many links", impl.SameLinks(repeated(link(3, 3, complex(nan(), 1)), 1000), repeated(link(3, 3, complex(nan(), 1)), 1000)), true)
}

func TestLinksOf(t *testing.T) {
	row := heap(t, "RowOfGrains")(impl.RowOfGrains(3, 1, -0.5, 1))
	row.Grains[0].Held, row.Grains[1].Held = true, true
	for _, c := range []struct{ stiff, want float32 }{{4, 2}, {1, 0.5}, {number(2), number(1)}, {0, 0}, {negativeZero(), negativeZero()}, {6e38 / 2, 1.5e38}} {
		push := complex(c.want, mul32(c.want, 0))
		gives(t, "LinksOf", []impl.Link{link(0, 1, push), link(1, 2, push)})(impl.LinksOf(row, c.stiff))
		gives(t, "LinksOf no grains", links())(impl.LinksOf(impl.Heap{}, c.stiff))
		gives(t, "LinksOf one grain", links())(impl.LinksOf(lone(3), c.stiff))
	}
	// The first one pushes the second one away from it, and pairs are in order.
	h := heapWith(disc(complex(0, 3), 2), disc(complex(8, 0), 1), disc(0, 2), disc(complex(-1.5, 0), 1))
	gives(t, "LinksOf", []impl.Link{link(0, 2, complex(0, -3)), link(2, 3, complex(-4.5, 0))})(impl.LinksOf(h, 3))
	gives(t, "LinksOf without stiff", []impl.Link{link(0, 2, complex(0, negativeZero())), link(2, 3, complex(negativeZero(), 0))})(impl.LinksOf(h, 0))
	// Grains that only just touch have no link; others behind them have.
	between := heapWith(disc(0, 1), disc(2, 1), disc(complex(0, 1), 1), disc(complex(2, 1), 1))
	gives(t, "LinksOf grains that touch and others", []impl.Link{link(0, 2, complex(0, 1)), link(1, 3, complex(0, 1))})(impl.LinksOf(between, 1))
	for _, c := range []struct {
		gap  float32
		want int
	}{{0, 0}, {number(0x35000000), 0}, {number(0xb5000000), 1}, {-1.75, 1}, {5, 0}} {
		list, ok := impl.LinksOf(facing(c.gap, 0), 1)
		check(t, "LinksOf two grains", []any{len(list), ok}, []any{c.want, true})
	}
}

func TestLinksOfFails(t *testing.T) {
	for _, at := range []complex64{0, complex(1, -2)} {
		same := heapWith(disc(5, 1), disc(at, 1), held(disc(at, 2)))
		for _, stiff := range []float32{0, negativeZero(), 1} {
			fails(t, "LinksOf grains at one place")(impl.LinksOf(same, stiff))
		}
	}
	for _, h := range []impl.Heap{{}, lone(0), facing(-1, 0), facing(1, 0)} {
		for _, stiff := range wrongStiffs() {
			fails(t, "LinksOf with a wrong stiff")(impl.LinksOf(h, stiff))
		}
	}
	wide := heapWith(disc(0, 1e20), disc(1, 1e20))
	fails(t, "LinksOf with a push that is too large")(impl.LinksOf(wide, 1e20))
	_, ok := impl.LinksOf(wide, 1e10)
	check(t, "LinksOf with a large push succeeds", ok, true)
	fails(t, "LinksOf grains too far apart")(impl.LinksOf(heapWith(disc(-2e38, 1), disc(2e38, 1)), 1))
	fails(t, "LinksOf grains that are too wide")(impl.LinksOf(heapWith(disc(0, 3e38), disc(2, 3e38)), 0))
	for _, bad := range invalidHeaps() {
		fails(t, "LinksOf a wrong heap")(impl.LinksOf(bad, 1))
	}
}

func TestMaxLinks(t *testing.T) {
	full := clusters(11, 4, 3)
	// Pairs that touch, but do not overlap, are no links.
	full.Grains = append(full.Grains, disc(1000, 1), disc(1002, 1))
	list, ok := impl.LinksOf(full, 1)
	check(t, "MaxLinks links", []any{len(list), ok}, "[64 true]")
	want, _ := referenceLinks(full, 1)
	check(t, "LinksOf", told(list), told(want))
	for _, h := range []impl.Heap{clusters(11, 5), clusters(12), clusters(24)} {
		fails(t, "LinksOf too many")(impl.LinksOf(h, 1))
		fails(t, "LinksOf too many without stiff")(impl.LinksOf(h, 0))
	}
	back, ok := impl.BackLinks(list)
	check(t, "BackLinks of MaxLinks links", []any{len(back), ok}, "[64 true]")
	bins, ok := impl.BinsOfPushes(list, 100, 1)
	check(t, "BinsOfPushes of MaxLinks links", []any{bins, ok}, "[[64] true]")
	for _, most := range []int{impl.MaxLinks + 1, 1000} {
		fails(t, "BackLinks of more links")(impl.BackLinks(repeated(link(0, 1, 1), most)))
		fails(t, "BackLinks of more that are no links")(impl.BackLinks(repeated(impl.Link{}, most)))
		fails(t, "BinsOfPushes of more links")(impl.BinsOfPushes(repeated(link(0, 1, 1), most), 1, 1))
		failsForLinks(t, fullHeap(24), ringLinks(24, most))
	}
}

func TestBackLinks(t *testing.T) {
	gives(t, "BackLinks of none", links())(impl.BackLinks(nil))
	gives(t, "BackLinks of none", links())(impl.BackLinks([]impl.Link{}))
	// All links are taken, also what are no links of any heap.
	list := []impl.Link{link(0, 1, complex(1, -2)), link(1, 0, complex(-3, 4)), link(0, 1, complex(1, -2)), link(5, 5, 0), link(-7, math.MaxInt64, complex(0, negativeZero())),
		link(math.MinInt64, 3, complex(inf(1), inf(-1))), link(24, 25, complex(math.MaxFloat32, number(1)))}
	back := []impl.Link{link(1, 0, complex(-1, 2)), link(0, 1, complex(3, -4)), link(1, 0, complex(-1, 2)), link(5, 5, complex(negativeZero(), negativeZero())),
		link(math.MaxInt64, -7, complex(negativeZero(), 0)), link(3, math.MinInt64, complex(inf(-1), inf(1))), link(25, 24, complex(-math.MaxFloat32, number(0x80000001)))}
	gives(t, "BackLinks", back)(impl.BackLinks(list))
	gives(t, "BackLinks back", list)(impl.BackLinks(back))
	odd, ok := impl.BackLinks([]impl.Link{link(1, 2, complex(nan(), 5))})
	check(t, "BackLinks of a not-a-number", []any{impl.SameLinks(odd, []impl.Link{link(2, 1, complex(nan(), -5))}), ok}, "[true true]")
}

func TestStrongLinks(t *testing.T) {
	h := fullHeap(5)
	// The strengths are 5, 0, 1, 5, 0, and one that is no finite number.
	list := []impl.Link{link(0, 1, complex(3, -4)), link(0, 2, 0), link(4, 1, complex(0, -1)), link(1, 0, complex(-4, 3)),
		link(0, 1, complex(negativeZero(), negativeZero())), link(2, 3, complex(3e38, 3e38))}
	for _, c := range []struct {
		least float32
		want  []impl.Link
	}{
		{0, list}, {negativeZero(), list}, {-1, list}, {inf(-1), list}, {number(1), []impl.Link{list[0], list[2], list[3], list[5]}},
		{1, []impl.Link{list[0], list[2], list[3], list[5]}}, {number(0x3f800001), []impl.Link{list[0], list[3], list[5]}},
		{5, []impl.Link{list[0], list[3], list[5]}}, {number(0x40a00001), list[5:]}, {math.MaxFloat32, list[5:]}, {inf(1), list[5:]}, {nan(), links()},
	} {
		gives(t, "StrongLinks", c.want)(impl.StrongLinks(h, list, c.least))
		gives(t, "StrongLinks of none", links())(impl.StrongLinks(h, nil, c.least))
		gives(t, "StrongLinks without grains", links())(impl.StrongLinks(impl.Heap{}, nil, c.least))
	}
	for _, b := range someBounds() {
		want := []impl.Link{}
		for _, l := range b.links {
			if long32(l.Push) >= 1.5 {
				want = append(want, l)
			}
		}
		gives(t, "StrongLinks", want)(impl.StrongLinks(b.heap, b.links, 1.5))
	}
}

func TestCountsOfLinks(t *testing.T) {
	h := fullHeap(5)
	list := links(0, 1, 1, 0, 0, 1, 3, 1)
	gives(t, "CountsOfLinks", []int64{3, 4, 0, 1, 0})(impl.CountsOfLinks(h, list))
	gives(t, "CountsOfLinks of none", []int64{0, 0, 0, 0, 0})(impl.CountsOfLinks(h, nil))
	gives(t, "CountsOfLinks without grains", []int64{})(impl.CountsOfLinks(impl.Heap{}, nil))
	gives(t, "CountsOfLinks of MaxLinks links", []int64{64, 64})(impl.CountsOfLinks(fullHeap(2), repeated(link(1, 0, 0), impl.MaxLinks)))
	for _, c := range []struct {
		least int64
		want  []int64
	}{
		{0, []int64{}}, {1, []int64{2, 4}}, {2, []int64{2, 3, 4}}, {3, []int64{2, 3, 4}}, {4, []int64{0, 2, 3, 4}}, {5, []int64{0, 1, 2, 3, 4}}, {impl.MaxLinks, []int64{0, 1, 2, 3, 4}},
	} {
		gives(t, "LooseGrains", c.want)(impl.LooseGrains(h, list, c.least))
		gives(t, "LooseGrains without grains", []int64{})(impl.LooseGrains(impl.Heap{}, nil, c.least))
	}
	bound := repeated(link(1, 0, 0), impl.MaxLinks)
	gives(t, "LooseGrains of MaxLinks links", []int64{2})(impl.LooseGrains(fullHeap(3), bound, impl.MaxLinks))
	gives(t, "LooseGrains of less", []int64{0, 1, 2})(impl.LooseGrains(fullHeap(3), bound[1:], impl.MaxLinks))
	gives(t, "LooseGrains without links", []int64{0, 1, 2})(impl.LooseGrains(fullHeap(3), nil, 1))
	gives(t, "LooseGrains without links and a least of 0", []int64{})(impl.LooseGrains(fullHeap(3), nil, 0))
	for _, least := range []int64{-1, impl.MaxLinks + 1, math.MinInt64, math.MaxInt64, 1 << 32} {
		fails(t, "LooseGrains with a wrong least")(impl.LooseGrains(h, list, least))
		fails(t, "LooseGrains without grains with a wrong least")(impl.LooseGrains(impl.Heap{}, nil, least))
	}
}

func TestLinksOfManyHeaps(t *testing.T) {
	source := rand.New(rand.NewSource(42))
	found := 0
	for _, b := range someBounds() {
		for _, stiff := range []float32{0, float32(10 * source.Float64()), 1e30} {
			want, ok := referenceLinks(b.heap, stiff)
			expectFinite(t, "LinksOf", ok, want)(impl.LinksOf(b.heap, stiff))
			found += len(want)
		}
		counts := referenceCounts(b)
		gives(t, "CountsOfLinks", counts)(impl.CountsOfLinks(b.heap, b.links))
		least := int64(source.Intn(8))
		loose := []int64{}
		for i, count := range counts {
			if count < least {
				loose = append(loose, int64(i))
			}
		}
		gives(t, "LooseGrains", loose)(impl.LooseGrains(b.heap, b.links, least))
	}
	check(t, "many grains are linked", found > 2000, true)
}

// failsForLinks checks all functions with a heap and links.
func failsForLinks(t *testing.T, h impl.Heap, list []impl.Link) {
	t.Helper()
	fails(t, "StrongLinks")(impl.StrongLinks(h, list, 0))
	fails(t, "CountsOfLinks")(impl.CountsOfLinks(h, list))
	fails(t, "LooseGrains")(impl.LooseGrains(h, list, 1))
	fails(t, "ForcesOfLinks")(impl.ForcesOfLinks(h, list, 0))
	fails(t, "WorstOff")(impl.WorstOff(h, list, 0))
	fails(t, "PressuresOf")(impl.PressuresOf(h, list))
	fails(t, "StressOf")(impl.StressOf(h, list, 1))
	fails(t, "FabricOf")(impl.FabricOf(h, list))
	fails(t, "IslandsOf")(impl.IslandsOf(h, list))
	fails(t, "ChainFrom")(impl.ChainFrom(h, list, 0, 1))
}

func TestWrongLinks(t *testing.T) {
	h := heapWith(disc(0, 1), disc(1, 1), disc(2, 1))
	for _, list := range wrongLinkLists(3) {
		failsForLinks(t, h, list)
	}
	for _, bad := range invalidHeaps() {
		failsForLinks(t, bad, nil)
		failsForLinks(t, bad, links(0, 1))
	}
	for _, list := range [][]impl.Link{links(0, 1), {{}}} {
		failsForLinks(t, impl.Heap{}, list)
		failsForLinks(t, fullHeap(1), list)
	}
}
