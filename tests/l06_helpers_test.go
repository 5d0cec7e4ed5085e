package tests

import (
	"math"
	"math/rand"

	"loop.example/g01268/impl"
)

func link(a, b int64, push complex64) impl.Link {
	return impl.Link{A: a, B: b, Push: push}
}

// links returns links with these grains, two for each one, and the Push 1.
func links(grains ...int64) []impl.Link {
	list := []impl.Link{}
	for n := 0; n < len(grains); n += 2 {
		list = append(list, link(grains[n], grains[n+1], 1))
	}
	return list
}

// ringLinks returns count links, each from a grain to a later one, or back to
// an earlier one, all around.
func ringLinks(grains, count int) []impl.Link {
	list := []impl.Link{}
	for n := range count {
		a, b := int64(n%grains), int64((n+1+n/grains%(grains-1))%grains)
		list = append(list, link(a, b, complex(float32(n)/4, float32(a-b))))
	}
	return list
}

// wrongLinks returns links that are none of a heap with count grains, 3 or more.
func wrongLinks(count int64) []impl.Link {
	list := links(0, 0, 1, 1, count-1, count-1, -1, -2, count, count+1)
	for _, i := range wrongIndices(count) {
		list = append(list, links(0, i, i, 1, i, i)...)
	}
	for _, x := range append(notFinite(), number(0xff800001)) {
		list = append(list, link(0, 1, complex(x, 0)), link(1, 0, complex(0, x)), link(0, 2, complex(x, x)))
	}
	return list
}

// wrongLinkLists returns lists that are no links of a heap with count grains,
// 3 or more.
func wrongLinkLists(count int64) [][]impl.Link {
	lists := [][]impl.Link{
		ringLinks(int(count), impl.MaxLinks+1), repeated(link(0, 1, 0), impl.MaxLinks+1), repeated(link(0, 1, 0), 100000), repeated(impl.Link{}, 3),
	}
	for _, l := range wrongLinks(count) {
		lists = append(lists, []impl.Link{l}, []impl.Link{link(0, 1, 0), l}, []impl.Link{l, link(1, 0, 0)}, append(links(0, 1, 1, 2, 2, 0), l))
	}
	return lists
}

// notPositive returns numbers that are not finite and greater than 0.
func notPositive() []float32 {
	return append(notFinite(), 0, negativeZero(), -1, number(0x80000001), -math.MaxFloat32)
}

// notViewSizes returns numbers of bins, columns or cells that there cannot be.
func notViewSizes() []int64 {
	return []int64{0, -1, -3, impl.MaxView + 1, 256, 1 << 32, math.MinInt64, math.MaxInt64}
}

func view(wide, high int64, values ...float32) impl.View {
	return impl.View{Wide: wide, High: high, Values: values}
}

// row returns a view that has one row.
func row(values ...float32) impl.View {
	return view(int64(len(values)), 1, values...)
}

// evenView returns a view all of whose values are the same.
func evenView(wide, high int64, value float32) impl.View {
	return view(wide, high, repeated(value, int(wide*high))...)
}

// invalidViews returns views with a wrong size, or a number that is not finite.
func invalidViews() []impl.View {
	list := []impl.View{
		{}, {Wide: 1, High: 1}, row(), view(1, 1, 1, 2), view(2, 2, 1, 2, 3), view(2, 2, 1, 2, 3, 4, 5), view(3, 1, 1, 2), view(1, 3, 1, 2),
		view(-1, -1, 1), view(-2, -2, 1, 2, 3, 4), view(-1, 1, 1), view(0, 1), view(1, 0), view(0, 0), view(0, 1, 1), view(1, 0, 1),
		evenView(17, 1, 0), evenView(1, 17, 0), evenView(17, 16, 0), evenView(16, 17, 0), evenView(256, 1, 0), evenView(1, 256, 0), evenView(100, 100, 0),
		{Wide: 1 << 32, High: 1 << 32}, {Wide: math.MinInt64, High: 2}, {Wide: math.MaxInt64, High: math.MaxInt64, Values: []float32{1}},
	}
	for _, x := range append(notFinite(), number(0xff800001)) {
		list = append(list, row(x), row(1, x), row(x, 1), view(2, 2, 1, 2, 3, x), view(2, 2, 1, x, 3, 4))
	}
	return list
}

// someLinks returns links of any grains, some of which are there twice, or
// back.
func someLinks(source *rand.Rand, h impl.Heap, most int) []impl.Link {
	list, count := []impl.Link{}, len(h.Grains)
	for len(list) < most && count > 1 {
		a, b := int64(source.Intn(count)), int64(source.Intn(count))
		if a == b {
			continue
		}
		list = append(list, link(a, b, somePoint(source, 2)))
		if source.Intn(4) == 0 && len(list) < most {
			list = append(list, link(b, a, list[source.Intn(len(list))].Push))
		}
	}
	return list
}

// bound is a heap with links.
type bound struct {
	heap  impl.Heap
	links []impl.Link
}

// someBounds returns heaps of all counts with links, always the same ones.
func someBounds() []bound {
	source := rand.New(rand.NewSource(41))
	list := []bound{}
	for count := range impl.MaxGrains + 1 {
		for _, size := range []float64{0.1, 0.7, 1.5, 3, 5, 8, 1e6, 1e18, 1e38} {
			h := someHeap(source, count, size)
			list = append(list, bound{h, someLinks(source, h, source.Intn(impl.MaxLinks+1))})
			if found, ok := referenceLinks(h, 8); ok {
				list = append(list, bound{h, found})
			}
		}
		// Some grains are at one place.
		h := someHeap(source, count, 2)
		for i := range h.Grains {
			h.Grains[i].At = h.Grains[source.Intn(i+1)].At
		}
		list = append(list, bound{h, someLinks(source, h, source.Intn(8))})
	}
	h := someHeap(source, impl.MaxGrains, 4)
	list = append(list, bound{h, someLinks(source, h, impl.MaxLinks)}, bound{h, ringLinks(24, impl.MaxLinks)})
	for _, scale := range []float32{1e19, 1e30, 1e38} {
		large := someLinks(source, h, 20)
		for n := range large {
			large[n].Push = scale32(large[n].Push, scale)
			if !isFiniteComplex(large[n].Push) {
				large[n].Push = complex(math.MaxFloat32, -math.MaxFloat32)
			}
		}
		list = append(list, bound{h, large})
	}
	return list
}

// someView returns a view with values from -1 to 4, some of which are equal.
func someView(source *rand.Rand, wide, high int64) impl.View {
	v := evenView(wide, high, 0)
	for n := range v.Values {
		v.Values[n] = float32(source.Intn(6)-1) + float32(source.Intn(2))*float32(source.Float64())
	}
	return v
}
