package tests

import (
	"math"
	"testing"

	"loop.example/g01268/impl"
)

func TestAreKnocks(t *testing.T) {
	check(t, "the limits", []int{impl.MaxKnocks, impl.MaxRounds}, "[72 24]")
	for count := range impl.MaxGrains + 1 {
		h := fullHeap(count)
		check(t, "no knocks", impl.AreKnocks(h, nil), true)
		check(t, "no knocks", impl.AreKnocks(h, []impl.Knock{}), true)
		check(t, "knocks", impl.AreKnocks(h, pairKnocks(count, impl.MaxKnocks)), true)
		check(t, "knocks of a grain that is not there", impl.AreKnocks(h, knocks(0, int64(max(count, 1)))), false)
		if count >= 3 {
			for _, list := range wrongKnockLists(int64(count)) {
				check(t, "wrong knocks: "+told(list), impl.AreKnocks(h, list), false)
			}
		}
	}
	h := fullHeap(impl.MaxGrains)
	check(t, "the last knock", impl.AreKnocks(h, knocks(22, 23)), true)
	check(t, "knocks in order", impl.AreKnocks(h, knocks(0, 1, 0, 23, 1, 2, 1, 3, 22, 23)), true)
	check(t, "knocks that are not in order", impl.AreKnocks(h, knocks(0, 1, 0, 23, 1, 3, 1, 2, 22, 23)), false)
	check(t, "twice the same grains", impl.AreKnocks(h, knocks(0, 1, 0, 23, 0, 23)), false)
	check(t, "one knock more than MaxKnocks", impl.AreKnocks(h, pairKnocks(24, impl.MaxKnocks+1)), false)
	check(t, "all knocks", impl.AreKnocks(h, pairKnocks(24, 1000)), false)
	for _, x := range []float32{0, negativeZero(), number(1), 1, math.MaxFloat32} {
		check(t, "a knock with any Push", impl.AreKnocks(h, []impl.Knock{knock(0, 1, x, 0), knock(3, 4, x, 0)}), true)
		check(t, "a knock with any Rub", impl.AreKnocks(h, []impl.Knock{knock(0, 1, 0, x), knock(3, 4, 0, -x)}), true)
	}
	for _, bad := range invalidHeaps() {
		check(t, "no knocks of a wrong heap", impl.AreKnocks(bad, nil), false)
		check(t, "knocks of a wrong heap", impl.AreKnocks(bad, knocks(0, 1)), false)
	}
}

func TestSameKnocks(t *testing.T) {
	check(t, "no knocks are the same", impl.SameKnocks(nil, []impl.Knock{}), true)
	list := []impl.Knock{knock(0, 1, 0, 0), knock(0, 1, negativeZero(), 0), knock(0, 1, 0, negativeZero()), knock(1, 0, 0, 0), knock(0, 2, 0, 0),
		knock(0, 1, 1, 0), knock(0, 1, 0, 1), knock(0, 1, number(1), 0), knock(-5, 77, nan(), 0), knock(-5, 77, 0, nan()), knock(-5, 77, inf(1), 0),
		knock(-5, 77, inf(-1), 0), knock(-5, 77, 0, inf(-1)), knock(math.MaxInt64, math.MinInt64, 0, 0), knock(0, 1+1<<32, 0, 0)}
	for i, a := range list {
		check(t, "knocks and less of them", impl.SameKnocks(list[:i], list[:i+1]), false)
		check(t, "knocks and more of them", impl.SameKnocks(list[:i+1], list[:i]), false)
		for k, b := range list {
			check(t, "one knock", impl.SameKnocks([]impl.Knock{a}, []impl.Knock{b}), i == k)
			check(t, "the last knock", impl.SameKnocks([]impl.Knock{b, b, a}, []impl.Knock{b, b, b}), i == k)
			check(t, "the first knock", impl.SameKnocks([]impl.Knock{a, b}, []impl.Knock{b, b}), i == k)
		}
	}
	odd := number(0xff800001)
	check(t, "not-a-numbers", impl.SameKnocks([]impl.Knock{knock(0, 1, nan(), odd)}, []impl.Knock{knock(0, 1, odd, nan())}), true)
	many := repeated(knock(3, 2, inf(1), nan()), 1000)
	check(t, "many knocks", impl.SameKnocks(many, repeated(knock(3, 2, inf(1), nan()), 1000)), true)
}

func TestKnocksOf(t *testing.T) {
	row := heap(t, "RowOfGrains")(impl.RowOfGrains(4, 1, 0.5, 1))
	row.Grains[1].Held, row.Grains[2].Held = true, true
	for _, c := range []struct {
		near float32
		want []impl.Knock
	}{
		{0.5, knocks(0, 1, 1, 2, 2, 3)}, {1, knocks(0, 1, 1, 2, 2, 3)}, {3, knocks(0, 1, 0, 2, 1, 2, 1, 3, 2, 3)}, {math.MaxFloat32, knocks(0, 1, 0, 2, 0, 3, 1, 2, 1, 3, 2, 3)},
		{0, knocks()}, {negativeZero(), knocks()}, {-1, knocks()}, {number(0x3effffff), knocks()}, {-math.MaxFloat32, knocks()},
	} {
		gives(t, "KnocksOf", c.want)(impl.KnocksOf(row, c.near))
		gives(t, "KnocksOf no grains", knocks())(impl.KnocksOf(impl.Heap{}, c.near))
		gives(t, "KnocksOf one grain", knocks())(impl.KnocksOf(fullHeap(1), c.near))
	}
	close := heap(t, "RowOfGrains")(impl.RowOfGrains(3, 1, -0.5, 1))
	gives(t, "KnocksOf a near that is less than 0", knocks(0, 1, 1, 2))(impl.KnocksOf(close, -0.5))
	gives(t, "KnocksOf a near that is less", knocks())(impl.KnocksOf(close, number(0xbf000001)))
	gives(t, "KnocksOf grains at one place", knocks(0, 1))(impl.KnocksOf(heapWith(disc(1, 1), held(disc(1, 1))), 0))
	for _, x := range notFinite() {
		fails(t, "KnocksOf a near that is not finite")(impl.KnocksOf(row, x))
		fails(t, "KnocksOf no grains with a near that is not finite")(impl.KnocksOf(impl.Heap{}, x))
	}
	for _, bad := range invalidHeaps() {
		fails(t, "KnocksOf a wrong heap")(impl.KnocksOf(bad, 0))
	}
	fails(t, "KnocksOf grains too far apart")(impl.KnocksOf(heapWith(disc(-2e38, 1), disc(2e38, 1)), 0))
}

func TestMaxKnocks(t *testing.T) {
	full, over := clusterLimits()
	list, ok := impl.KnocksOf(full, 0)
	check(t, "MaxKnocks knocks", []any{len(list), ok}, "[72 true]")
	want, _ := referenceKnocks(full, 0)
	check(t, "KnocksOf", told(list), told(want))
	gives(t, "WarmKnocks of MaxKnocks knocks", list)(impl.WarmKnocks(full, list, 0, 1))
	for _, h := range []impl.Heap{over, clusters(13), clusters(24)} {
		fails(t, "KnocksOf too many")(impl.KnocksOf(h, 0))
		fails(t, "WarmKnocks of too many")(impl.WarmKnocks(h, nil, 0, 1))
		fails(t, "StepKnocks with too many")(impl.StepKnocks(h, nil, 0, 0, 0, 0, 1, 1))
		gives(t, "KnocksOf fewer", knocks())(impl.KnocksOf(h, -3))
	}
	for _, rounds := range []int64{0, 1} {
		_, solved, ok := impl.SolveKnocks(full, list, 0.5, 0.5, 1, rounds)
		check(t, "SolveKnocks of MaxKnocks knocks", []any{len(solved), ok}, "[72 true]")
		fails(t, "SolveKnocks of one more")(impl.SolveKnocks(clusters(24), pairKnocks(24, impl.MaxKnocks+1), 0.5, 0.5, 1, rounds))
	}
}

func TestWarmKnocks(t *testing.T) {
	row := heap(t, "RowOfGrains")(impl.RowOfGrains(5, 1, 0, 1))
	list := []impl.Knock{knock(0, 1, 2, -3), knock(0, 2, 9, 9), knock(2, 3, negativeZero(), negativeZero())}
	for _, c := range []struct {
		keep float32
		want []impl.Knock
	}{
		{1, []impl.Knock{knock(0, 1, 2, -3), knock(1, 2, 0, 0), knock(2, 3, negativeZero(), negativeZero()), knock(3, 4, 0, 0)}},
		{0.5, []impl.Knock{knock(0, 1, 1, -1.5), knock(1, 2, 0, 0), knock(2, 3, negativeZero(), negativeZero()), knock(3, 4, 0, 0)}},
		{0, []impl.Knock{knock(0, 1, 0, negativeZero()), knock(1, 2, 0, 0), knock(2, 3, negativeZero(), negativeZero()), knock(3, 4, 0, 0)}},
		{negativeZero(), []impl.Knock{knock(0, 1, negativeZero(), 0), knock(1, 2, 0, 0), knock(2, 3, 0, 0), knock(3, 4, 0, 0)}},
		{number(1), []impl.Knock{knock(0, 1, number(2), number(0x80000003)), knock(1, 2, 0, 0), knock(2, 3, negativeZero(), negativeZero()), knock(3, 4, 0, 0)}},
	} {
		gives(t, "WarmKnocks", c.want)(impl.WarmKnocks(row, list, 0, c.keep))
		gives(t, "WarmKnocks behind none", knocks(0, 1, 1, 2, 2, 3, 3, 4))(impl.WarmKnocks(row, nil, 0, c.keep))
		gives(t, "WarmKnocks of none", knocks())(impl.WarmKnocks(row, list, -1, c.keep))
		gives(t, "WarmKnocks without grains", knocks())(impl.WarmKnocks(impl.Heap{}, nil, 0, c.keep))
	}
	gives(t, "WarmKnocks of more", []impl.Knock{knock(0, 1, 2, -3), knock(0, 2, 9, 9), knock(1, 2, 0, 0), knock(1, 3, 0, 0), knock(2, 3, negativeZero(), negativeZero()), knock(2, 4, 0, 0), knock(3, 4, 0, 0)})(
		impl.WarmKnocks(row, list, 2, 1))
	large := []impl.Knock{knock(0, 1, math.MaxFloat32, -math.MaxFloat32)}
	gives(t, "WarmKnocks of large ones", append(large, knocks(1, 2, 2, 3, 3, 4)...))(impl.WarmKnocks(row, large, 0, 1))
	for _, keep := range notShares() {
		fails(t, "WarmKnocks with a wrong keep")(impl.WarmKnocks(row, list, 0, keep))
		fails(t, "WarmKnocks of nothing with a wrong keep")(impl.WarmKnocks(impl.Heap{}, nil, 0, keep))
	}
	for _, near := range notFinite() {
		fails(t, "WarmKnocks with a wrong near")(impl.WarmKnocks(row, list, near, 1))
		fails(t, "WarmKnocks of nothing with a wrong near")(impl.WarmKnocks(impl.Heap{}, nil, near, 1))
	}
	for _, c := range someCollisions() {
		for _, near := range []float32{-0.3, 0, 0.2, 5} {
			want, ok := referenceWarm(c.heap, c.list, near, 0.3)
			expectFinite(t, "WarmKnocks", ok, want)(impl.WarmKnocks(c.heap, c.list, near, 0.3))
			want, ok = referenceKnocks(c.heap, near)
			expectFinite(t, "KnocksOf", ok, want)(impl.KnocksOf(c.heap, near))
		}
	}
}

func TestStrongKnocks(t *testing.T) {
	h := fullHeap(5)
	list := []impl.Knock{knock(0, 1, 1, -9), knock(0, 2, 0, 9), knock(1, 2, 3, 0), knock(2, 4, negativeZero(), 1), knock(3, 4, 2, negativeZero())}
	for _, c := range []struct {
		least float32
		want  []impl.Knock
	}{
		{0, list}, {negativeZero(), list}, {-1, list}, {inf(-1), list}, {number(1), []impl.Knock{list[0], list[2], list[4]}},
		{1, []impl.Knock{list[0], list[2], list[4]}}, {number(0x3f800001), []impl.Knock{list[2], list[4]}},
		{3, list[2:3]}, {number(0x40400001), knocks()}, {inf(1), knocks()}, {nan(), knocks()},
	} {
		gives(t, "StrongKnocks", c.want)(impl.StrongKnocks(h, list, c.least))
		gives(t, "StrongKnocks of none", knocks())(impl.StrongKnocks(h, nil, c.least))
		gives(t, "StrongKnocks without grains", knocks())(impl.StrongKnocks(impl.Heap{}, nil, c.least))
	}
	gives(t, "StrongKnocks of large ones", []impl.Knock{knock(0, 1, math.MaxFloat32, 0)})(
		impl.StrongKnocks(h, []impl.Knock{knock(0, 1, math.MaxFloat32, 0)}, math.MaxFloat32))
}

// failsForKnocks checks all functions with a list of knocks.
func failsForKnocks(t *testing.T, h impl.Heap, list []impl.Knock) {
	t.Helper()
	fails(t, "WarmKnocks")(impl.WarmKnocks(h, list, 0, 1))
	fails(t, "StrongKnocks")(impl.StrongKnocks(h, list, 0))
	fails(t, "WarmHeap")(impl.WarmHeap(h, list))
	fails(t, "ColoursOfKnocks")(impl.ColoursOfKnocks(h, list))
	fails(t, "MissOfKnocks")(impl.MissOfKnocks(h, list, 0.5, 1))
	fails(t, "ConeMiss")(impl.ConeMiss(h, list, 0.5))
	fails(t, "PushesOnGrains")(impl.PushesOnGrains(h, list))
	for _, n := range []int64{0, 1} {
		fails(t, "SolveKnocks")(impl.SolveKnocks(h, list, 0.5, 0.5, 1, n))
		fails(t, "SolveByColours")(impl.SolveByColours(h, list, 0.5, 0.5, 1, n))
		fails(t, "SolveShared")(impl.SolveShared(h, list, 0.5, 0.5, 1, n, 2))
		fails(t, "StepKnocks")(impl.StepKnocks(h, list, 0, 0.5, 0.5, 0, 1, n))
		fails(t, "RunKnocks")(impl.RunKnocks(h, list, 0, 0.5, 0.5, 0, 1, 1, n))
	}
}

func TestWrongKnocks(t *testing.T) {
	h := heapWith(disc(0, 1), disc(2, 1), disc(4, 1))
	for _, list := range wrongKnockLists(3) {
		failsForKnocks(t, h, list)
	}
	for _, n := range wrongKnocks(3) {
		fails(t, "SolveKnock")(impl.SolveKnock(h, n, 0.5, 0.5, 1))
	}
	failsForKnocks(t, clusters(24), pairKnocks(24, impl.MaxKnocks+1))
	for _, bad := range invalidHeaps() {
		failsForKnocks(t, bad, nil)
		failsForKnocks(t, bad, knocks(0, 1))
		fails(t, "SolveKnock")(impl.SolveKnock(bad, knock(0, 1, 0, 0), 0.5, 0.5, 1))
	}
	for _, list := range [][]impl.Knock{knocks(0, 1), {{}}} {
		failsForKnocks(t, impl.Heap{}, list)
		failsForKnocks(t, fullHeap(1), list)
	}
}
