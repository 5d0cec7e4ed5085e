package tests

import (
	"math"
	"math/rand"
	"testing"

	"loop.example/g01268/impl"
)

// knocksTold tells what functions with a heap, knocks and numbers return.
func knocksTold(h impl.Heap, list []impl.Knock, i, k int64, x, y, z float32) string {
	text := told(impl.AreKnocks(h, list), impl.SameKnocks(list, list), impl.SameKnocks(list, nil), impl.SameKnocks(nil, list), impl.IsStill(h, x))
	tell := func(results ...any) {
		text += told(results...) + "\n"
	}
	pull, one := complex(y, z), knock(i, k, x, y)
	tell(impl.KnocksOf(h, x))
	tell(impl.WarmKnocks(h, list, x, y))
	tell(impl.StrongKnocks(h, list, x))
	tell(impl.WeightOfPair(h, i, k))
	tell(impl.NeedOf(h, i, k, y, z))
	tell(impl.HitPair(h, i, k, x, y))
	tell(impl.WarmHeap(h, list))
	tell(impl.SolveKnock(h, one, x, y, z))
	tell(impl.SolveKnocks(h, list, x, y, z, i))
	tell(impl.ColoursOfKnocks(h, list))
	tell(impl.SolveByColours(h, list, x, y, z, i))
	tell(impl.SolveShared(h, list, x, y, z, i, k))
	tell(impl.MissOfKnocks(h, list, y, z))
	tell(impl.ConeMiss(h, list, x))
	tell(impl.StepKnocks(h, list, pull, x, y, x, z, i))
	tell(impl.RunKnocks(h, list, pull, x, y, x, z, i, k))
	tell(impl.PushesOnGrains(h, list))
	return text
}

func TestKnocksReturnForAllArguments(t *testing.T) {
	source := rand.New(rand.NewSource(33))
	numbers := oddNumbers()
	indices := []int64{-1, 0, 1, 2, 6, 8, 9, 23, 24, 25, 48, 49, math.MinInt64, math.MaxInt64}
	lists := append(wrongKnockLists(3), nil, knocks(0, 1), knocks(0, 1, 1, 2), pairKnocks(24, 72), pairKnocks(1000, 400000))
	for n, h := range oddHeaps() {
		for range 4 {
			x, y, z := numbers[source.Intn(len(numbers))], numbers[source.Intn(len(numbers))], numbers[source.Intn(len(numbers))]
			i, k := indices[source.Intn(len(indices))], indices[source.Intn(len(indices))]
			list := lists[source.Intn(len(lists)-1)]
			if n%300 == 0 {
				list = lists[len(lists)-1]
			}
			check(t, "knocks, again", knocksTold(h, list, i, k, x, y, z), knocksTold(h, list, i, k, x, y, z))
			// Most of the arguments above are wrong; most of these are not.
			check(t, "knocks, again", knocksTold(h, list, 1, 2, x, 0.5, 1), knocksTold(h, list, 1, 2, x, 0.5, 1))
			check(t, "knocks, again", knocksTold(h, list, 1, 2, 0.5, 0.5, z), knocksTold(h, list, 1, 2, 0.5, 0.5, z))
		}
	}
	for _, c := range someCollisions() {
		check(t, "knocks, again", knocksTold(c.heap, c.list, 1, 2, 0.5, c.lean, c.tick), knocksTold(c.heap, c.list, 1, 2, 0.5, c.lean, c.tick))
	}
}

func TestKnocksDoNotModify(t *testing.T) {
	behind, last := held(disc(complex(9, 9), 99)), knock(22, 23, 99, 99)
	for count := range impl.MaxGrains + 2 {
		row, _ := impl.RowOfGrains(int64(min(max(count, 1), 24)), 1, -0.25, 1)
		grains, allGrains := withRoom(append(row.Grains, disc(100, 1))[:count], behind)
		list, allKnocks := withRoom(pairKnocks(min(count, 8), 72), last)
		before := told(impl.Heap{Grains: allGrains}, allKnocks)
		h := impl.Heap{Grains: grains}
		for _, i := range []int64{0, 1, 2, 3, 8, 24, 48} {
			first := knocksTold(h, list, i, 3, 0.5, 0.25, 0.125)
			check(t, "the grains and the knocks", told(impl.Heap{Grains: allGrains}, allKnocks), before)
			check(t, "knocks, again", knocksTold(h, list, i, 3, 0.5, 0.25, 0.125), first)
		}
	}
}

func TestNilIsNoKnocks(t *testing.T) {
	for _, i := range []int64{0, 1, 2, 24} {
		h, empty := fullHeap(3), impl.Heap{Grains: []impl.Grain{}}
		check(t, "no knocks", knocksTold(h, nil, i, 2, 0.5, 0.5, 1), knocksTold(h, []impl.Knock{}, i, 2, 0.5, 0.5, 1))
		check(t, "no grains", knocksTold(empty, nil, i, 2, 0.5, 0.5, 1), knocksTold(impl.Heap{}, []impl.Knock{}, i, 2, 0.5, 0.5, 1))
	}
}

// solvedHeaps returns what functions make of a heap and its knocks: heaps and
// knocks, one after another.
func solvedHeaps(t *testing.T, h impl.Heap, list []impl.Knock) ([]impl.Heap, [][]impl.Knock) {
	t.Helper()
	heaps, lists := []impl.Heap{}, [][]impl.Knock{}
	keep := func(made impl.Heap, n []impl.Knock, ok bool) {
		t.Helper()
		check(t, "what is made succeeds", ok, true)
		heaps, lists = append(heaps, made), append(lists, n)
	}
	for _, n := range []int64{0, 1, 2} {
		keep(impl.SolveKnocks(h, list, 0.5, 0.5, 1, n))
		keep(impl.SolveByColours(h, list, 0.5, 0.5, 1, n))
		keep(impl.SolveShared(h, list, 0.5, 0.5, 1, n, 2))
		keep(impl.StepKnocks(h, list, 0, 0.5, 0.5, 0, 1, n))
		keep(impl.RunKnocks(h, list, 0, 0.5, 0.5, 0, 1, 1, n))
	}
	found, ok := impl.KnocksOf(h, 0)
	keep(impl.Heap{}, found, ok)
	warm, ok := impl.WarmKnocks(h, list, 0, 1)
	hit, hitOk := impl.HitPair(h, 0, 1, 0, 0)
	keep(hit, warm, ok && hitOk)
	strong, ok := impl.StrongKnocks(h, list, -1)
	warmHeap, warmOk := impl.WarmHeap(h, nil)
	keep(warmHeap, strong, ok && warmOk)
	one, n, ok := impl.SolveKnock(h, list[0], 0.5, 0.5, 1)
	keep(one, []impl.Knock{n}, ok)
	return heaps, lists
}

func TestResultsOfKnocksAreNew(t *testing.T) {
	row := heap(t, "RowOfGrains")(impl.RowOfGrains(4, 1, -0.25, 1))
	row.Grains[3].At = 100
	grains, allGrains := withRoom(row.Grains, disc(9, 9))
	list, allKnocks := withRoom([]impl.Knock{knock(0, 1, 0.0625, 0), knock(1, 2, 0.125, 0.5)}, knock(2, 3, 9, 9))
	h, before := impl.Heap{Grains: grains}, told(impl.Heap{Grains: allGrains}, allKnocks)
	heaps, lists := solvedHeaps(t, h, list)
	heapsAgain, listsAgain := solvedHeaps(t, h, list)
	for n := range heaps {
		want := told(heapsAgain[n], listsAgain[n])
		spoil(heaps[n].Grains, impl.Grain{})
		spoil(lists[n], knock(8, 9, 9, 9))
		check(t, "what is made again", told(heapsAgain[n], listsAgain[n]), want)
		check(t, "the arguments", told(impl.Heap{Grains: allGrains}, allKnocks), before)
	}
	colours, _ := impl.ColoursOfKnocks(h, list)
	pushes, _ := impl.PushesOnGrains(h, list)
	spoil(colours, 9)
	spoil(pushes, 9)
	gives(t, "ColoursOfKnocks, again", []int64{0, 1})(impl.ColoursOfKnocks(h, list))
	gives(t, "PushesOnGrains, again", []float32{0.0625, 0.1875, 0.125, 0})(impl.PushesOnGrains(h, list))
	check(t, "the arguments", told(impl.Heap{Grains: allGrains}, allKnocks), before)
}

func TestKnocksNeverPull(t *testing.T) {
	solved := 0
	for _, c := range someCollisions() {
		for _, n := range c.list {
			_, one, ok := impl.SolveKnock(c.heap, n, c.rub, c.lean, c.tick)
			if !ok {
				continue
			}
			solved++
			check(t, "a knock does not pull", one.Push >= 0, true)
			weight, _ := impl.WeightOfPair(c.heap, n.A, n.B)
			if weight > 0 {
				gives(t, "a knock rubs no more than its share", float32(0))(impl.ConeMiss(c.heap, []impl.Knock{one}, c.rub))
			}
		}
		for _, solve := range solvings() {
			h, list, ok := solve(c, 2)
			check(t, "solved knocks are knocks", !ok || impl.AreKnocks(h, list), true)
		}
	}
	check(t, "many knocks are solved", solved > 1500, true)
}

func TestKnocksLeaveNothingTooFast(t *testing.T) {
	source := rand.New(rand.NewSource(34))
	pushed := 0
	for range 1000 {
		h := someHeap(source, 2, 1)
		n, m := knock(0, 1, float32(source.Intn(2)), someNumber(source, 0.3)), someManner(source)
		if h.Grains[0].Held && h.Grains[1].Held {
			continue
		}
		solved, one, ok := impl.SolveKnock(h, n, m.rub, m.lean, m.tick)
		check(t, "SolveKnock succeeds", ok, true)
		away, _, ok := impl.SlideOf(solved, 0, 1)
		need, needOk := impl.NeedOf(solved, 0, 1, m.lean, m.tick)
		check(t, "what is solved has a way", ok && needOk, true)
		size := float32(math.Abs(float64(need))) + 100
		check(t, "grains do not go together too fast", away >= need || isNearly(away, need, size), true)
		miss, ok := impl.MissOfKnocks(solved, []impl.Knock{one}, m.lean, m.tick)
		check(t, "nothing is missed", ok && isNearly(miss, 0, size), true)
		if one.Push > 0 {
			pushed++
			check(t, "what is pushed is pushed no more than needed", isNearly(away, need, size), true)
		}
	}
	check(t, "many knocks push", pushed > 300, true)
}

func TestKnocksThatRubStopWhatSlides(t *testing.T) {
	source := rand.New(rand.NewSource(35))
	stopped := 0
	for range 1000 {
		h := someHeap(source, 2, 1)
		if h.Grains[0].Held && h.Grains[1].Held {
			continue
		}
		solved, one, ok := impl.SolveKnock(h, knock(0, 1, 0, 0), 0.7, 0.3, 0.5)
		_, across, slideOk := impl.SlideOf(solved, 0, 1)
		check(t, "SolveKnock succeeds", ok && slideOk, true)
		if math.Abs(float64(one.Rub)) < 0.69*float64(one.Push) {
			stopped++
			check(t, "a knock whose rub has no bound stops what slides", math.Abs(float64(across)) < 1e-3, true)
		}
	}
	check(t, "many knocks stop what slides", stopped > 100, true)
}

func TestColoursHaveNoCommonGrain(t *testing.T) {
	for _, c := range someCollisions() {
		colours, ok := impl.ColoursOfKnocks(c.heap, c.list)
		check(t, "ColoursOfKnocks succeeds", []any{len(colours), ok}, []any{len(c.list), true})
		for m, a := range c.list {
			lesser := make([]bool, colours[m])
			for n, b := range c.list {
				if n == m || a.A != b.A && a.A != b.B && a.B != b.A && a.B != b.B {
					continue
				}
				check(t, "knocks of one colour have no common grain", colours[m] != colours[n], true)
				if n < m && colours[n] < colours[m] {
					lesser[colours[n]] = true
				}
			}
			for _, taken := range lesser {
				check(t, "no lesser colour is free", taken, true)
			}
		}
	}
}

func TestAnyNumberOfWorkersSolvesTheSame(t *testing.T) {
	for n, c := range someCollisions() {
		for _, rounds := range []int64{0, 1, int64(n % (impl.MaxRounds + 1))} {
			h, list, ok := impl.SolveByColours(c.heap, c.list, c.rub, c.lean, c.tick, rounds)
			want := told(h, list, ok)
			for workers := int64(1); workers <= impl.MaxWorkers; workers++ {
				shared, sharedList, ok := impl.SolveShared(c.heap, c.list, c.rub, c.lean, c.tick, rounds, workers)
				check(t, "what workers solve", told(shared, sharedList, ok), want)
			}
		}
	}
}

func TestKnocksKeepTheMomentum(t *testing.T) {
	source := rand.New(rand.NewSource(36))
	for range 200 {
		h := someHeap(source, 10, 2)
		for i := range h.Grains {
			h.Grains[i].Held = false
		}
		before, _ := impl.MomentumOf(h)
		turning, _ := impl.TurningOf(h)
		solved, _, ok := impl.SolveKnocks(h, someKnocks(source, h), 0.5, 0.2, 0.5, 8)
		check(t, "SolveKnocks succeeds", ok, true)
		after, _ := impl.MomentumOf(solved)
		check(t, "the momentum stays", isNearly(real(before), real(after), 100) && isNearly(imag(before), imag(after), 100), true)
		hit, ok := impl.HitPair(h, 3, 7, 2, 0)
		check(t, "HitPair succeeds", ok, true)
		turned, _ := impl.TurningOf(hit)
		check(t, "what turns stays", isNearly(turning, turned, 100), true)
	}
}
