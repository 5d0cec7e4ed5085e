package tests

import (
	"math"
	"math/rand"
	"testing"

	"loop.example/g01268/impl"
)

// pushesTold tells what functions with a heap, rules and touches return.
func pushesTold(h impl.Heap, r impl.Rules, list []impl.Touch, i, k int64, x, y float32) string {
	text := told(impl.ValidRules(r), impl.SameRules(r, r), impl.AreTouches(h, list), impl.SameTouches(list, list), impl.SameTouches(list, nil))
	tell := func(results ...any) {
		text += told(results...) + "\n"
	}
	z, one := complex(x, y), touch(i, k, x)
	tell(impl.TouchesOf(h))
	tell(impl.DropTouches(h, list, i))
	tell(impl.PushOf(h, r, i, k))
	tell(impl.RubOf(h, r, one))
	tell(impl.SlipShare(h, r, one))
	tell(impl.RubTouches(h, r, list, y))
	tell(impl.ForcesOn(h, r, list))
	tell(impl.ForcesShared(h, r, list, k))
	tell(impl.StepHeap(h, r, list, z, y))
	tell(impl.RunHeap(h, r, list, z, y, i))
	tell(impl.SettleHeap(h, r, z, y, x, k))
	tell(impl.FastestOf(h))
	tell(impl.PressesOf(h, r, list))
	tell(impl.StrongestTouch(h, r, list))
	tell(impl.WorstOverlap(h))
	tell(impl.TouchCounts(h, list))
	tell(impl.GroupsOfTouches(h, list))
	return text
}

func TestPushesReturnForAllArguments(t *testing.T) {
	source := rand.New(rand.NewSource(12))
	numbers := oddNumbers()
	indices := []int64{-1, 0, 1, 2, 6, 8, 9, 23, 24, 25, 48, 49, math.MinInt64, math.MaxInt64}
	lists := append(wrongLists(3), nil, touches(0, 1), touches(0, 1, 1, 2), allPairs(24, 72), allPairs(1000, 400000))
	for n, h := range oddHeaps() {
		for range 4 {
			x, y := numbers[source.Intn(len(numbers))], numbers[source.Intn(len(numbers))]
			i, k := indices[source.Intn(len(indices))], indices[source.Intn(len(indices))]
			r := setRule(someRules(source), source.Intn(4), x)
			list := lists[source.Intn(len(lists)-1)]
			if n%300 == 0 {
				list = lists[len(lists)-1]
			}
			check(t, "pushes, again", pushesTold(h, r, list, i, k, x, y), pushesTold(h, r, list, i, k, x, y))
		}
	}
	for _, s := range heapsThatTouch() {
		x, y := numbers[source.Intn(len(numbers))], numbers[source.Intn(len(numbers))]
		check(t, "pushes, again", pushesTold(s.heap, s.rules, s.list, 1, 2, x, y), pushesTold(s.heap, s.rules, s.list, 1, 2, x, y))
	}
}

func TestPushesDoNotModify(t *testing.T) {
	behind, last := held(disc(complex(9, 9), 99)), touch(22, 23, 99)
	for count := range impl.MaxGrains + 2 {
		row, _ := impl.RowOfGrains(int64(min(max(count, 1), 24)), 1, -0.25, 1)
		grains, allGrains := withRoom(append(row.Grains, disc(100, 1))[:count], behind)
		list, allTouches := withRoom(allPairs(min(count, 8), 72), last)
		before := told(impl.Heap{Grains: allGrains}, allTouches)
		h := impl.Heap{Grains: grains}
		first := pushesTold(h, usualRules(), list, 0, 1, 0.5, 0.125)
		check(t, "the grains and the touches", told(impl.Heap{Grains: allGrains}, allTouches), before)
		check(t, "pushes, again", pushesTold(h, usualRules(), list, 0, 1, 0.5, 0.125), first)
		for _, i := range []int64{2, 3, 8, 24, 48} {
			pushesTold(h, usualRules(), list, i, 3, 0.5, 0.125)
			check(t, "the grains and the touches", told(impl.Heap{Grains: allGrains}, allTouches), before)
		}
	}
}

// spoil changes all items of a list and the room behind them.
func spoil[T any](list []T, item T) {
	for i := range list {
		list[i] = item
	}
	_ = append(list, item, item, item)
}

// madeOfTouches returns, for functions that return lists, a text of their
// results, and spoils the results one after another: they share nothing if the
// texts of the others stay.
func madeOfTouches(t *testing.T, h impl.Heap, list []impl.Touch) {
	t.Helper()
	r := impl.Rules{Stiff: 1, Rub: 1, Grip: 1}
	before := told(h, list)
	found, _ := impl.TouchesOf(h)
	foundAgain, _ := impl.TouchesOf(h)
	spoil(found, touch(8, 9, 9))
	check(t, "the touches, again", told(foundAgain), told(touches(0, 1, 1, 2)))
	dropped, _ := impl.DropTouches(h, list, 3)
	rubbed, _ := impl.RubTouches(h, r, list, 0)
	step, stepTouches, _ := impl.StepHeap(h, r, list, 0, 0)
	for _, steps := range []int64{0, 1, 2} {
		run, runTouches, energies, ok := impl.RunHeap(h, r, list, 0, 0, steps)
		check(t, "RunHeap succeeds", ok, true)
		spoil(run.Grains, impl.Grain{})
		spoil(runTouches, touch(8, 9, 9))
		spoil(energies, 9)
		check(t, "the arguments", told(h, list), before)
	}
	settled, _, _ := impl.SettleHeap(h, r, 0, 0, 1, 1)
	spoil(dropped, touch(8, 9, 9))
	spoil(rubbed, touch(8, 9, 9))
	spoil(stepTouches, touch(8, 9, 9))
	spoil(step.Grains, impl.Grain{})
	spoil(settled.Grains, impl.Grain{})
	check(t, "the arguments", told(h, list), before)
}

func TestResultsOfTouchesAreNew(t *testing.T) {
	row := heap(t, "RowOfGrains")(impl.RowOfGrains(4, 1, -0.25, 1))
	row.Grains[3].At = 100
	grains, allGrains := withRoom(row.Grains, disc(9, 9))
	list, allTouches := withRoom([]impl.Touch{touch(0, 1, 0.0625), touch(1, 2, 0.125)}, touch(2, 3, 9))
	before := told(impl.Heap{Grains: allGrains}, allTouches)
	madeOfTouches(t, impl.Heap{Grains: grains}, list)
	check(t, "what is behind", told(impl.Heap{Grains: allGrains}, allTouches), before)
	h := impl.Heap{Grains: grains}
	forces, torques, _ := impl.ForcesOn(h, usualRules(), list)
	want := told(forces, torques)
	other, otherTorques, _ := impl.ForcesShared(h, usualRules(), list, 2)
	presses, _ := impl.PressesOf(h, usualRules(), list)
	pressesAgain, _ := impl.PressesOf(h, usualRules(), list)
	counts, _ := impl.TouchCounts(h, list)
	groups, _, _ := impl.GroupsOfTouches(h, list)
	spoil(forces, 9)
	spoil(torques, 9)
	spoil(presses, 9)
	spoil(counts, 9)
	check(t, "other lists", told(other, otherTorques, groups), want+" [0 0 0 1]")
	check(t, "presses, again", told(pressesAgain), told([]float32{0.5, 1, 0.5, 0}))
}

func TestForcesAreNothingTogether(t *testing.T) {
	source := rand.New(rand.NewSource(13))
	for range 300 {
		h := someHeap(source, 2+source.Intn(11), 1.5)
		list := someTouches(source, h)
		forces, torques, ok := impl.ForcesOn(h, someRules(source), list)
		check(t, "ForcesOn succeeds", ok, true)
		sum, size := complex128(0), 1.0
		for i, f := range forces {
			sum += complex128(f)
			size += math.Abs(float64(real(f))) + math.Abs(float64(imag(f))) + math.Abs(float64(torques[i]))
		}
		check(t, "the sum of all forces is nothing", math.Abs(real(sum))+math.Abs(imag(sum)) <= 1e-5*size, true)
	}
}

func TestStepsKeepTheMomentum(t *testing.T) {
	source := rand.New(rand.NewSource(14))
	for range 100 {
		h := someHeap(source, 10, 2)
		for i := range h.Grains {
			h.Grains[i].Held = false
		}
		before, _ := impl.MomentumOf(h)
		run, _, _, ok := impl.RunHeap(h, someRules(source), nil, 0, 0.001, 20)
		check(t, "RunHeap succeeds", ok, true)
		after, _ := impl.MomentumOf(run)
		check(t, "the momentum stays", isNearly(real(before), real(after), 100) && isNearly(imag(before), imag(after), 100), true)
	}
}

func TestPushesAreOpposite(t *testing.T) {
	source := rand.New(rand.NewSource(15))
	for range 300 {
		h, r := someHeap(source, 2, 0.5), someRules(source)
		push, ok := impl.PushOf(h, r, 0, 1)
		back, again := impl.PushOf(h, r, 1, 0)
		check(t, "pushes succeed", []bool{ok, again}, "[true true]")
		check(t, "the push from both sides", isNearly(push, back, 100), true)
		forces, _, ok := impl.ForcesOn(h, r, []impl.Touch{touch(0, 1, someNumber(source, 1))})
		check(t, "ForcesOn succeeds", ok, true)
		checkComplex(t, "the force on the other one", forces[1], 0-forces[0])
	}
}

func TestAnyNumberOfWorkersMakesTheSame(t *testing.T) {
	for _, s := range heapsThatTouch() {
		forces, torques, ok := impl.ForcesOn(s.heap, s.rules, s.list)
		want := told(forces, torques, ok)
		for workers := int64(1); workers <= impl.MaxWorkers; workers++ {
			shared, sharedTorques, ok := impl.ForcesShared(s.heap, s.rules, s.list, workers)
			check(t, "what workers make", told(shared, sharedTorques, ok), want)
		}
	}
}

func TestRubbingIsAShareOfThePush(t *testing.T) {
	for _, s := range heapsThatTouch() {
		list, ok := impl.RubTouches(s.heap, s.rules, s.list, 0.1)
		for _, one := range list {
			share, shareOk := impl.SlipShare(s.heap, s.rules, one)
			check(t, "the share is at most 1, nearly", []bool{ok, shareOk, share >= 0, share <= 1+1e-6}, "[true true true true]")
		}
	}
}

func TestTouchesAreTouches(t *testing.T) {
	for _, s := range heapsThatTouch() {
		check(t, "some touches are touches", impl.AreTouches(s.heap, s.list), true)
		list, ok := impl.TouchesOf(s.heap)
		check(t, "touches are touches", !ok || impl.AreTouches(s.heap, list), true)
		rubbed, ok := impl.RubTouches(s.heap, s.rules, s.list, 0.1)
		check(t, "touches in a tick are touches", !ok || impl.AreTouches(s.heap, rubbed), true)
	}
}
