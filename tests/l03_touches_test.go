package tests

import (
	"math"
	"testing"

	"loop.example/g01268/impl"
)

func TestValidRules(t *testing.T) {
	for field := range 4 {
		for _, x := range []float32{0, negativeZero(), number(1), 1, math.MaxFloat32} {
			check(t, "usual rules are valid", impl.ValidRules(setRule(usualRules(), field, x)), true)
		}
	}
	check(t, "rules of zeros are valid", impl.ValidRules(impl.Rules{}), true)
	for _, r := range invalidRules() {
		check(t, "wrong rules are valid: "+told(r), impl.ValidRules(r), false)
	}
}

func TestSameRules(t *testing.T) {
	list := []float32{0, negativeZero(), 1, -1, number(1), inf(1), inf(-1), nan(), number(0xff800001)}
	for field := range 4 {
		for _, x := range list {
			for _, y := range list {
				a, b := setRule(usualRules(), field, x), setRule(usualRules(), field, y)
				check(t, "rules with "+bits(x)+" and "+bits(y), impl.SameRules(a, b), bits(x) == bits(y))
			}
		}
	}
	check(t, "rules in another order", impl.SameRules(impl.Rules{Stiff: 1, Loss: 2}, impl.Rules{Stiff: 2, Loss: 1}), false)
}

func TestAreTouches(t *testing.T) {
	check(t, "the limits", []int{impl.MaxTouches, impl.MaxSteps, impl.MaxWorkers}, "[72 48 8]")
	for count := range impl.MaxGrains + 1 {
		h := fullHeap(count)
		check(t, "no touches", impl.AreTouches(h, nil), true)
		check(t, "no touches", impl.AreTouches(h, []impl.Touch{}), true)
		check(t, "touches", impl.AreTouches(h, allPairs(count, impl.MaxTouches)), true)
		check(t, "touches of a grain that is not there", impl.AreTouches(h, touches(0, int64(max(count, 1)))), false)
		if count >= 3 {
			for _, list := range wrongLists(int64(count)) {
				check(t, "wrong touches: "+told(list), impl.AreTouches(h, list), false)
			}
		}
	}
	h := fullHeap(impl.MaxGrains)
	check(t, "the last touch", impl.AreTouches(h, touches(22, 23)), true)
	check(t, "touches in order", impl.AreTouches(h, touches(0, 1, 0, 23, 1, 2, 1, 3, 22, 23)), true)
	check(t, "one touch more than MaxTouches", impl.AreTouches(h, allPairs(24, impl.MaxTouches+1)), false)
	check(t, "all touches", impl.AreTouches(h, allPairs(24, 1000)), false)
	for _, x := range []float32{negativeZero(), number(1), math.MaxFloat32, -math.MaxFloat32} {
		check(t, "a touch with any Slide", impl.AreTouches(h, []impl.Touch{touch(0, 1, x), touch(3, 4, x)}), true)
	}
	for _, bad := range invalidHeaps() {
		check(t, "no touches of a wrong heap", impl.AreTouches(bad, nil), false)
		check(t, "touches of a wrong heap", impl.AreTouches(bad, touches(0, 1)), false)
	}
}

func TestSameTouches(t *testing.T) {
	check(t, "no touches are the same", impl.SameTouches(nil, []impl.Touch{}), true)
	list := []impl.Touch{touch(0, 1, 0), touch(0, 1, negativeZero()), touch(1, 0, 0), touch(0, 2, 0), touch(0, 1, 1), touch(0, 1, number(1)),
		touch(-5, 77, nan()), touch(-5, 77, inf(1)), touch(-5, 77, inf(-1)), touch(math.MaxInt64, math.MinInt64, 0), touch(0, 1+1<<32, 0)}
	for i, a := range list {
		check(t, "touches and less of them", impl.SameTouches(list[:i], list[:i+1]), false)
		check(t, "touches and more of them", impl.SameTouches(list[:i+1], list[:i]), false)
		for k, b := range list {
			check(t, "one touch", impl.SameTouches([]impl.Touch{a}, []impl.Touch{b}), i == k)
			check(t, "the last touch", impl.SameTouches([]impl.Touch{b, b, a}, []impl.Touch{b, b, b}), i == k)
			check(t, "the first touch", impl.SameTouches([]impl.Touch{a, b}, []impl.Touch{b, b}), i == k)
		}
	}
	check(t, "not-a-numbers", impl.SameTouches([]impl.Touch{touch(0, 1, nan())}, []impl.Touch{touch(0, 1, number(0xff800001))}), true)
	many := repeated(touch(3, 2, inf(1)), 1000)
	check(t, "many touches", impl.SameTouches(many, repeated(touch(3, 2, inf(1)), 1000)), true)
}

func TestTouchesOf(t *testing.T) {
	for _, gap := range []float32{0, negativeZero(), -0.5} {
		row := heap(t, "RowOfGrains")(impl.RowOfGrains(4, 1, gap, 1))
		gives(t, "TouchesOf a row", touches(0, 1, 1, 2, 2, 3))(impl.TouchesOf(row))
	}
	apart := heap(t, "RowOfGrains")(impl.RowOfGrains(4, 1, 0.5, 1))
	gives(t, "TouchesOf grains apart", []impl.Touch{})(impl.TouchesOf(apart))
	gives(t, "TouchesOf grains at one place", touches(0, 1))(impl.TouchesOf(heapWith(disc(1, 1), held(disc(1, 1)))))
	gives(t, "TouchesOf no grains", []impl.Touch{})(impl.TouchesOf(impl.Heap{}))
	gives(t, "TouchesOf one grain", []impl.Touch{})(impl.TouchesOf(fullHeap(1)))
	next := heapWith(disc(0, 1), disc(complex(number(0x40000001), 0), 1))
	gives(t, "TouchesOf grains next to touching", []impl.Touch{})(impl.TouchesOf(next))
	for _, bad := range invalidHeaps() {
		fails(t, "TouchesOf a wrong heap")(impl.TouchesOf(bad))
	}
	fails(t, "TouchesOf grains too far apart")(impl.TouchesOf(heapWith(disc(-2e38, 1), disc(2e38, 1))))
	for _, s := range heapsThatTouch() {
		want, ok := referenceTouches(s.heap)
		expectFinite(t, "TouchesOf", ok, want)(impl.TouchesOf(s.heap))
	}
}

// clusterLimits are heaps with MaxTouches touches, and with one more.
func clusterLimits() (full, over impl.Heap) {
	return clusters(12, 4), clusters(12, 4, 2)
}

func TestMaxTouches(t *testing.T) {
	full, over := clusterLimits()
	list, ok := impl.TouchesOf(full)
	check(t, "MaxTouches touches", []any{len(list), ok}, "[72 true]")
	want, _ := referenceTouches(full)
	check(t, "TouchesOf", told(list), told(want))
	for _, h := range []impl.Heap{over, clusters(13), clusters(24)} {
		fails(t, "TouchesOf too many")(impl.TouchesOf(h))
		fails(t, "RubTouches of too many")(impl.RubTouches(h, impl.Rules{}, nil, 0))
		fails(t, "StepHeap with too many")(stepped(impl.StepHeap(h, impl.Rules{}, nil, 0, 0)))
		gives(t, "ForcesOn", make([]complex64, len(h.Grains)), make([]float32, len(h.Grains)))(impl.ForcesOn(h, impl.Rules{}, nil))
	}
	rubbed, ok := impl.RubTouches(full, impl.Rules{}, list, 1)
	check(t, "RubTouches of MaxTouches touches", []any{len(rubbed), ok}, "[72 true]")
}

// stepped passes the results of a step on.
func stepped(h impl.Heap, list []impl.Touch, ok bool) (impl.Heap, []impl.Touch, bool) {
	return h, list, ok
}

func TestDropTouches(t *testing.T) {
	h := fullHeap(5)
	list := []impl.Touch{touch(0, 1, 1), touch(0, 4, negativeZero()), touch(1, 2, -2), touch(2, 3, 0), touch(2, 4, 5)}
	for i, want := range [][]int{{2, 3, 4}, {1, 3, 4}, {0, 1}, {0, 1, 2, 4}, {0, 2, 3}} {
		rest := []impl.Touch{}
		for _, n := range want {
			rest = append(rest, list[n])
		}
		gives(t, "DropTouches", rest)(impl.DropTouches(h, list, int64(i)))
		gives(t, "DropTouches of no touches", []impl.Touch{})(impl.DropTouches(h, nil, int64(i)))
	}
	gives(t, "DropTouches of a grain without touches", touches(0, 1))(impl.DropTouches(h, touches(0, 1), 4))
	for _, i := range wrongIndices(5) {
		fails(t, "DropTouches of no grain")(impl.DropTouches(h, list, i))
	}
	fails(t, "DropTouches without grains")(impl.DropTouches(impl.Heap{}, nil, 0))
	for _, wrong := range wrongLists(5) {
		fails(t, "DropTouches of wrong touches")(impl.DropTouches(h, wrong, 0))
		fails(t, "DropTouches of wrong touches")(impl.DropTouches(h, wrong, 4))
	}
	for _, bad := range invalidHeaps() {
		fails(t, "DropTouches of a wrong heap")(impl.DropTouches(bad, nil, 0))
	}
}

func TestDropTouchesOfManyGrains(t *testing.T) {
	for count := 2; count <= impl.MaxGrains; count++ {
		list := allPairs(count, impl.MaxTouches)
		for i := range int64(count) {
			want := []impl.Touch{}
			for _, touch := range list {
				if touch.A != i && touch.B != i {
					want = append(want, touch)
				}
			}
			gives(t, "DropTouches", want)(impl.DropTouches(fullHeap(count), list, i))
		}
	}
}

func TestTouchCounts(t *testing.T) {
	gives(t, "TouchCounts", []int64{2, 1, 3, 0, 2})(impl.TouchCounts(fullHeap(5), touches(0, 2, 0, 4, 1, 2, 2, 4)))
	gives(t, "TouchCounts without touches", []int64{0, 0})(impl.TouchCounts(fullHeap(2), nil))
	gives(t, "TouchCounts without grains", []int64{})(impl.TouchCounts(impl.Heap{}, nil))
	full := allPairs(24, impl.MaxTouches)
	want := make([]int64, 24)
	for _, t := range full {
		want[t.A]++
		want[t.B]++
	}
	gives(t, "TouchCounts of MaxTouches touches", want)(impl.TouchCounts(fullHeap(24), full))
	for _, wrong := range wrongLists(5) {
		fails(t, "TouchCounts of wrong touches")(impl.TouchCounts(fullHeap(5), wrong))
	}
	for _, bad := range invalidHeaps() {
		fails(t, "TouchCounts of a wrong heap")(impl.TouchCounts(bad, nil))
	}
}

func TestGroupsOfTouches(t *testing.T) {
	gives(t, "no grains", []int64{}, int64(0))(impl.GroupsOfTouches(impl.Heap{}, nil))
	gives(t, "no touches", []int64{0, 1, 2}, int64(3))(impl.GroupsOfTouches(fullHeap(3), nil))
	gives(t, "one group", []int64{0, 0, 0, 0}, int64(1))(impl.GroupsOfTouches(fullHeap(4), touches(0, 3, 1, 2, 2, 3)))
	gives(t, "two groups", []int64{0, 1, 0, 1, 0}, int64(2))(impl.GroupsOfTouches(fullHeap(5), touches(0, 2, 1, 3, 2, 4)))
	gives(t, "groups that meet late", []int64{0, 1, 1, 0, 2, 1}, int64(3))(impl.GroupsOfTouches(fullHeap(6), touches(0, 3, 1, 5, 2, 5)))
	gives(t, "groups that meet twice", []int64{0, 0, 0, 1, 0, 0, 0}, int64(2))(impl.GroupsOfTouches(fullHeap(7), touches(0, 6, 1, 5, 2, 4, 4, 5, 5, 6)))
	for _, wrong := range wrongLists(5) {
		fails(t, "GroupsOfTouches of wrong touches")(impl.GroupsOfTouches(fullHeap(5), wrong))
	}
	for _, bad := range invalidHeaps() {
		fails(t, "GroupsOfTouches of a wrong heap")(impl.GroupsOfTouches(bad, nil))
	}
	for count := 2; count <= impl.MaxGrains; count++ {
		for step := 1; step < 12; step++ {
			list := []impl.Touch{}
			for n, pair := range allPairs(count, 1000) {
				if (n*n+n)%(7*step+count) == step && len(list) < impl.MaxTouches {
					list = append(list, pair)
				}
			}
			groups, next := referenceGroups(count, list)
			gives(t, "GroupsOfTouches", groups, next)(impl.GroupsOfTouches(fullHeap(count), list))
		}
	}
}
