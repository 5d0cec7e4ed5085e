package tests

import (
	"math"
	"math/rand"
	"testing"

	"loop.example/g01268/impl"
)

func TestAreBonds(t *testing.T) {
	check(t, "the limit", impl.MaxBonds, 72)
	for count := range impl.MaxGrains + 1 {
		h := fullHeap(count)
		check(t, "no bonds", impl.AreBonds(h, nil), true)
		check(t, "no bonds", impl.AreBonds(h, []impl.Bond{}), true)
		check(t, "a bond of a grain that is not there", impl.AreBonds(h, bonds(0, int64(max(count, 1)))), false)
		if count >= 3 {
			check(t, "bonds", impl.AreBonds(h, pairBonds(count, impl.MaxBonds)), true)
			for _, list := range wrongBondLists(int64(count)) {
				check(t, "wrong bonds: "+told(list), impl.AreBonds(h, list), false)
			}
		}
	}
	h := fullHeap(impl.MaxGrains)
	check(t, "MaxBonds bonds", []any{len(pairBonds(24, 100)[:72]), impl.AreBonds(h, pairBonds(24, 72))}, "[72 true]")
	check(t, "one bond more than MaxBonds", impl.AreBonds(h, pairBonds(24, impl.MaxBonds+1)), false)
	check(t, "bonds of the last grains", impl.AreBonds(h, bonds(0, 23, 21, 23, 22, 23)), true)
	for _, x := range []float32{number(1), 1, math.MaxFloat32} {
		check(t, "a bond with any Long", impl.AreBonds(h, []impl.Bond{bond(0, 1, x, 0), bond(0, 2, 1, x)}), true)
	}
	for _, x := range []float32{0, negativeZero(), number(1), math.MaxFloat32} {
		check(t, "a bond with any Strength", impl.AreBonds(h, []impl.Bond{bond(0, 1, 1, x), bond(2, 7, 2, x)}), true)
	}
	for _, bad := range invalidHeaps() {
		check(t, "no bonds of a wrong heap", impl.AreBonds(bad, nil), false)
		check(t, "bonds of a wrong heap", impl.AreBonds(bad, bonds(0, 1)), false)
	}
}

func TestSameBonds(t *testing.T) {
	check(t, "no bonds are the same", impl.SameBonds(nil, []impl.Bond{}), true)
	list := []impl.Bond{bond(0, 1, 0, 0), bond(0, 1, negativeZero(), 0), bond(0, 1, 0, negativeZero()), bond(1, 0, 0, 0), bond(0, 2, 0, 0), bond(2, 1, 0, 0),
		bond(0, 1, 1, 0), bond(0, 1, 0, 1), bond(0, 1, number(1), 0), bond(7, 7, nan(), 0), bond(7, 7, 0, nan()), bond(7, 7, nan(), nan()),
		bond(7, 7, inf(1), 0), bond(7, 7, inf(-1), 0), bond(7, 7, 0, inf(-1)), bond(math.MaxInt64, math.MinInt64, 0, 0), bond(0, 1+1<<32, 0, 0)}
	for i, a := range list {
		check(t, "bonds and less of them", impl.SameBonds(list[:i], list[:i+1]), false)
		check(t, "bonds and more of them", impl.SameBonds(list[:i+1], list[:i]), false)
		for k, b := range list {
			check(t, "one bond", impl.SameBonds([]impl.Bond{a}, []impl.Bond{b}), i == k)
			check(t, "the last bond", impl.SameBonds([]impl.Bond{b, b, a}, []impl.Bond{b, b, b}), i == k)
			check(t, "the first bond", impl.SameBonds([]impl.Bond{a, b}, []impl.Bond{b, b}), i == k)
		}
	}
	odd := number(0xff800001)
	check(t, "not-a-numbers", impl.SameBonds([]impl.Bond{bond(0, 1, nan(), odd)}, []impl.Bond{bond(0, 1, odd, nan())}), true)
	check(t, "many bonds", impl.SameBonds(repeated(bond(3, 3, nan(), 1), 1000), repeated(bond(3, 3, nan(), 1), 1000)), true)
}

func TestBondsOf(t *testing.T) {
	h := heapWith(disc(0, 1), held(disc(complex(3, 4), 2)), disc(complex(0, 2), 1), held(disc(complex(3, -4), 1)))
	// The gaps of 0 are 2, 0 and 3; the others' ones are sqrt(13) - 3, 5 and longer.
	for _, c := range []struct {
		near float32
		want []impl.Bond
	}{
		{-1, bonds()}, {number(0x80000001), bonds()}, {negativeZero(), []impl.Bond{bond(0, 2, 2, 7)}}, {0, []impl.Bond{bond(0, 2, 2, 7)}},
		{1, []impl.Bond{bond(0, 2, 2, 7), bond(1, 2, long32(complex(3, 2)), 7)}},
		{2, []impl.Bond{bond(0, 1, 5, 7), bond(0, 2, 2, 7), bond(1, 2, long32(complex(3, 2)), 7)}},
		{math.MaxFloat32, []impl.Bond{bond(0, 1, 5, 7), bond(0, 2, 2, 7), bond(0, 3, 5, 7), bond(1, 2, long32(complex(3, 2)), 7), bond(1, 3, 8, 7), bond(2, 3, long32(complex(3, 6)), 7)}},
	} {
		gives(t, "BondsOf", c.want)(impl.BondsOf(h, c.near, 7))
		gives(t, "BondsOf no grains", bonds())(impl.BondsOf(impl.Heap{}, c.near, 7))
		gives(t, "BondsOf one grain", bonds())(impl.BondsOf(lone(3), c.near, 7))
	}
	for _, strength := range []float32{0, negativeZero(), number(1), math.MaxFloat32} {
		gives(t, "BondsOf with a Strength", []impl.Bond{bond(0, 2, 2, strength)})(impl.BondsOf(h, 0, strength))
	}
}

func TestBondsOfFails(t *testing.T) {
	for _, h := range []impl.Heap{{}, lone(0), facing(-1, 0), facing(1, 0)} {
		for _, strength := range wrongStiffs() {
			fails(t, "BondsOf with a wrong strength")(impl.BondsOf(h, 0, strength))
		}
		for _, near := range notFinite() {
			fails(t, "BondsOf with a wrong near")(impl.BondsOf(h, near, 1))
		}
	}
	// A Long of 0 makes no bond, but only where it is near.
	same := heapWith(disc(0, 1), disc(5, 1), disc(5, 1))
	fails(t, "BondsOf grains at one place")(impl.BondsOf(same, 0, 1))
	gives(t, "BondsOf grains at one place that are not near", bonds())(impl.BondsOf(same, -3, 1))
	gives(t, "BondsOf grains nearly at one place", []impl.Bond{bond(0, 1, number(1), 1)})(impl.BondsOf(heapWith(disc(0, 1), disc(complex(0, number(1)), 1)), 0, 1))
	fails(t, "BondsOf grains too far apart")(impl.BondsOf(heapWith(disc(-2e38, 1), disc(2e38, 1)), 0, 1))
	for _, bad := range invalidHeaps() {
		fails(t, "BondsOf a wrong heap")(impl.BondsOf(bad, 1, 1))
	}
}

func TestMaxBonds(t *testing.T) {
	full, over := clusterLimits()
	list, ok := impl.BondsOf(full, 0, 1)
	check(t, "MaxBonds bonds", []any{len(list), ok}, "[72 true]")
	want, _ := referenceBonds(full, 0, 1)
	check(t, "BondsOf", told(list), told(want))
	for _, h := range []impl.Heap{over, clusters(13), clusters(24)} {
		fails(t, "BondsOf too many")(impl.BondsOf(h, 0, 1))
	}
	line := heap(t, "RowOfGrains")(impl.RowOfGrains(24, 1, 1, 1))
	for _, c := range []struct {
		near float32
		want int
		ok   bool
	}{{0.5, 0, true}, {1, 23, true}, {4, 45, true}, {7, 66, true}, {10, 0, false}, {1e30, 0, false}, {math.MaxFloat32, 0, false}} {
		list, ok := impl.BondsOf(line, c.near, 1)
		check(t, "BondsOf a row", []any{len(list), ok}, []any{c.want, c.ok})
	}
	// The last bond has its place anywhere.
	all := pairBonds(24, impl.MaxBonds)
	for n, b := range all {
		rest := append(append([]impl.Bond{}, all[:n]...), all[n+1:]...)
		gives(t, "AddBond up to MaxBonds", all)(impl.AddBond(fullHeap(24), rest, b))
	}
	fails(t, "AddBond to MaxBonds bonds")(impl.AddBond(fullHeap(24), all, bond(22, 23, 1, 1)))
	fails(t, "AddBond to MaxBonds bonds in the middle")(impl.AddBond(fullHeap(24), pairBonds(24, 73)[1:], bond(0, 1, 1, 1)))
	failsForBonds(t, fullHeap(24), pairBonds(24, impl.MaxBonds+1))
	failsForBonds(t, fullHeap(24), pairBonds(1000, 400000))
}

func TestAddBond(t *testing.T) {
	h := fullHeap(6)
	list := []impl.Bond{bond(0, 3, 1, 1), bond(2, 3, 2, 2), bond(2, 5, 3, 3)}
	for _, c := range []struct {
		a, b  int64
		place int
	}{{0, 1, 0}, {0, 2, 0}, {0, 4, 1}, {0, 5, 1}, {1, 2, 1}, {1, 5, 1}, {2, 4, 2}, {3, 4, 3}, {3, 5, 3}, {4, 5, 3}} {
		b := bond(c.a, c.b, 7, negativeZero())
		want := append(append(append([]impl.Bond{}, list[:c.place]...), b), list[c.place:]...)
		gives(t, "AddBond", want)(impl.AddBond(h, list, b))
		gives(t, "AddBond to none", []impl.Bond{b})(impl.AddBond(h, nil, b))
	}
	for _, b := range list {
		fails(t, "AddBond that is there")(impl.AddBond(h, list, b))
		b.Long, b.Strength = 9, 0
		fails(t, "AddBond of the same grains")(impl.AddBond(h, list, b))
		fails(t, "AddBond of the same grains to it alone")(impl.AddBond(h, []impl.Bond{b}, b))
	}
	for _, b := range wrongBonds(6) {
		fails(t, "AddBond that is none")(impl.AddBond(h, list, b))
		fails(t, "AddBond that is none to none")(impl.AddBond(h, nil, b))
	}
	fails(t, "AddBond without grains")(impl.AddBond(impl.Heap{}, nil, bond(0, 1, 1, 1)))
	fails(t, "AddBond without grains")(impl.AddBond(impl.Heap{}, nil, impl.Bond{}))
}

func TestDropBonds(t *testing.T) {
	h := fullHeap(6)
	list := bonds(0, 1, 0, 3, 1, 3, 2, 3, 3, 5)
	for i, want := range [][]impl.Bond{bonds(1, 3, 2, 3, 3, 5), bonds(0, 3, 2, 3, 3, 5), bonds(0, 1, 0, 3, 1, 3, 3, 5), bonds(0, 1), list, list[:4]} {
		gives(t, "DropBonds", want)(impl.DropBonds(h, list, int64(i)))
		gives(t, "DropBonds of none", bonds())(impl.DropBonds(h, nil, int64(i)))
	}
	gives(t, "DropBonds of all", bonds())(impl.DropBonds(h, list[:2], 0))
	for _, i := range wrongIndices(6) {
		fails(t, "DropBonds of no grain")(impl.DropBonds(h, list, i))
		fails(t, "DropBonds of none of no grain")(impl.DropBonds(h, nil, i))
	}
	for _, i := range []int64{-1, 0, 1} {
		fails(t, "DropBonds without grains")(impl.DropBonds(impl.Heap{}, nil, i))
	}
}

func TestBondsOfManyHeaps(t *testing.T) {
	source := rand.New(rand.NewSource(62))
	found := 0
	for _, c := range someTies() {
		for _, near := range []float32{-0.5, 0, someNumber(source, 1), 3, 1e20} {
			want, ok := referenceBonds(c.heap, near, 0.5)
			expects(t, "BondsOf", ok, want)(impl.BondsOf(c.heap, near, 0.5))
			if ok {
				found += len(want)
			}
		}
		for i := range c.heap.Grains {
			want := []impl.Bond{}
			for _, b := range c.list {
				if b.A != int64(i) && b.B != int64(i) {
					want = append(want, b)
				}
			}
			gives(t, "DropBonds", want)(impl.DropBonds(c.heap, c.list, int64(i)))
		}
		// All bonds are put to their places, in any order.
		list := []impl.Bond{}
		for n, k := range source.Perm(len(c.list)) {
			var ok bool
			list, ok = impl.AddBond(c.heap, list, c.list[k])
			check(t, "AddBond", []any{len(list), ok, impl.AreBonds(c.heap, list)}, []any{n + 1, true, true})
		}
		check(t, "all bonds", told(list), told(c.list))
	}
	check(t, "many grains are near", found > 2000, true)
}

// failsForBonds checks all functions with a heap and bonds.
func failsForBonds(t *testing.T, h impl.Heap, list []impl.Bond) {
	t.Helper()
	check(t, "AreBonds", impl.AreBonds(h, list), false)
	fails(t, "AddBond")(impl.AddBond(h, list, bond(0, 1, 1, 1)))
	fails(t, "AddBond")(impl.AddBond(h, list, bond(1, 2, 1, 1)))
	fails(t, "DropBonds")(impl.DropBonds(h, list, 0))
	fails(t, "SnapBonds")(impl.SnapBonds(h, list, 1))
	fails(t, "WeakestBond")(impl.WeakestBond(h, list, 1))
	fails(t, "BondForces")(impl.BondForces(h, list, 1, 0))
	fails(t, "BondEnergy")(impl.BondEnergy(h, list, 1))
	fails(t, "StepBonds")(impl.StepBonds(h, list, 1, 0, 0, 1))
	fails(t, "RunBonds")(impl.RunBonds(h, list, 1, 0, 0, 1, 0))
	fails(t, "RunBonds")(impl.RunBonds(h, list, 1, 0, 0, 1, 1))
	fails(t, "CutBonds")(impl.CutBonds(h, list, 0, 1))
	fails(t, "BondsOfGrain")(impl.BondsOfGrain(h, list, 0))
	fails(t, "BendsAt")(impl.BendsAt(h, list, 0))
	fails(t, "PiecesOf")(impl.PiecesOf(h, list))
	fails(t, "LargestPiece")(impl.LargestPiece(h, list))
	fails(t, "LoopsIn")(impl.LoopsIn(h, list))
	fails(t, "PieceOf")(impl.PieceOf(h, list, 0))
}

// failsForBond checks all functions with a heap and one bond.
func failsForBond(t *testing.T, h impl.Heap, b impl.Bond) {
	t.Helper()
	fails(t, "StretchOf")(impl.StretchOf(h, b))
	fails(t, "BondForce")(impl.BondForce(h, b, 1, 0))
	fails(t, "AddBond")(impl.AddBond(h, nil, b))
}

func TestWrongBonds(t *testing.T) {
	h := heapWith(disc(0, 1), disc(1, 1), disc(2, 1))
	for _, list := range wrongBondLists(3) {
		failsForBonds(t, h, list)
	}
	for _, b := range wrongBonds(3) {
		failsForBond(t, h, b)
	}
	for _, bad := range invalidHeaps() {
		failsForBonds(t, bad, nil)
		failsForBonds(t, bad, bonds(0, 1))
		failsForBond(t, bad, bond(0, 1, 1, 1))
		fails(t, "WaterForce")(impl.WaterForce(bad, 1, 1, 0, 1))
		fails(t, "WaterForces")(impl.WaterForces(bad, 1, 1))
	}
	for _, list := range [][]impl.Bond{bonds(0, 1), {{}}, bonds(0, 0)} {
		for count := range 2 {
			failsForBonds(t, fullHeap(count), list)
			failsForBond(t, fullHeap(count), list[0])
		}
	}
}
