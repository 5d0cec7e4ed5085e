package tests

import (
	"math"
	"math/rand"
	"testing"

	"loop.example/g01268/impl"
)

// bondsTold tells what functions with a heap, bonds and numbers return.
func bondsTold(h impl.Heap, list []impl.Bond, i, k int64, x, y, z float32) string {
	text := told(impl.AreBonds(h, list), impl.SameBonds(list, list), impl.SameBonds(list, nil), impl.SameBonds(nil, list))
	tell := func(results ...any) {
		text += told(results...) + "\n"
	}
	pull, one := complex(y, z), bond(i, k, x, y)
	tell(impl.BondsOf(h, x, y))
	tell(impl.AddBond(h, list, one))
	tell(impl.DropBonds(h, list, i))
	tell(impl.StretchOf(h, one))
	tell(impl.BondForce(h, one, x, z))
	tell(impl.SnapBonds(h, list, x))
	tell(impl.WeakestBond(h, list, x))
	tell(impl.BondForces(h, list, x, y))
	tell(impl.BondEnergy(h, list, x))
	tell(impl.StepBonds(h, list, x, y, pull, z))
	tell(impl.RunBonds(h, list, x, y, pull, z, i))
	tell(impl.CutBonds(h, list, complex(x, y), complex(y, z)))
	tell(impl.BondsOfGrain(h, list, i))
	tell(impl.BendsAt(h, list, i))
	tell(impl.PiecesOf(h, list))
	tell(impl.LargestPiece(h, list))
	tell(impl.LoopsIn(h, list))
	tell(impl.PieceOf(h, list, i))
	tell(impl.WaterForce(h, x, y, i, k))
	tell(impl.WaterForces(h, x, y))
	return text
}

func TestBondsReturnForAllArguments(t *testing.T) {
	source := rand.New(rand.NewSource(67))
	numbers := oddNumbers()
	indices := []int64{-1, 0, 1, 2, 6, 8, 9, 23, 24, 25, 48, 49, math.MinInt64, math.MaxInt64}
	lists := append(wrongBondLists(3), nil, bonds(0, 1), bonds(0, 1, 1, 2), pairBonds(24, 72), pairBonds(1000, 400000))
	for n, h := range oddHeaps() {
		for range 4 {
			x, y, z := numbers[source.Intn(len(numbers))], numbers[source.Intn(len(numbers))], numbers[source.Intn(len(numbers))]
			i, k := indices[source.Intn(len(indices))], indices[source.Intn(len(indices))]
			list := lists[source.Intn(len(lists)-1)]
			if n%300 == 0 {
				list = lists[len(lists)-1]
			}
			check(t, "bonds, again", bondsTold(h, list, i, k, x, y, z), bondsTold(h, list, i, k, x, y, z))
			// Most of the arguments above are wrong; most of these are not.
			check(t, "bonds, again", bondsTold(h, bonds(0, 1), 1, 2, x, 0.5, 1), bondsTold(h, bonds(0, 1), 1, 2, x, 0.5, 1))
			check(t, "bonds, again", bondsTold(h, bonds(0, 1), 1, 2, 0.5, y, z), bondsTold(h, bonds(0, 1), 1, 2, 0.5, y, z))
		}
	}
	for _, c := range someTies() {
		check(t, "bonds, again", bondsTold(c.heap, c.list, 1, 2, 0.5, 2, 0.25), bondsTold(c.heap, c.list, 1, 2, 0.5, 2, 0.25))
	}
}

func TestBondsDoNotModify(t *testing.T) {
	behind, last := held(disc(complex(9, 9), 99)), bond(22, 23, 99, 99)
	for count := range impl.MaxGrains + 2 {
		row, _ := impl.RowOfGrains(int64(min(max(count, 1), 24)), 1, -0.25, 1)
		grains, allGrains := withRoom(append(row.Grains, disc(100, 1))[:count], behind)
		list, allBonds := withRoom(pairBonds(min(count, 8), 72), last)
		before := told(impl.Heap{Grains: allGrains}, allBonds)
		h := impl.Heap{Grains: grains}
		for _, i := range []int64{0, 1, 2, 3, 8, 24, 48} {
			first := bondsTold(h, list, i, 9, 0.5, 0.25, 0.125)
			check(t, "the grains and the bonds", told(impl.Heap{Grains: allGrains}, allBonds), before)
			check(t, "bonds, again", bondsTold(h, list, i, 9, 0.5, 0.25, 0.125), first)
		}
	}
}

func TestNilIsNoBonds(t *testing.T) {
	for _, i := range []int64{0, 1, 2, 24} {
		h, empty := fullHeap(3), impl.Heap{Grains: []impl.Grain{}}
		check(t, "no bonds", bondsTold(h, nil, i, 2, 0.5, 0.5, 1), bondsTold(h, []impl.Bond{}, i, 2, 0.5, 0.5, 1))
		check(t, "no grains", bondsTold(empty, nil, i, 2, 0.5, 0.5, 1), bondsTold(impl.Heap{}, []impl.Bond{}, i, 2, 0.5, 0.5, 1))
	}
}

// made is what one function makes: a heap, bonds, integers, numbers and forces.
type made struct {
	heap     impl.Heap
	list     []impl.Bond
	integers []int64
	numbers  []float32
	forces   []complex64
}

// madeOfBonds returns what functions make of a heap and its bonds.
func madeOfBonds(t *testing.T, h impl.Heap, list []impl.Bond) []made {
	t.Helper()
	all := []made{}
	keep := func(m made, ok bool) {
		t.Helper()
		check(t, "what is made succeeds", ok, true)
		all = append(all, m)
	}
	found, ok := impl.BondsOf(h, 0, 1)
	keep(made{list: found}, ok)
	added, ok := impl.AddBond(h, list, bond(2, 3, 1, 1))
	keep(made{list: added}, ok)
	dropped, ok := impl.DropBonds(h, list, 3)
	keep(made{list: dropped}, ok)
	snapped, _, ok := impl.SnapBonds(h, list, 0)
	keep(made{list: snapped}, ok)
	cut, _, ok := impl.CutBonds(h, list, -9, 1i)
	keep(made{list: cut}, ok)
	step, left, _, ok := impl.StepBonds(h, list, 0, 0, 1, 1)
	keep(made{heap: step, list: left}, ok)
	for _, steps := range []int64{0, 1, 3} {
		run, left, counts, ok := impl.RunBonds(h, list, 0, 0, 1, 1, steps)
		keep(made{heap: run, list: left, integers: counts}, ok)
	}
	piece, own, ok := impl.PieceOf(h, list, 0)
	keep(made{heap: piece, list: own}, ok)
	which, ok := impl.BondsOfGrain(h, list, 1)
	keep(made{integers: which}, ok)
	pieces, _, ok := impl.PiecesOf(h, list)
	keep(made{integers: pieces}, ok)
	bends, ok := impl.BendsAt(h, list, 1)
	keep(made{numbers: bends}, ok)
	forces, ok := impl.BondForces(h, list, 1, 1)
	keep(made{forces: forces}, ok)
	water, ok := impl.WaterForces(h, 1, 1)
	keep(made{forces: water}, ok)
	return all
}

func TestResultsOfBondsAreNew(t *testing.T) {
	row := heap(t, "RowOfGrains")(impl.RowOfGrains(4, 1, -0.25, 1))
	grains, allGrains := withRoom(row.Grains, disc(9, 9))
	list, allBonds := withRoom(bonds(0, 1, 1, 2), bond(2, 3, 9, 9))
	h, before := impl.Heap{Grains: grains}, told(impl.Heap{Grains: allGrains}, allBonds)
	one, other := madeOfBonds(t, h, list), madeOfBonds(t, h, list)
	for n, m := range one {
		want := told(other[n])
		check(t, "what is made", told(m), want)
		spoil(m.heap.Grains, impl.Grain{})
		spoil(m.list, bond(8, 9, 9, 9))
		spoil(m.integers, 99)
		spoil(m.numbers, 99)
		spoil(m.forces, 99)
		check(t, "what is made again", told(other[n]), want)
		check(t, "the arguments", told(impl.Heap{Grains: allGrains}, allBonds), before)
	}
}

func TestBondsThatSnapBearMoreThanTheirStrength(t *testing.T) {
	snapped, held := 0, 0
	for _, c := range someTies() {
		for _, stiff := range []float32{0, 0.5, 2, 10} {
			kept, count, ok := impl.SnapBonds(c.heap, c.list, stiff)
			if !ok {
				continue
			}
			check(t, "kept bonds are bonds", impl.AreBonds(c.heap, kept), true)
			holds := map[impl.Bond]bool{}
			for _, b := range kept {
				holds[b] = true
			}
			for _, b := range c.list {
				stretch, ok := impl.StretchOf(c.heap, b)
				load := math.Abs(float64(stiff * stretch))
				check(t, "a bond snaps if it bears more than its strength", ok && holds[b] == (load <= float64(b.Strength)), true)
				if !holds[b] {
					count--
					snapped++
				} else if load > 0 {
					held++
				}
			}
			check(t, "all that snap are counted", count, 0)
			if _, over, ok := impl.WeakestBond(c.heap, c.list, stiff); ok {
				check(t, "the weakest bond snaps if one does", over > 0, len(kept) < len(c.list))
			}
			again, more, ok := impl.SnapBonds(c.heap, kept, stiff)
			check(t, "no more snap", told(again, more, ok), told(kept, 0, true))
		}
	}
	check(t, "many bonds snap, and many hold", []bool{snapped > 2000, held > 500}, "[true true]")
}

func TestBondsThatSnapStaySnapped(t *testing.T) {
	source := rand.New(rand.NewSource(68))
	total := int64(0)
	for range 100 {
		h := someHeap(source, 12, 3)
		list := someBonds(source, h)
		left, sum := list, int64(0)
		_, last, counts, ok := impl.RunBonds(h, list, 2, 0.1, 0, 0.1, 20)
		check(t, "RunBonds succeeds", ok, true)
		for _, count := range counts {
			step, kept, snapped, ok := impl.StepBonds(h, left, 2, 0.1, 0, 0.1)
			check(t, "a step of many", []any{snapped, ok}, []any{count, true})
			check(t, "bonds that snap are gone", int64(len(left)-len(kept)), snapped)
			for _, b := range kept {
				isBefore := false
				for _, before := range left {
					isBefore = isBefore || before == b
				}
				check(t, "bonds that hold are as they were", isBefore, true)
			}
			h, left, sum = step, kept, sum+snapped
		}
		check(t, "all bonds hold or have snapped", told(last, sum), told(left, int64(len(list)-len(last))))
		total += sum
	}
	check(t, "many bonds snap", total > 500, true)
}

func TestBondsPullNothingTogether(t *testing.T) {
	source := rand.New(rand.NewSource(69))
	for range 300 {
		h := someHeap(source, 2+source.Intn(23), 3)
		list := someBonds(source, h)
		pulled, ok := impl.BondForces(h, list, 3, 0.5)
		water, waterOk := impl.WaterForces(h, 2, 1.5)
		check(t, "forces succeed", ok && waterOk, true)
		for _, forces := range [][]complex64{pulled, water} {
			sum, size := complex64(0), float32(1)
			for _, f := range forces {
				sum, size = sum+f, size+long32(f)
			}
			check(t, "forces are nothing together", isNearly(real(sum), 0, size) && isNearly(imag(sum), 0, size), true)
		}
		for _, b := range list {
			force, _ := impl.BondForce(h, b, 3, 0)
			stretch, _ := impl.StretchOf(h, b)
			check(t, "a bond pulls what is stretched, and pushes what is pushed", force*stretch >= 0, true)
			water, _ := impl.WaterForce(h, 2, 1.5, b.A, b.B)
			back, _ := impl.WaterForce(h, 2, 1.5, b.B, b.A)
			check(t, "water pulls the same from both sides, and never pushes", 0 <= water && water <= 2 && water == back, true)
		}
	}
}

func TestBondsPullAsTheirEnergyFalls(t *testing.T) {
	source := rand.New(rand.NewSource(70))
	for range 200 {
		h := someHeap(source, 6, 3)
		list := []impl.Bond{}
		for _, b := range pairBonds(6, 15) {
			list = append(list, bond(b.A, b.B, b.Long+1, 0))
		}
		forces, _ := impl.BondForces(h, list, 2, 0)
		before, ok := impl.BondEnergy(h, list, 2)
		for i := range h.Grains {
			moved := heapWith(append([]impl.Grain{}, h.Grains...)...)
			moved.Grains[i].At += complex(0, 1.0/64)
			after, afterOk := impl.BondEnergy(moved, list, 2)
			fall := (before - after) * 64
			check(t, "a force is how the energy falls", ok && afterOk && math.Abs(float64(fall-imag(forces[i]))) < 1, true)
		}
	}
}

func TestPiecesHaveAllGrainsAndBonds(t *testing.T) {
	for _, c := range someTies() {
		pieces, count, ok := impl.PiecesOf(c.heap, c.list)
		check(t, "PiecesOf succeeds", []any{len(pieces), ok}, []any{len(c.heap.Grains), true})
		for _, b := range c.list {
			check(t, "grains of a bond are in one piece", pieces[b.A] == pieces[b.B], true)
		}
		_, largest, _ := impl.LargestPiece(c.heap, c.list)
		grains, ties, loops, most := make([]int, count), 0, int64(0), int64(0)
		for _, n := range pieces {
			grains[n]++
		}
		for n := range count {
			part, own, ok := impl.PieceOf(c.heap, c.list, n)
			check(t, "PieceOf succeeds", ok && impl.AreBonds(part, own), true)
			check(t, "a piece has its grains", len(part.Grains), grains[n])
			_, parts, _ := impl.PiecesOf(part, own)
			check(t, "a piece is one piece", parts, 1)
			loop, _ := impl.LoopsIn(part, own)
			ties, loops, most = ties+len(own), loops+loop, max(most, int64(len(part.Grains)))
			stretches, inPiece := "", ""
			for _, b := range c.list {
				if pieces[b.A] == n {
					stretches += told(impl.StretchOf(c.heap, b))
				}
			}
			for _, b := range own {
				inPiece += told(impl.StretchOf(part, b))
			}
			check(t, "bonds are stretched in a piece as in the heap", inPiece, stretches)
		}
		check(t, "all bonds are in pieces", ties, len(c.list))
		check(t, "the largest piece", most, largest)
		all, ok := impl.LoopsIn(c.heap, c.list)
		check(t, "all loops are in pieces", []any{all, ok, all >= 0}, []any{loops, true, true})
		// A bond that joins two grains of a piece makes a loop; another one joins two pieces.
		if len(c.list) > 0 {
			less := c.list[1:]
			before, _ := impl.LoopsIn(c.heap, less)
			_, parts, _ := impl.PiecesOf(c.heap, less)
			check(t, "a bond makes a loop, or one piece of two", all-before+parts-count, 1)
		}
	}
}

func TestCutBondsStayOnTheirSide(t *testing.T) {
	source := rand.New(rand.NewSource(71))
	for range 200 {
		h := someHeap(source, 20, 2)
		list := someBonds(source, h)
		kept, cut, ok := impl.CutBonds(h, list, 0, 1i)
		check(t, "CutBonds succeeds", []any{len(kept) + int(cut), ok}, []any{len(list), true})
		pieces, _, _ := impl.PiecesOf(h, kept)
		for i, a := range h.Grains {
			for k, b := range h.Grains {
				check(t, "no piece lies on both sides", pieces[i] == pieces[k] && real(a.At) < 0 && real(b.At) > 0, false)
			}
		}
		back, again, _ := impl.CutBonds(h, list, 5i, -2i)
		check(t, "the line the other way cuts the same", told(back, again), told(kept, cut))
	}
}
