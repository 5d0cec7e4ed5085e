package tests

import (
	"math"
	"math/rand"
	"testing"

	"loop.example/g01268/impl"
)

func TestCutBonds(t *testing.T) {
	h := beads(0, 1, 2, 3)
	h.Grains = append(h.Grains, held(disc(complex(1, 5), 1)))
	list := bonds(0, 1, 0, 3, 1, 2, 1, 4, 2, 3, 3, 4)
	for _, c := range []struct {
		at, way complex64
		kept    []impl.Bond
	}{
		{1.5, 1i, bonds(0, 1, 1, 4, 2, 3)}, {1.5, -1i, bonds(0, 1, 1, 4, 2, 3)}, {complex(1.5, 99), complex(0, 1e-30), bonds(0, 1, 1, 4, 2, 3)},
		// The line goes through the grains 1 and 4, whose bonds stay.
		{1, 1i, bonds(0, 1, 1, 2, 1, 4, 2, 3, 3, 4)}, {complex(1, 7), complex(0, -7), bonds(0, 1, 1, 2, 1, 4, 2, 3, 3, 4)},
		{1, 1, list}, {negativeZeros(), -3, list},
		{complex(0, 1), 1, bonds(0, 1, 0, 3, 1, 2, 2, 3)}, {complex(0, number(1)), 1, bonds(0, 1, 0, 3, 1, 2, 2, 3)},
		// No bond goes through the line.
		{-1, 1i, list}, {4, complex(0, -1), list}, {complex(0, 6), 1, list}, {complex(0, -1), 1, list}, {complex(5, 0), complex(1, 1), list},
		{complex(1.5, 0), complex(1, 1), bonds(0, 1, 1, 4, 2, 3)}, {complex(1.5, 0), complex(-1, 1), bonds(0, 1, 2, 3, 3, 4)},
	} {
		gives(t, "CutBonds", c.kept, int64(len(list)-len(c.kept)))(impl.CutBonds(h, list, c.at, c.way))
		gives(t, "CutBonds of none", bonds(), int64(0))(impl.CutBonds(h, nil, c.at, c.way))
		gives(t, "CutBonds without grains", bonds(), int64(0))(impl.CutBonds(impl.Heap{}, nil, c.at, c.way))
	}
	gives(t, "CutBonds of all", bonds(), int64(1))(impl.CutBonds(beads(0, 1), bonds(0, 1), 0.5, 1i))
	gives(t, "CutBonds at one place", bonds(0, 1), int64(0))(impl.CutBonds(beads(1, 1), bonds(0, 1), 0.5, 1i))
}

func TestCutBondsFar(t *testing.T) {
	// The difference to the first grain is infinite, which is a side unless it is a not-a-number.
	h := heapWith(disc(3e38, 1), disc(complex(-3e38, 5), 1))
	gives(t, "CutBonds with an infinite side", bonds(), int64(1))(impl.CutBonds(h, bonds(0, 1), -3e38, complex(1, 1)))
	gives(t, "CutBonds with an infinite side", bonds(0, 1), int64(0))(impl.CutBonds(h, bonds(0, 1), -3e38, complex(1, -1)))
	gives(t, "CutBonds with a side that is a not-a-number", bonds(0, 1), int64(0))(impl.CutBonds(h, bonds(0, 1), -3e38, 1))
	gives(t, "CutBonds with a side that is a not-a-number", bonds(0, 1), int64(0))(impl.CutBonds(h, bonds(0, 1), -3e38, -1))
}

func TestCutBondsFails(t *testing.T) {
	for _, h := range []impl.Heap{{}, facing(1, 0)} {
		for _, x := range notFinite() {
			for _, wrong := range []complex64{complex(x, 1), complex(1, x)} {
				fails(t, "CutBonds at a wrong point")(impl.CutBonds(h, nil, wrong, 1))
				fails(t, "CutBonds with a wrong way")(impl.CutBonds(h, nil, 0, wrong))
			}
		}
		for _, way := range []complex64{0, negativeZeros(), complex(0, negativeZero()), complex(negativeZero(), 0)} {
			fails(t, "CutBonds with a way of 0")(impl.CutBonds(h, nil, 0, way))
		}
		for _, way := range []complex64{complex(number(1), 0), complex(0, number(0x80000001)), complex(math.MaxFloat32, -math.MaxFloat32)} {
			gives(t, "CutBonds with any way", bonds(), int64(0))(impl.CutBonds(h, nil, complex(-math.MaxFloat32, 0), way))
		}
	}
}

func TestBondsOfGrain(t *testing.T) {
	h := fullHeap(6)
	list := bonds(0, 1, 0, 3, 1, 3, 2, 3, 3, 5)
	for i, want := range [][]int64{{0, 1}, {0, 2}, {3}, {1, 2, 3, 4}, {}, {4}} {
		gives(t, "BondsOfGrain", want)(impl.BondsOfGrain(h, list, int64(i)))
		gives(t, "BondsOfGrain of none", []int64{})(impl.BondsOfGrain(h, nil, int64(i)))
		gives(t, "BendsAt of none", []float32{})(impl.BendsAt(h, nil, int64(i)))
	}
	for _, i := range wrongIndices(6) {
		fails(t, "BondsOfGrain of no grain")(impl.BondsOfGrain(h, list, i))
		fails(t, "BendsAt no grain")(impl.BendsAt(h, list, i))
	}
	for _, i := range []int64{-1, 0, 1} {
		fails(t, "BondsOfGrain without grains")(impl.BondsOfGrain(impl.Heap{}, nil, i))
		fails(t, "BendsAt without grains")(impl.BendsAt(impl.Heap{}, nil, i))
	}
}

func TestBendsAt(t *testing.T) {
	// Around the grain 2, the others are to the right, below, above and to the left.
	h := heapWith(disc(complex(3, 1), 1), disc(complex(1, -4), 1), held(disc(complex(1, 1), 1)), disc(complex(1, 2), 1), disc(complex(-5, 1), 1), disc(complex(2, 2), 1))
	list := bonds(0, 2, 1, 2, 1, 5, 2, 3, 2, 4, 2, 5)
	gives(t, "BendsAt", []float32{-0.25, 0.5, 0.25, impl.AngleOf(mulComplex32(referenceWay(h.Grains[2], h.Grains[5]), -1))})(impl.BendsAt(h, list, 2))
	gives(t, "BendsAt two bonds", []float32{-0.25})(impl.BendsAt(h, bonds(0, 2, 1, 2), 2))
	gives(t, "BendsAt two bonds that go on", []float32{0.5})(impl.BendsAt(h, bonds(0, 2, 2, 4), 2))
	gives(t, "BendsAt three bonds", []float32{-0.25, 0.5})(impl.BendsAt(h, bonds(0, 2, 1, 2, 2, 3), 2))
	gives(t, "BendsAt two bonds that lie on one another", []float32{0})(impl.BendsAt(beads(0, 1, 7), bonds(0, 1, 0, 2), 0))
	gives(t, "BendsAt one bond", []float32{})(impl.BendsAt(h, list, 0))
	gives(t, "BendsAt one bond", []float32{})(impl.BendsAt(h, list, 4))
	gives(t, "BendsAt a grain without bonds", []float32{})(impl.BendsAt(h, bonds(0, 1), 2))
	// The way goes from the grain to the other one, also where this has the lesser index.
	gives(t, "BendsAt the last grain", []float32{0.25})(impl.BendsAt(heapWith(disc(1, 1), disc(complex(0, 1), 1), disc(0, 1)), bonds(0, 2, 1, 2), 2))
	gives(t, "BendsAt the first grain", []float32{-0.25})(impl.BendsAt(heapWith(disc(0, 1), disc(complex(0, 1), 1), disc(1, 1)), bonds(0, 1, 0, 2), 0))
}

func TestBendsAtFails(t *testing.T) {
	h := beads(0, 1, 2, 2, 4)
	fails(t, "BendsAt one bond without a way")(impl.BendsAt(h, bonds(2, 3), 2))
	fails(t, "BendsAt one bond without a way")(impl.BendsAt(h, bonds(2, 3), 3))
	fails(t, "BendsAt a last bond without a way")(impl.BendsAt(h, bonds(0, 2, 1, 2, 2, 3), 2))
	fails(t, "BendsAt a bond without a way between others")(impl.BendsAt(h, bonds(1, 2, 2, 3, 2, 4), 2))
	fails(t, "BendsAt a first bond without a way")(impl.BendsAt(h, bonds(2, 3, 3, 4), 3))
	gives(t, "BendsAt another grain", []float32{0.5})(impl.BendsAt(h, bonds(0, 1, 1, 2, 2, 3), 1))
	far := heapWith(disc(-2e38, 1), disc(2e38, 1), disc(0, 1))
	fails(t, "BendsAt a bond that is too long")(impl.BendsAt(far, bonds(0, 1), 0))
	gives(t, "BendsAt long bonds", []float32{0.5})(impl.BendsAt(far, bonds(0, 1, 0, 2, 1, 2), 2))
}

func TestPiecesOf(t *testing.T) {
	for _, c := range []struct {
		count       int
		list        []impl.Bond
		pieces      []int64
		most, index int64
		loops       int64
	}{
		{1, bonds(), []int64{0}, 1, 0, 0}, {2, bonds(), []int64{0, 1}, 1, 0, 0}, {2, bonds(0, 1), []int64{0, 0}, 2, 0, 0},
		{3, bonds(1, 2), []int64{0, 1, 1}, 2, 1, 0}, {3, bonds(0, 2), []int64{0, 1, 0}, 2, 0, 0}, {3, bonds(0, 1, 0, 2, 1, 2), []int64{0, 0, 0}, 3, 0, 1},
		// The bonds of the last grains join what is apart before.
		{6, bonds(0, 4, 1, 5, 2, 3, 3, 5), []int64{0, 1, 1, 1, 0, 1}, 4, 1, 0}, {6, bonds(0, 5, 1, 4, 2, 5, 3, 4, 4, 5), []int64{0, 0, 0, 0, 0, 0}, 6, 0, 0},
		{6, bonds(2, 5, 3, 4), []int64{0, 1, 2, 3, 3, 2}, 2, 2, 0}, {6, bonds(0, 5, 1, 4, 2, 3), []int64{0, 1, 2, 2, 1, 0}, 2, 0, 0},
		{7, bonds(0, 1, 0, 6, 1, 6, 2, 3, 2, 4, 3, 4), []int64{0, 0, 1, 1, 1, 2, 0}, 3, 0, 2}, {4, bonds(0, 1, 0, 2, 0, 3, 1, 2, 1, 3, 2, 3), []int64{0, 0, 0, 0}, 4, 0, 3},
	} {
		h, count := fullHeap(c.count), c.pieces[0]
		for _, n := range c.pieces {
			count = max(count, n+1)
		}
		gives(t, "PiecesOf", c.pieces, count)(impl.PiecesOf(h, c.list))
		gives(t, "LargestPiece", c.index, c.most)(impl.LargestPiece(h, c.list))
		gives(t, "LoopsIn", c.loops)(impl.LoopsIn(h, c.list))
	}
	gives(t, "PiecesOf no grains", []int64{}, int64(0))(impl.PiecesOf(impl.Heap{}, nil))
	gives(t, "LoopsIn no grains", int64(0))(impl.LoopsIn(impl.Heap{}, nil))
	fails(t, "LargestPiece of no grains")(impl.LargestPiece(impl.Heap{}, nil))
	fails(t, "PieceOf no grains")(impl.PieceOf(impl.Heap{}, nil, 0))
}

func TestPiecesOfAllGrains(t *testing.T) {
	h, single, chain, back := fullHeap(24), []int64{}, bonds(), bonds()
	for i := range int64(24) {
		single = append(single, i)
		if i < 23 {
			chain = append(chain, bonds(i, i+1)...)
		}
	}
	gives(t, "PiecesOf without bonds", single, int64(24))(impl.PiecesOf(h, nil))
	gives(t, "LoopsIn without bonds", int64(0))(impl.LoopsIn(h, nil))
	gives(t, "PiecesOf a chain", make([]int64, 24), int64(1))(impl.PiecesOf(h, chain))
	// A chain that goes from 0 to 12, then to 1, 13, 2 and so on: each number comes far.
	for i := range int64(12) {
		if i > 0 {
			back = append(back, bonds(i, i+11)...)
		}
		back = append(back, bonds(i, i+12)...)
	}
	gives(t, "PiecesOf a chain there and back", make([]int64, 24), int64(1))(impl.PiecesOf(h, back))
	gives(t, "LargestPiece of a chain", int64(0), int64(24))(impl.LargestPiece(h, back))
	gives(t, "LoopsIn a chain", int64(0))(impl.LoopsIn(h, back))
	gives(t, "LoopsIn MaxBonds bonds", int64(72-24+10))(impl.LoopsIn(h, append(pairBonds(12, 66), bonds(12, 13, 12, 14, 12, 15, 13, 14, 13, 15, 14, 15)...)))
}

func TestPieceOf(t *testing.T) {
	h := fullHeap(7)
	list := []impl.Bond{bond(0, 3, 1, 2), bond(1, 6, 3, 4), bond(3, 4, 5, 6), bond(4, 5, 7, 0), bond(5, 6, 9, 1)}
	part := func(grains ...int) impl.Heap {
		p := impl.Heap{}
		for _, i := range grains {
			p.Grains = append(p.Grains, h.Grains[i])
		}
		return p
	}
	gives(t, "PieceOf", part(0, 1, 3, 4, 5, 6), []impl.Bond{bond(0, 2, 1, 2), bond(1, 5, 3, 4), bond(2, 3, 5, 6), bond(3, 4, 7, 0), bond(4, 5, 9, 1)})(impl.PieceOf(h, list, 0))
	gives(t, "PieceOf one grain", part(2), bonds())(impl.PieceOf(h, list, 1))
	gives(t, "PieceOf the first grains", part(0, 3, 4, 5), []impl.Bond{bond(0, 1, 1, 2), bond(1, 2, 5, 6), bond(2, 3, 7, 0)})(impl.PieceOf(h, list[:4], 0))
	gives(t, "PieceOf the last grains", part(1, 6), []impl.Bond{bond(0, 1, 3, 4)})(impl.PieceOf(h, list[:4], 1))
	gives(t, "PieceOf one of two", part(0, 3), []impl.Bond{bond(0, 1, 1, 2)})(impl.PieceOf(h, []impl.Bond{list[0], bond(1, 2, 1, 2)}, 0))
	gives(t, "PieceOf the other one of two", part(1, 2), []impl.Bond{bond(0, 1, 1, 2)})(impl.PieceOf(h, []impl.Bond{list[0], bond(1, 2, 1, 2)}, 1))
	gives(t, "PieceOf all", h, pairBonds(7, 21))(impl.PieceOf(h, pairBonds(7, 21), 0))
	for _, n := range []int64{-1, 2, 7, math.MinInt64, math.MaxInt64, 1 << 32} {
		fails(t, "PieceOf a piece that is not there")(impl.PieceOf(h, list, n))
	}
	for n := range int64(7) {
		gives(t, "PieceOf without bonds", part(int(n)), bonds())(impl.PieceOf(h, nil, n))
	}
}

func TestPiecesOfManyHeaps(t *testing.T) {
	source := rand.New(rand.NewSource(65))
	cuts, bent, split := 0, 0, 0
	for _, c := range someTies() {
		for _, way := range []complex64{1, 1i, somePoint(source, 1), somePoint(source, 1e30)} {
			at := somePoint(source, 1)
			if source.Intn(4) == 0 && len(c.heap.Grains) > 0 {
				at = c.heap.Grains[source.Intn(len(c.heap.Grains))].At
			}
			kept, cut := referenceCut(c, at, way)
			gives(t, "CutBonds", kept, cut)(impl.CutBonds(c.heap, c.list, at, way))
			if cut > 0 && len(kept) > 0 {
				cuts++
			}
		}
		for i := range int64(len(c.heap.Grains)) {
			which, bends, ok := referenceBends(c, i)
			gives(t, "BondsOfGrain", which)(impl.BondsOfGrain(c.heap, c.list, i))
			expectFinite(t, "BendsAt", ok, bends)(impl.BendsAt(c.heap, c.list, i))
			if ok {
				bent += len(bends)
			}
		}
		pieces, count := referencePieces(c)
		gives(t, "PiecesOf", pieces, count)(impl.PiecesOf(c.heap, c.list))
		index, most, ok := referenceLargest(c)
		expects(t, "LargestPiece", ok, index, most)(impl.LargestPiece(c.heap, c.list))
		gives(t, "LoopsIn", int64(len(c.list))-int64(len(c.heap.Grains))+count)(impl.LoopsIn(c.heap, c.list))
		for n := range count {
			part := referencePiece(c, n)
			gives(t, "PieceOf", part.heap, part.list)(impl.PieceOf(c.heap, c.list, n))
			if count > 1 && len(part.list) > 1 {
				split++
			}
		}
		fails(t, "PieceOf a piece that is not there")(impl.PieceOf(c.heap, c.list, count))
	}
	check(t, "many bonds are cut and bent, and make pieces", []bool{cuts > 200, bent > 5000, split > 50}, "[true true true]")
}
