package tests

import (
	"math"
	"math/rand"
	"testing"

	"loop.example/g01268/impl"
)

// checkPair checks what is told of two grains.
func checkPair(t *testing.T, h impl.Heap, i, k int64) {
	t.Helper()
	a, b := h.Grains[i], h.Grains[k]
	gap, way := referenceGap(a, b), referenceWay(a, b)
	along, across := referenceSlide(a, b)
	expect := func(finite bool, what string, wants ...any) func(results ...any) {
		if finite {
			return gives(t, what, wants...)
		}
		return fails(t, what)
	}
	expect(isFinite(gap), "GapOf", gap)(impl.GapOf(h, i, k))
	expect(isFinite(real(way), imag(way)), "WayOf", way)(impl.WayOf(h, i, k))
	expect(isFinite(along, across), "SlideOf", along, across)(impl.SlideOf(h, i, k))
}

func TestPairs(t *testing.T) {
	for _, h := range someHeaps() {
		for i := range h.Grains {
			for k := range h.Grains {
				if i != k {
					checkPair(t, h, int64(i), int64(k))
				}
			}
		}
	}
}

func TestGapsAndWays(t *testing.T) {
	h := heapWith(disc(complex(1, 1), 1), held(disc(complex(4, 5), 2)), disc(complex(1, 2), 0.75))
	gives(t, "GapOf", float32(2))(impl.GapOf(h, 0, 1))
	gives(t, "WayOf", complex64(complex(0.6, 0.8)))(impl.WayOf(h, 0, 1))
	gives(t, "GapOf of grains that overlap", float32(-0.75))(impl.GapOf(h, 0, 2))
	gives(t, "WayOf up", complex64(complex(0, 1)))(impl.WayOf(h, 0, 2))
	gives(t, "WayOf down", complex64(complex(0, -1)))(impl.WayOf(h, 2, 0))
	for _, i := range wrongIndices(3) {
		for _, pair := range [][2]int64{{i, 0}, {0, i}, {i, i}} {
			failsForPair(t, h, pair[0], pair[1])
		}
	}
	for i := range int64(3) {
		failsForPair(t, h, i, i)
	}
	failsForPair(t, impl.Heap{}, 0, 0)
	failsForPair(t, impl.Heap{}, 0, 1)
	for _, bad := range invalidHeaps() {
		failsForPair(t, bad, 0, 1)
	}
}

func failsForPair(t *testing.T, h impl.Heap, i, k int64) {
	t.Helper()
	fails(t, "GapOf")(impl.GapOf(h, i, k))
	fails(t, "WayOf")(impl.WayOf(h, i, k))
	fails(t, "SlideOf")(impl.SlideOf(h, i, k))
}

func TestGrainsAtOnePlace(t *testing.T) {
	for _, at := range []complex64{0, complex(0.1, -3), complex(3e38, 3e38), complex(number(1), 0)} {
		h := heapWith(disc(at, 0.5), disc(at, 2), disc(0, 1))
		gives(t, "GapOf", float32(-2.5))(impl.GapOf(h, 0, 1))
		fails(t, "WayOf")(impl.WayOf(h, 0, 1))
		fails(t, "SlideOf")(impl.SlideOf(h, 0, 1))
		gives(t, "PairsNear", [][]int64{{0, 1}})(impl.PairsNear(heapWith(h.Grains[:2]...), -2.5))
	}
	h := heapWith(disc(complex(0, negativeZero()), 1), disc(complex(negativeZero(), 0), 1))
	gives(t, "GapOf at zeros", float32(-2))(impl.GapOf(h, 0, 1))
	fails(t, "WayOf at zeros")(impl.WayOf(h, 1, 0))
	gives(t, "PairsByCells", [][]int64{{0, 1}})(impl.PairsByCells(h, 0, 2))
}

func TestGrainsThatAreNextToOnePlace(t *testing.T) {
	h := heapWith(disc(0, 1), disc(complex(number(1), 0), 1), disc(complex(0, number(0x80000003)), 1))
	gives(t, "GapOf", float32(-2))(impl.GapOf(h, 0, 1))
	gives(t, "WayOf right", complex64(1))(impl.WayOf(h, 0, 1))
	gives(t, "WayOf down", complex64(complex(0, -1)))(impl.WayOf(h, 0, 2))
}

func TestSlides(t *testing.T) {
	a := impl.Grain{Speed: complex(1, 0), Radius: 1, Mass: 1, Spin: 2}
	b := impl.Grain{At: complex(0, 3), Speed: complex(0, 5), Radius: 0.5, Mass: 7, Spin: -6}
	// On the way up, what goes right goes across it with a minus: b goes left of a.
	gives(t, "SlideOf", float32(5), float32(1-(2-3)))(impl.SlideOf(heapWith(a, b), 0, 1))
	gives(t, "SlideOf from the other side", float32(5), float32(1-(2-3)))(impl.SlideOf(heapWith(a, held(b)), 1, 0))
	b.Speed = complex(1, -2)
	gives(t, "SlideOf of grains that come near", float32(-2), float32(1))(impl.SlideOf(heapWith(a, b), 0, 1))
}

func TestPairsAreFinite(t *testing.T) {
	far := heapWith(disc(-2e38, 1), disc(2e38, 1))
	failsForPair(t, far, 0, 1)
	fails(t, "PairsNear")(impl.PairsNear(far, 1))
	wide := heapWith(disc(0, 2e38), disc(1, 2e38))
	fails(t, "GapOf of wide grains")(impl.GapOf(wide, 0, 1))
	gives(t, "WayOf of wide grains", complex64(1))(impl.WayOf(wide, 0, 1))
	gives(t, "SlideOf of wide grains", float32(0), float32(0))(impl.SlideOf(wide, 0, 1))
	long := heapWith(disc(0, 1), disc(complex(3e38, 3e38), 1))
	failsForPair(t, long, 0, 1)
	fast := heapWith(impl.Grain{Speed: 3e38, Radius: 1, Mass: 1}, impl.Grain{At: 3, Speed: -3e38, Radius: 1, Mass: 1})
	gives(t, "GapOf of fast grains", float32(1))(impl.GapOf(fast, 0, 1))
	fails(t, "SlideOf of fast grains")(impl.SlideOf(fast, 0, 1))
	turning := heapWith(impl.Grain{Radius: 2, Mass: 1, Spin: 3e38}, impl.Grain{At: 3, Radius: 1, Mass: 1})
	fails(t, "SlideOf of grains that turn fast")(impl.SlideOf(turning, 0, 1))
}

func TestPairsNear(t *testing.T) {
	row := heap(t, "RowOfGrains")(impl.RowOfGrains(4, 0.5, 1, 1))
	gives(t, "PairsNear of a row", [][]int64{{0, 1}, {1, 2}, {2, 3}})(impl.PairsNear(row, 1))
	gives(t, "PairsNear below the gap", [][]int64{})(impl.PairsNear(row, number(0x3f7fffff)))
	gives(t, "PairsNear of the next ones", [][]int64{{0, 1}, {0, 2}, {1, 2}, {1, 3}, {2, 3}})(impl.PairsNear(row, 3))
	gives(t, "PairsNear of all", [][]int64{{0, 1}, {0, 2}, {0, 3}, {1, 2}, {1, 3}, {2, 3}})(impl.PairsNear(row, math.MaxFloat32))
	touching := heapWith(disc(0, 1), held(disc(2, 1)), held(disc(4, 1)))
	for _, near := range []float32{0, negativeZero()} {
		gives(t, "PairsNear that touch", [][]int64{{0, 1}, {1, 2}})(impl.PairsNear(touching, near))
	}
	gives(t, "PairsNear that overlap", [][]int64{})(impl.PairsNear(touching, -0.5))
	for _, h := range []impl.Heap{{}, fullHeap(1)} {
		gives(t, "PairsNear without pairs", [][]int64{})(impl.PairsNear(h, 1))
	}
	for _, x := range notFinite() {
		for _, h := range []impl.Heap{{}, row} {
			fails(t, "PairsNear no finite number")(impl.PairsNear(h, x))
		}
	}
	for _, bad := range invalidHeaps() {
		fails(t, "PairsNear of a wrong heap")(impl.PairsNear(bad, 1))
	}
}

func TestPairsNearOfManyHeaps(t *testing.T) {
	for _, h := range someHeaps() {
		for _, near := range []float32{-1, -0.1, 0, 0.5, 3, 1e4, 1e38} {
			want, ok := referencePairsNear(h, near)
			if ok {
				gives(t, "PairsNear", want)(impl.PairsNear(h, near))
			} else {
				fails(t, "PairsNear")(impl.PairsNear(h, near))
			}
		}
	}
}

func TestPairsByCellsOfManyHeaps(t *testing.T) {
	source := rand.New(rand.NewSource(4))
	for _, h := range someHeaps() {
		for _, near := range []float32{0, 0.5, 3, 1e4, 1e38} {
			side := near * 1.1
			for _, g := range h.Grains {
				side = max(side, add32(near, mul32(2, g.Radius)))
			}
			for _, by := range []float32{0, 1, 1e13, float32(source.Float64())} {
				checkCells(t, h, near, side+side*by+number(1))
			}
		}
	}
}

// checkCells checks the pairs that are found by cells.
func checkCells(t *testing.T, h impl.Heap, near, side float32) {
	t.Helper()
	want, ok := referencePairsByCells(h, near, side)
	if ok {
		gives(t, "PairsByCells", want)(impl.PairsByCells(h, near, side))
	} else {
		fails(t, "PairsByCells")(impl.PairsByCells(h, near, side))
	}
}

// checkEdge checks that PairsNear finds two grains that are 4 apart, or less,
// and that cells with the side 4 do so too.
func checkEdge(t *testing.T, a, b complex64) {
	t.Helper()
	for _, h := range []impl.Heap{heapWith(disc(a, 1), disc(b, 1)), heapWith(disc(b, 1), disc(a, 1))} {
		gives(t, "PairsNear at an edge", [][]int64{{0, 1}})(impl.PairsNear(h, 2))
		gives(t, "PairsByCells at an edge", [][]int64{{0, 1}})(impl.PairsByCells(h, 2, 4))
	}
}

func TestPairsAtTheEdgeOfACell(t *testing.T) {
	tiny := number(1)
	before, behind := number(0x407fffff), number(0x40800001) // next to 4
	for _, x := range []float32{-8, -4, 0, 4, 8, 1 << 20} {
		checkEdge(t, complex(x, 0), complex(x+4, 0))
		checkEdge(t, complex(0, x), complex(0, x+4))
	}
	for _, x := range []float32{before, 4, behind, 1} {
		for _, y := range []float32{before, 4, behind, 1, 4.5} {
			checkEdge(t, complex(x, -1), complex(y, -1))
			checkEdge(t, complex(-1, x), complex(-1, y))
			checkEdge(t, complex(-x, 9), complex(-y, 9))
		}
	}
	for _, x := range []float32{tiny, -tiny, 0, negativeZero()} {
		for _, y := range []float32{tiny, 0, before, 4, -tiny, -before, -4} {
			checkEdge(t, complex(x, -1), complex(y, -1))
			checkEdge(t, complex(8, x), complex(8, y))
		}
	}
}

func TestPairsInNeighbourCells(t *testing.T) {
	for _, corner := range []complex64{0, 4, complex(0, -4), complex(-8, 12), complex(40, 40)} {
		for _, x := range []float32{-0.5, 0.5, 3.5} {
			for _, y := range []float32{-0.5, 0.5, 3.5} {
				checkEdge(t, corner+complex(1.5, 1.5), corner+complex(x, y))
			}
		}
		checkEdge(t, corner+complex(0.5, -0.5), corner+complex(-0.5, 0.5))
		checkEdge(t, corner+complex(0.5, 0.5), corner+complex(-0.5, -0.5))
	}
	nine := impl.Heap{}
	for x := range 3 {
		for y := range 3 {
			nine.Grains = append(nine.Grains, disc(complex(float32(2*x-1), float32(2*y-1)), 0.5))
		}
	}
	want := [][]int64{{0, 1}, {0, 3}, {1, 2}, {1, 4}, {2, 5}, {3, 4}, {3, 6}, {4, 5}, {4, 7}, {5, 8}, {6, 7}, {7, 8}}
	gives(t, "PairsByCells of nine grains", want)(impl.PairsByCells(nine, 1, 2))
	gives(t, "PairsByCells with wide cells", want)(impl.PairsByCells(nine, 1, 100))
}

// Rounding makes two grains that are a bit more than 4 apart seem to be 4
// apart, so that they are near, although a cell lies between theirs.
func TestPairsThatCellsDoNotFind(t *testing.T) {
	for _, sign := range []float32{1, -1} {
		h := heapWith(disc(complex(sign*number(0x407fffff), 0), 1), disc(complex(sign*8, 0), 1))
		gives(t, "GapOf", float32(2))(impl.GapOf(h, 0, 1))
		gives(t, "PairsNear", [][]int64{{0, 1}})(impl.PairsNear(h, 2))
		want := [][]int64{}
		if sign < 0 {
			want = [][]int64{{0, 1}} // -8 is at the beginning of the cell -2, next to the cell -1
		}
		gives(t, "PairsByCells", want)(impl.PairsByCells(h, 2, 4))
	}
}

func TestCellsAskNeighboursOnly(t *testing.T) {
	far := heapWith(disc(-2e38, 1), disc(2e38, 1))
	for _, h := range []impl.Heap{far, heapWith(disc(complex(0, -2e38), 1), disc(complex(0, 2e38), 1))} {
		fails(t, "PairsNear")(impl.PairsNear(h, 1))
		fails(t, "PairsByCells of neighbours")(impl.PairsByCells(h, 1, 3e38))
		gives(t, "PairsByCells of others", [][]int64{})(impl.PairsByCells(h, 1, 1.5e38))
		gives(t, "PairsByCells at edges", [][]int64{})(impl.PairsByCells(h, 1, 2e38))
	}
	// The place -1.5e38 is in the cell -1: a cell lies between it and the cell 1.
	uneven := heapWith(disc(-1.5e38, 1), disc(2e38, 1))
	gives(t, "PairsByCells behind 0", [][]int64{})(impl.PairsByCells(uneven, 1, 2e38))
	fails(t, "PairsByCells next to 0")(impl.PairsByCells(uneven, 1, 2.1e38))
	third := impl.Heap{Grains: append([]impl.Grain{disc(0, 1), disc(2, 1)}, far.Grains...)}
	gives(t, "PairsByCells beside others", [][]int64{{0, 1}})(impl.PairsByCells(third, 0, 1e38))
	fails(t, "PairsByCells beside neighbours")(impl.PairsByCells(third, 0, 3e38))
}

func TestCellsAreWideEnough(t *testing.T) {
	h := heapWith(disc(0, 0.25), disc(3, 1), disc(6, 0.5))
	gives(t, "PairsByCells", [][]int64{})(impl.PairsByCells(h, 1, 3))
	fails(t, "PairsByCells with a side that is too short")(impl.PairsByCells(h, 1, number(0x403fffff)))
	fails(t, "PairsByCells with a side that is too short")(impl.PairsByCells(h, number(0x3f800002), 3))
	gives(t, "PairsByCells with a rounded sum", [][]int64{})(impl.PairsByCells(h, 1e-10, 2))
	for _, near := range []float32{0, negativeZero()} {
		gives(t, "PairsByCells near 0", [][]int64{})(impl.PairsByCells(h, near, 2))
		gives(t, "PairsByCells without grains", [][]int64{})(impl.PairsByCells(impl.Heap{}, near, number(1)))
	}
	fails(t, "PairsByCells with a sum that is too large")(impl.PairsByCells(heapWith(disc(0, 1e38)), 2e38, 3e38))
	fails(t, "PairsByCells of grains that are too wide")(impl.PairsByCells(heapWith(disc(0, 3e38)), 0, 3.4e38))
	for _, h := range []impl.Heap{{}, h} {
		for _, near := range append(notFinite(), -1, number(0x80000001)) {
			fails(t, "PairsByCells with a wrong near")(impl.PairsByCells(h, near, 100))
		}
		for _, side := range append(notFinite(), 0, negativeZero(), -1, -100) {
			fails(t, "PairsByCells with a wrong side")(impl.PairsByCells(h, 0, side))
		}
	}
	for _, bad := range invalidHeaps() {
		fails(t, "PairsByCells of a wrong heap")(impl.PairsByCells(bad, 1, 1e10))
	}
}

func TestCellsAreNotTooFar(t *testing.T) {
	next := number(math.Float32bits(1000000) + 1)
	for _, side := range []float32{0.5, 1, 64} {
		for _, sign := range []float32{1, -1} {
			for _, turn := range []complex64{1, complex(0, 1)} {
				edge := impl.MulComplex(turn, complex(sign*1000000*side, 0))
				beyond := impl.MulComplex(turn, complex(sign*next*side, 0))
				gives(t, "PairsByCells at the limit", [][]int64{})(impl.PairsByCells(heapWith(disc(0, 0.25), disc(edge, 0.25)), 0, side))
				gives(t, "PairsByCells in the last cell", [][]int64{{0, 1}})(impl.PairsByCells(heapWith(disc(edge, 0.25), disc(edge, 0.25)), 0, side))
				fails(t, "PairsByCells beyond")(impl.PairsByCells(heapWith(disc(0, 0.25), disc(beyond, 0.25)), 0, side))
				fails(t, "PairsByCells of one grain beyond")(impl.PairsByCells(heapWith(disc(beyond, 0.25)), 0, side))
			}
		}
	}
	fails(t, "PairsByCells of a quotient that is too large")(impl.PairsByCells(heapWith(disc(1e38, number(1))), 0, number(2)))
}
