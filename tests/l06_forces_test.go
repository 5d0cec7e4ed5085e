package tests

import (
	"math"
	"math/rand"
	"testing"

	"loop.example/g01268/impl"
)

func TestForcesOfLinks(t *testing.T) {
	h := heapWith(heavy(disc(0, 1), 2), held(disc(2, 1)), disc(4, 1), heavy(disc(6, 1), 0.5))
	list := []impl.Link{link(0, 1, complex(1, 2)), link(2, 1, complex(4, 8)), link(0, 1, complex(16, 32))}
	gives(t, "ForcesOfLinks", []complex64{complex(-17, -34), complex(21, 42), complex(-4, -8), 0})(impl.ForcesOfLinks(h, list, 0))
	gives(t, "ForcesOfLinks with a pull", []complex64{complex(183, 6), complex(121, 62), complex(96, 12), complex(50, 10)})(
		impl.ForcesOfLinks(h, list, complex(100, 20)))
	back, _ := impl.BackLinks(list)
	gives(t, "ForcesOfLinks that go back", []complex64{complex(-17, -34), complex(21, 42), complex(-4, -8), 0})(impl.ForcesOfLinks(h, back, 0))
	gives(t, "ForcesOfLinks there and back", []complex64{0, 0, 0, 0})(
		impl.ForcesOfLinks(h, []impl.Link{link(0, 1, complex(1, 2)), link(1, 0, complex(1, 2))}, 0))
	gives(t, "ForcesOfLinks without links", []complex64{-2, -1, -1, -0.5})(impl.ForcesOfLinks(h, nil, -1))
	gives(t, "ForcesOfLinks without grains", []complex64{})(impl.ForcesOfLinks(impl.Heap{}, nil, 1))
	gives(t, "ForcesOfLinks of held grains", []complex64{-1, 1})(impl.ForcesOfLinks(heapWith(held(disc(0, 1)), held(disc(0, 1))), links(0, 1), 0))
	// The sums are made in the order of the links: 2^24 takes no 1 at a time.
	big := complex64(complex(1<<24, 0))
	gives(t, "ForcesOfLinks in order", []complex64{-(1 << 24), 1 << 24})(impl.ForcesOfLinks(fullHeap(2), []impl.Link{link(0, 1, big), link(0, 1, 1), link(0, 1, 1)}, 0))
	gives(t, "ForcesOfLinks in order", []complex64{-(1<<24 + 2), 1<<24 + 2})(impl.ForcesOfLinks(fullHeap(2), []impl.Link{link(0, 1, 1), link(0, 1, 1), link(0, 1, big)}, 0))
	gives(t, "ForcesOfLinks behind the pull", []complex64{1<<24 - 1, 1 << 24})(impl.ForcesOfLinks(heapWith(disc(0, 1), disc(1, 1)), links(1, 0, 0, 1), big))
}

func TestForcesOfLinksAndZeros(t *testing.T) {
	zeros := complex(negativeZero(), negativeZero())
	h := heapWith(disc(0, 1), disc(1, 1))
	// A sum begins with +0, which stays +0 with zeros of any sign.
	for _, list := range [][]impl.Link{nil, links(0, 1, 1, 0), {link(0, 1, zeros)}, {link(1, 0, 0)}} {
		gives(t, "ForcesOfLinks of nothing", []complex64{0, 0})(impl.ForcesOfLinks(h, list, zeros))
		gives(t, "ForcesOfLinks of nothing", []complex64{0, 0})(impl.ForcesOfLinks(h, list, 0))
	}
}

func TestForcesOfLinksFail(t *testing.T) {
	h := heapWith(disc(0, 1), held(disc(1, 1)))
	for _, x := range notFinite() {
		for _, pull := range []complex64{complex(x, 0), complex(0, x)} {
			for _, h := range []impl.Heap{{}, h} {
				fails(t, "ForcesOfLinks with a wrong pull")(impl.ForcesOfLinks(h, nil, pull))
				fails(t, "WorstOff with a wrong pull")(impl.WorstOff(h, nil, pull))
			}
		}
	}
	for _, push := range []complex64{3e38, complex(0, -3e38)} {
		list := []impl.Link{link(0, 1, push), link(0, 1, push)}
		fails(t, "ForcesOfLinks that are too large")(impl.ForcesOfLinks(h, list, 0))
		fails(t, "WorstOff of forces that are too large")(impl.WorstOff(h, list, 0))
		fails(t, "ForcesOfLinks that are too large on the way")(impl.ForcesOfLinks(h, append(list, link(1, 0, push)), 0))
		gives(t, "ForcesOfLinks there and back", []complex64{subComplex32(0, push), push})(impl.ForcesOfLinks(h, []impl.Link{list[0], link(1, 0, push), list[1]}, 0))
	}
	fails(t, "ForcesOfLinks of a weight that is too large")(impl.ForcesOfLinks(heapWith(heavy(disc(0, 1), 1e20)), nil, 1e20))
	fails(t, "WorstOff of a weight that is too large")(impl.WorstOff(heapWith(disc(0, 1), heavy(disc(0, 1), 1e20)), nil, 1e20))
}

func TestWorstOff(t *testing.T) {
	h := heapWith(held(disc(0, 1)), disc(2, 1), disc(4, 1), disc(6, 1))
	list := []impl.Link{link(0, 1, complex(3, 4)), link(2, 3, complex(-4, 3)), link(3, 0, 9)}
	// The forces are 5, 5 and longer for the third one.
	worst, size, ok := impl.WorstOff(h, list[:2], 0)
	check(t, "WorstOff of several alike", []any{worst, size, ok}, "[1 5 true]")
	gives(t, "WorstOff of several alike", int64(2), float32(5))(impl.WorstOff(h, list[1:2], 0))
	gives(t, "WorstOff", int64(3), long32(complex(-13, 3)))(impl.WorstOff(h, list, 0))
	gives(t, "WorstOff of what is held", int64(1), float32(0))(impl.WorstOff(h, []impl.Link{link(0, 2, 0), link(3, 0, 0)}, 0))
	gives(t, "WorstOff without links", int64(1), float32(2))(impl.WorstOff(h, nil, complex(0, -2)))
	gives(t, "WorstOff without links and pull", int64(1), float32(0))(impl.WorstOff(h, nil, complex(0, negativeZero())))
	h.Grains[3].Mass = 7
	gives(t, "WorstOff of the heaviest", int64(3), float32(14))(impl.WorstOff(h, nil, complex(0, -2)))
	gives(t, "WorstOff of one grain", int64(0), float32(2))(impl.WorstOff(lone(3), nil, 2))
	gives(t, "WorstOff of the last grain", int64(23), float32(48))(impl.WorstOff(fullHeap(24), nil, 2))
	fails(t, "WorstOff without grains")(impl.WorstOff(impl.Heap{}, nil, 1))
	fails(t, "WorstOff of held grains")(impl.WorstOff(heapWith(held(disc(0, 1)), held(disc(1, 1))), links(0, 1), 1))
	// Both parts are finite, but not the length.
	for _, list := range [][]impl.Link{{link(1, 2, complex(3e38, 3e38))}, {link(2, 1, complex(3e38, -3e38))}} {
		fails(t, "WorstOff of a force that is too long")(impl.WorstOff(h, list, 0))
	}
	gives(t, "WorstOff beside a held grain", int64(1), float32(1))(impl.WorstOff(heapWith(held(heavy(disc(0, 1), 4)), disc(0, 1)), nil, 1))
	// There are no ForcesOfLinks where the force of a held grain is not finite.
	heap := heapWith(held(heavy(disc(0, 1), 3e38)), disc(0, 1))
	fails(t, "WorstOff beside a held grain whose force is not finite")(impl.WorstOff(heap, nil, 2))
}

func TestPressuresOf(t *testing.T) {
	const fullTurn = 6.2831855
	h := heapWith(disc(0, 1), disc(2, 0.5), held(disc(4, 4)), disc(9, 1e-3))
	list := []impl.Link{link(0, 1, complex(3, 4)), link(1, 0, complex(-6, 8)), link(2, 0, complex(0, -2)), link(0, 1, complex(negativeZero(), 0))}
	gives(t, "PressuresOf", []float32{17 / float32(fullTurn), 15 / float32(fullTurn/2), 2 / float32(fullTurn*4), 0})(impl.PressuresOf(h, list))
	gives(t, "PressuresOf no links", []float32{0, 0, 0, 0})(impl.PressuresOf(h, nil))
	gives(t, "PressuresOf no grains", []float32{})(impl.PressuresOf(impl.Heap{}, nil))
	fails(t, "PressuresOf a strength that is not finite")(impl.PressuresOf(h, []impl.Link{link(0, 1, complex(3e38, 3e38))}))
	fails(t, "PressuresOf a sum that is not finite")(impl.PressuresOf(h, []impl.Link{link(0, 2, 3e38), link(0, 2, 3e38)}))
	h.Grains[1].Radius = 1e-20
	fails(t, "PressuresOf a quotient that is not finite")(impl.PressuresOf(h, []impl.Link{link(0, 1, 1e20)}))
	// 6.28 times the Radius is infinite, which leaves no pressure.
	h.Grains[1].Radius = math.MaxFloat32
	gives(t, "PressuresOf a wide grain", []float32{5 / float32(fullTurn), 0, 0, 0})(impl.PressuresOf(h, list[:1]))
	h.Grains[0].Radius, h.Grains[1].Radius = math.MaxFloat32, 1
	gives(t, "PressuresOf a wide grain", []float32{0, 5 / float32(fullTurn), 0, 0})(impl.PressuresOf(h, list[:1]))
	fails(t, "PressuresOf wide grains with a sum that is not finite")(impl.PressuresOf(h, []impl.Link{link(0, 1, 3e38), link(0, 1, 3e38)}))
}

func TestForcesOfLinksOfManyHeaps(t *testing.T) {
	source := rand.New(rand.NewSource(43))
	succeeded := 0
	for _, b := range someBounds() {
		for _, pull := range []complex64{0, somePoint(source, 3), somePoint(source, 1e37), complex(1e30, negativeZero())} {
			forces, finite := referenceLinkForces(b, pull)
			expectFinite(t, "ForcesOfLinks", finite, forces)(impl.ForcesOfLinks(b.heap, b.links, pull))
			if worst, size, ok := referenceWorstOff(b, pull); ok {
				gives(t, "WorstOff", worst, size)(impl.WorstOff(b.heap, b.links, pull))
				succeeded++
			} else {
				fails(t, "WorstOff")(impl.WorstOff(b.heap, b.links, pull))
			}
		}
		pressures := referencePressures(b)
		expectFinite(t, "PressuresOf", isFinite(pressures...), pressures)(impl.PressuresOf(b.heap, b.links))
	}
	check(t, "many heaps have a grain that is worst off", succeeded > 1000, true)
}
