package tests

import (
	"testing"

	"loop.example/g01268/impl"
)

// expectFinite checks a function that fails if its numbers are not finite.
func expectFinite[T any](t *testing.T, what string, finite bool, want T) func(got T, ok bool) {
	t.Helper()
	return func(got T, ok bool) {
		t.Helper()
		if finite {
			gives(t, what, want)(got, ok)
		} else {
			fails(t, what)(got, ok)
		}
	}
}

func isFiniteComplex(x complex64) bool {
	return isFinite(real(x), imag(x))
}

// checkSums checks all sums of a heap.
func checkSums(t *testing.T, h impl.Heap) {
	t.Helper()
	mass, momentum, weighed := referenceTotals(h)
	expectFinite(t, "MassOfHeap", isFinite(mass), mass)(impl.MassOfHeap(h))
	expectFinite(t, "MomentumOf", isFiniteComplex(momentum), momentum)(impl.MomentumOf(h))
	centre := referenceOver(weighed, mass)
	expectFinite(t, "CentreOfHeap", isFiniteComplex(centre), centre)(impl.CentreOfHeap(h))
	for _, pull := range []complex64{0, complex(0.3, -9.81), complex(1e30, 2)} {
		energy := referenceEnergy(h, pull)
		expectFinite(t, "EnergyOfHeap", isFinite(energy), energy)(impl.EnergyOfHeap(h, pull))
	}
	turning := referenceTurning(h)
	expectFinite(t, "TurningOf", isFinite(turning), turning)(impl.TurningOf(h))
	if len(h.Grains) == 0 {
		fails(t, "BoxOfHeap")(impl.BoxOfHeap(h))
		return
	}
	low, high := referenceBox(h)
	if isFiniteComplex(low) && isFiniteComplex(high) {
		gives(t, "BoxOfHeap", low, high)(impl.BoxOfHeap(h))
	} else {
		fails(t, "BoxOfHeap")(impl.BoxOfHeap(h))
	}
}

func failsForSums(t *testing.T, h impl.Heap) {
	t.Helper()
	fails(t, "MassOfHeap")(impl.MassOfHeap(h))
	fails(t, "MomentumOf")(impl.MomentumOf(h))
	fails(t, "CentreOfHeap")(impl.CentreOfHeap(h))
	fails(t, "EnergyOfHeap")(impl.EnergyOfHeap(h, 0))
	fails(t, "TurningOf")(impl.TurningOf(h))
	fails(t, "BoxOfHeap")(impl.BoxOfHeap(h))
}

func TestSumsOfHeaps(t *testing.T) {
	for _, h := range someHeaps() {
		checkSums(t, h)
	}
	for count := range impl.MaxGrains + 1 {
		checkSums(t, fullHeap(count))
	}
	for _, h := range invalidHeaps() {
		failsForSums(t, h)
	}
}

func TestSumsOfUsualHeaps(t *testing.T) {
	h := heapWith(
		impl.Grain{At: complex(1, 2), Speed: complex(3, 4), Radius: 2, Mass: 2, Spin: 3, Turn: 7},
		held(impl.Grain{At: complex(-3, 0), Speed: complex(0, -2), Radius: 1, Mass: 6, Spin: -1}))
	gives(t, "MassOfHeap", float32(8))(impl.MassOfHeap(h))
	gives(t, "MomentumOf", complex64(complex(6, -4)))(impl.MomentumOf(h))
	gives(t, "CentreOfHeap", complex64(complex(-2, 0.5)))(impl.CentreOfHeap(h))
	// moving 25 and 12, turning 18 and 1.5, and 2*(10+2*(-1)) and 6*(-30) for the pull
	gives(t, "EnergyOfHeap without pull", float32(56.5))(impl.EnergyOfHeap(h, 0))
	gives(t, "EnergyOfHeap", float32(56.5-16+180))(impl.EnergyOfHeap(h, complex(10, -1)))
	// 2*(1*4-2*3) and 6*(-3*-2), turning 12 and -3
	gives(t, "TurningOf", float32(-4+36+12-3))(impl.TurningOf(h))
	gives(t, "BoxOfHeap", complex64(complex(-4, -1)), complex64(complex(3, 4)))(impl.BoxOfHeap(h))
}

func TestSumsWithoutGrains(t *testing.T) {
	for _, h := range []impl.Heap{{}, {Grains: []impl.Grain{}}} {
		gives(t, "MassOfHeap", float32(0))(impl.MassOfHeap(h))
		gives(t, "MomentumOf", complex64(0))(impl.MomentumOf(h))
		fails(t, "CentreOfHeap")(impl.CentreOfHeap(h))
		gives(t, "EnergyOfHeap", float32(0))(impl.EnergyOfHeap(h, complex(1, 2)))
		gives(t, "TurningOf", float32(0))(impl.TurningOf(h))
		fails(t, "BoxOfHeap")(impl.BoxOfHeap(h))
		for _, x := range notFinite() {
			fails(t, "EnergyOfHeap with no finite pull")(impl.EnergyOfHeap(h, complex(x, 0)))
			fails(t, "EnergyOfHeap with no finite pull")(impl.EnergyOfHeap(h, complex(0, x)))
		}
	}
}

func TestSumsBeginWithZero(t *testing.T) {
	still := impl.Grain{At: complex(0, negativeZero()), Speed: complex(negativeZero(), negativeZero()), Radius: 1, Mass: 1, Spin: negativeZero()}
	h := heapWith(still, held(still))
	gives(t, "MomentumOf", complex64(0))(impl.MomentumOf(h))
	gives(t, "CentreOfHeap", complex64(0))(impl.CentreOfHeap(h))
	gives(t, "TurningOf", float32(0))(impl.TurningOf(h))
}

func TestSumsGoInOrder(t *testing.T) {
	grain := func(mass float32) impl.Grain {
		return impl.Grain{At: 1, Speed: complex(0, 1), Radius: 1, Mass: mass}
	}
	first := heapWith(grain(1<<24), grain(1), grain(1))
	last := heapWith(grain(1), grain(1), grain(1<<24))
	gives(t, "MassOfHeap", float32(1<<24))(impl.MassOfHeap(first))
	gives(t, "MassOfHeap", float32(1<<24+2))(impl.MassOfHeap(last))
	gives(t, "MomentumOf", complex64(complex(0, 1<<24)))(impl.MomentumOf(first))
	gives(t, "MomentumOf", complex64(complex(0, 1<<24+2)))(impl.MomentumOf(last))
	gives(t, "EnergyOfHeap", float32(1<<23))(impl.EnergyOfHeap(first, 0))
	gives(t, "EnergyOfHeap", float32(1<<23+1))(impl.EnergyOfHeap(last, 0))
	gives(t, "TurningOf", float32(1<<24))(impl.TurningOf(first))
	gives(t, "TurningOf", float32(1<<24+2))(impl.TurningOf(last))
}

func TestSumsAreFinite(t *testing.T) {
	heavy := heapWith(impl.Grain{Radius: 1, Mass: 3e38}, held(impl.Grain{Radius: 1, Mass: 3e38}))
	fails(t, "MassOfHeap")(impl.MassOfHeap(heavy))
	fails(t, "CentreOfHeap")(impl.CentreOfHeap(heavy))
	gives(t, "MomentumOf", complex64(0))(impl.MomentumOf(heavy))
	fast := heapWith(impl.Grain{Speed: complex(0, 1e30), Radius: 1, Mass: 1e10})
	fails(t, "MomentumOf")(impl.MomentumOf(fast))
	fails(t, "EnergyOfHeap")(impl.EnergyOfHeap(fast, 0))
	gives(t, "TurningOf", float32(0))(impl.TurningOf(fast))
	half := heapWith(impl.Grain{Speed: 1e19, Radius: 1, Mass: 4})
	gives(t, "EnergyOfHeap, half of what is too large", mul32(2, long32(1e19), 1e19))(impl.EnergyOfHeap(half, 0))
	far := heapWith(impl.Grain{At: 1e30, Radius: 1, Mass: 1e10})
	fails(t, "CentreOfHeap")(impl.CentreOfHeap(far))
	fails(t, "EnergyOfHeap")(impl.EnergyOfHeap(far, 1))
	gives(t, "EnergyOfHeap", float32(0))(impl.EnergyOfHeap(far, complex(0, 1)))
	turning := heapWith(impl.Grain{Radius: 1e10, Mass: 1e10, Spin: 1e10})
	fails(t, "EnergyOfHeap")(impl.EnergyOfHeap(turning, 0))
	fails(t, "TurningOf")(impl.TurningOf(turning))
	for _, x := range notFinite() {
		fails(t, "EnergyOfHeap with no finite pull")(impl.EnergyOfHeap(fullHeap(1), complex(x, 0)))
		fails(t, "EnergyOfHeap with no finite pull")(impl.EnergyOfHeap(fullHeap(1), complex(0, x)))
	}
}

func TestBoxOfHeap(t *testing.T) {
	g := disc(complex(2, -7), 0.5)
	gives(t, "BoxOfHeap of one grain", complex64(complex(1.5, -7.5)), complex64(complex(2.5, -6.5)))(impl.BoxOfHeap(heapWith(g)))
	wide := held(disc(complex(3, -6), 4))
	for _, h := range []impl.Heap{heapWith(g, wide), heapWith(wide, g)} {
		gives(t, "BoxOfHeap with a wide grain", complex64(complex(-1, -10)), complex64(complex(7, -2)))(impl.BoxOfHeap(h))
	}
	zero := heapWith(disc(complex(1, -1), 1))
	gives(t, "BoxOfHeap at 0", complex64(complex(0, -2)), complex64(complex(2, 0)))(impl.BoxOfHeap(zero))
	for _, at := range []complex64{3e38, -3e38, complex(0, 3e38), complex(0, -3e38)} {
		fails(t, "BoxOfHeap that is too wide")(impl.BoxOfHeap(heapWith(disc(0, 1), disc(at, 2e38))))
	}
}
