package tests

import (
	"testing"

	"loop.example/g01268/impl"
)

func TestExamplesOfBonds(t *testing.T) {
	h := heapWith(disc(0, 1), disc(3, 1))
	gives(t, "StretchOf", float32(2))(impl.StretchOf(h, bond(0, 1, 1, 0)))
	gives(t, "BondForce", float32(4))(impl.BondForce(h, bond(0, 1, 1, 0), 2, 0))
	gives(t, "LoopsIn", int64(1))(impl.LoopsIn(fullHeap(3), bonds(0, 1, 0, 2, 1, 2)))
}
