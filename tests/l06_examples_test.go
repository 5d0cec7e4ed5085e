package tests

import (
	"testing"

	"loop.example/g01268/impl"
)

func TestExamplesOfFields(t *testing.T) {
	gives(t, "AxesOfStress", float32(3), float32(1), float32(0))(impl.AxesOfStress([]float32{3, 0, 0, 1}))
	gives(t, "VoidsOf with one void", []int64{-1, 0, -1}, int64(1))(impl.VoidsOf(row(1, 0, 1), 0.5))
	gives(t, "VoidsOf with two voids", []int64{0, -1, 1}, int64(2))(impl.VoidsOf(row(0, 1, 0), 0.5))
}
