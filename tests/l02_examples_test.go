package tests

import (
	"testing"

	"loop.example/g01268/impl"
)

func TestExamplesOfGrains(t *testing.T) {
	row := heap(t, "RowOfGrains")(impl.RowOfGrains(2, 1, 0.5, 1))
	gives(t, "GapOf", float32(0.5))(impl.GapOf(row, 0, 1))
	gives(t, "WayOf", complex64(1))(impl.WayOf(row, 0, 1))
	pile := heap(t, "PileOfGrains")(impl.PileOfGrains(2, 1, 1))
	check(t, "the grains of a pile", len(pile.Grains), 3)
}
