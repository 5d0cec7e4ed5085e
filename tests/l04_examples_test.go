package tests

import (
	"testing"

	"loop.example/g01268/impl"
)

func TestExamplesOfWalls(t *testing.T) {
	w, h := wall(0, 4), heapWith(disc(complex(2, 3), 1))
	gives(t, "NearestOn", complex64(2))(impl.NearestOn(w, complex(2, 3)))
	gives(t, "WallGap", float32(2))(impl.WallGap(w, h, 0))
	side, ok := impl.SideOf(w, h.Grains[0].At)
	check(t, "the grain is at the left side", []any{side > 0, ok}, "[true true]")
	box, ok := impl.BoxOfWalls(0, complex(1, 1))
	length := float32(0)
	for _, one := range box {
		length += impl.LongOf(one.To - one.From)
	}
	check(t, "the length around a box", []any{length, ok}, "[4 true]")
}
