package tests

import (
	"testing"

	"loop.example/g01268/impl"
)

func TestExamplesOfImpulses(t *testing.T) {
	h := meeting(0, 2)
	solved, list, ok := impl.SolveKnocks(h, knocks(0, 1), 0.5, 0, 1, 1)
	check(t, "two grains that come together", []any{list[0].Push, ok}, "[1 true]")
	away, _, ok := impl.SlideOf(solved, 0, 1)
	check(t, "they go together no more", []any{away, ok}, "[0 true]")
	gives(t, "WeightOfPair of grains that are held", float32(0))(impl.WeightOfPair(heapWith(held(disc(0, 1)), held(disc(2, 1))), 0, 1))
}
