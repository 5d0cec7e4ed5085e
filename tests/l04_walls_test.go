package tests

import (
	"math"
	"math/rand"
	"testing"

	"loop.example/g01268/impl"
)

// expectWalls checks a function that fails if its walls are not valid.
func expectWalls(t *testing.T, what string) func(want []impl.Wall, wantOk bool) func(got []impl.Wall, ok bool) {
	t.Helper()
	return func(want []impl.Wall, wantOk bool) func(got []impl.Wall, ok bool) {
		return expectFinite(t, what, wantOk, want)
	}
}

func TestValidWall(t *testing.T) {
	for _, w := range append(edgeWalls(), wall(0, 1), wall(1, 0), wall(complex(0, 1), complex(0, -1)), moving(wall(2, 3), complex(4, 5)), wall(1, negativeZeros())) {
		check(t, "ValidWall", []any{w, impl.ValidWall(w)}, []any{w, true})
		check(t, "AreWalls", impl.AreWalls([]impl.Wall{w}), true)
	}
	for _, w := range invalidWalls() {
		check(t, "ValidWall", []any{w, impl.ValidWall(w)}, []any{w, false})
	}
	for _, x := range oddNumbers() {
		for field := range 6 {
			w := setWall(moving(wall(complex(1, 2), complex(3, 5)), complex(7, 1)), field, x)
			check(t, "ValidWall", []any{w, impl.ValidWall(w)}, []any{w, isWall(w)})
		}
	}
}

// negativeZeros returns -0 - 0 i.
func negativeZeros() complex64 {
	return complex(negativeZero(), negativeZero())
}

func TestAreWalls(t *testing.T) {
	for count := range impl.MaxWalls + 1 {
		check(t, "AreWalls", impl.AreWalls(repeated(wall(0, 1), count)), true)
	}
	check(t, "AreWalls of nil", impl.AreWalls(nil), true)
	check(t, "AreWalls of nothing", impl.AreWalls([]impl.Wall{}), true)
	for _, list := range wrongWalls() {
		check(t, "AreWalls", impl.AreWalls(list), false)
	}
}

func TestSameWalls(t *testing.T) {
	list := someWalls(rand.New(rand.NewSource(22)), 5, 3)
	check(t, "SameWalls", impl.SameWalls(list, append([]impl.Wall{}, list...)), true)
	check(t, "SameWalls of nothing", impl.SameWalls(nil, []impl.Wall{}), true)
	check(t, "SameWalls with one wall less", impl.SameWalls(list, list[:4]), false)
	check(t, "SameWalls with one wall more", impl.SameWalls(list[:4], list), false)
	check(t, "SameWalls of nothing and a wall", impl.SameWalls(nil, list[:1]), false)
	check(t, "SameWalls in another order", impl.SameWalls([]impl.Wall{list[0], list[1]}, []impl.Wall{list[1], list[0]}), false)
	check(t, "SameWalls the other way", impl.SameWalls([]impl.Wall{wall(1, 2)}, []impl.Wall{wall(2, 1)}), false)
	check(t, "SameWalls of too many", impl.SameWalls(repeated(impl.Wall{}, 100), repeated(impl.Wall{}, 100)), true)
	for field := range 6 {
		for _, x := range oddNumbers() {
			for _, y := range []float32{x, -x, 0, nan(), 1} {
				a, b := setWall(list[0], field, x), setWall(list[0], field, y)
				check(t, "SameWalls", impl.SameWalls([]impl.Wall{list[1], a}, []impl.Wall{list[1], b}), bits(x) == bits(y))
			}
		}
	}
}

func TestBoxOfWalls(t *testing.T) {
	gives(t, "BoxOfWalls", []impl.Wall{
		wall(complex(1, 2), complex(4, 2)), wall(complex(4, 2), complex(4, 7)), wall(complex(4, 7), complex(1, 7)), wall(complex(1, 7), complex(1, 2)),
	})(impl.BoxOfWalls(complex(1, 2), complex(4, 7)))
	gives(t, "BoxOfWalls to the left and below", []impl.Wall{
		wall(complex(1, 2), complex(-4, 2)), wall(complex(-4, 2), complex(-4, -7)), wall(complex(-4, -7), complex(1, -7)), wall(complex(1, -7), complex(1, 2)),
	})(impl.BoxOfWalls(complex(1, 2), complex(-4, -7)))
	zero := negativeZero()
	gives(t, "BoxOfWalls with zeros", []impl.Wall{
		wall(complex(zero, 0), complex(1, 0)), wall(complex(1, 0), complex(1, -1)), wall(complex(1, -1), complex(zero, -1)), wall(complex(zero, -1), complex(zero, 0)),
	})(impl.BoxOfWalls(complex(zero, 0), complex(1, -1)))
	for _, to := range []complex64{1, complex(0, 1), 0, complex(0x1p-75, 1), complex(1, 0x1p-75), complex(0x1p64, 1), complex(1, -0x1p64), complex(3e38, 1)} {
		fails(t, "BoxOfWalls without a wall")(impl.BoxOfWalls(0, to))
		fails(t, "BoxOfWalls without a wall")(impl.BoxOfWalls(to, 0))
	}
	for _, x := range notFinite() {
		for _, wrong := range []complex64{complex(x, 1), complex(1, x), complex(x, x)} {
			fails(t, "BoxOfWalls with a wrong corner")(impl.BoxOfWalls(0, wrong))
			fails(t, "BoxOfWalls with a wrong corner")(impl.BoxOfWalls(wrong, 0))
		}
	}
}

func TestHopperWalls(t *testing.T) {
	gives(t, "HopperWalls", []impl.Wall{wall(complex(-2, 3), -1), wall(1, complex(2, 3))})(impl.HopperWalls(4, 2, 3))
	gives(t, "HopperWalls straight up", []impl.Wall{wall(complex(-1, 3), -1), wall(1, complex(1, 3))})(impl.HopperWalls(2, 2, 3))
	gives(t, "HopperWalls with a wide mouth", []impl.Wall{wall(complex(-1, 3), -2), wall(2, complex(1, 3))})(impl.HopperWalls(2, 4, 3))
	gives(t, "HopperWalls that are high", []impl.Wall{wall(complex(-1, 0x1p63), -2), wall(2, complex(1, 0x1p63))})(impl.HopperWalls(2, 4, 0x1p63))
	// Half of the least number is rounded to 0.
	tiny := number(1)
	gives(t, "HopperWalls with a tiny mouth", []impl.Wall{wall(complex(-1, 1), complex(negativeZero(), 0)), wall(0, complex(1, 1))})(impl.HopperWalls(2, tiny, 1))
	gives(t, "HopperWalls that are low", []impl.Wall{wall(complex(-2, tiny), -1), wall(1, complex(2, tiny))})(impl.HopperWalls(4, 2, tiny))
	gives(t, "HopperWalls that are narrow", []impl.Wall{wall(complex(negativeZero(), 3), -1), wall(1, complex(0, 3))})(impl.HopperWalls(tiny, 2, 3))
	fails(t, "HopperWalls with walls that are too short")(impl.HopperWalls(2, 2, 0x1p-75))
	fails(t, "HopperWalls with walls that are too long")(impl.HopperWalls(2, 2, 0x1p64))
	fails(t, "HopperWalls that are too wide")(impl.HopperWalls(3e38, 2, 1))
	fails(t, "HopperWalls with a mouth that is too wide")(impl.HopperWalls(2, 3e38, 1))
	for _, x := range append(notFinite(), 0, negativeZero(), -1, -number(1)) {
		fails(t, "HopperWalls with a wrong width")(impl.HopperWalls(x, 2, 3))
		fails(t, "HopperWalls with a wrong mouth")(impl.HopperWalls(4, x, 3))
		fails(t, "HopperWalls with a wrong height")(impl.HopperWalls(4, 2, x))
	}
}

func TestDrumWalls(t *testing.T) {
	gives(t, "DrumWalls", []impl.Wall{
		wall(complex(3, 5), complex(1, 7)), wall(complex(1, 7), complex(-1, 5)), wall(complex(-1, 5), complex(1, 3)), wall(complex(1, 3), complex(3, 5)),
	})(impl.DrumWalls(4, complex(1, 5), 2))
	for count := int64(3); count <= impl.MaxWalls; count++ {
		for _, centre := range []complex64{0, complex(0.3, -0.7), complex(100, 1e4), 1e9, negativeZeros()} {
			for _, radius := range []float32{1, 0.1, 7.3, 1e-20, 1e18} {
				expectWalls(t, "DrumWalls")(referenceDrum(count, centre, radius))(impl.DrumWalls(count, centre, radius))
			}
		}
		drum, _ := impl.DrumWalls(count, 0, 3)
		check(t, "the count of walls", len(drum), count)
		for _, radius := range append(notFinite(), 0, negativeZero(), -1, -number(1), number(1), 0x1p-76, 1e20, math.MaxFloat32) {
			fails(t, "DrumWalls with a wrong radius")(impl.DrumWalls(count, 0, radius))
		}
		for _, x := range notFinite() {
			fails(t, "DrumWalls with a wrong centre")(impl.DrumWalls(count, complex(x, 0), 1))
			fails(t, "DrumWalls with a wrong centre")(impl.DrumWalls(count, complex(0, x), 1))
		}
		fails(t, "DrumWalls too far away")(impl.DrumWalls(count, complex(1e10, 1e10), 1))
	}
	for _, count := range []int64{2, 1, 0, -1, -3, impl.MaxWalls + 1, math.MinInt64, math.MaxInt64, 1<<32 + 3} {
		fails(t, "DrumWalls with a wrong count")(impl.DrumWalls(count, 0, 1))
	}
}

func TestMoveWalls(t *testing.T) {
	gives(t, "MoveWalls", []impl.Wall{moving(wall(complex(2, 4), complex(4, -6)), complex(7, 8)), wall(complex(1, 2), complex(2, 2))})(
		impl.MoveWalls([]impl.Wall{moving(wall(complex(1, 2), complex(3, -8)), complex(7, 8)), wall(0, 1)}, complex(1, 2)))
	gives(t, "MoveWalls by -0", []impl.Wall{moving(wall(negativeZeros(), 1), negativeZeros())})(
		impl.MoveWalls([]impl.Wall{moving(wall(negativeZeros(), complex(1, 0)), negativeZeros())}, negativeZeros()))
	gives(t, "MoveWalls by +0", []impl.Wall{moving(wall(0, 1), negativeZeros())})(
		impl.MoveWalls([]impl.Wall{moving(wall(negativeZeros(), complex(1, negativeZero())), negativeZeros())}, 0))
	fails(t, "MoveWalls that become too short")(impl.MoveWalls([]impl.Wall{wall(5, 9), wall(0, 1)}, 0x1p30))
	fails(t, "MoveWalls that become too long")(impl.MoveWalls([]impl.Wall{wall(0, complex(number(0x5f7fffff), 0))}, 0x1p80))
	fails(t, "MoveWalls too far")(impl.MoveWalls([]impl.Wall{wall(complex(3e38, 1), complex(3e38, 2))}, 3e38))
}

func TestTurnWalls(t *testing.T) {
	rate := number(0x40c90fdb)
	gives(t, "TurnWalls by a quarter", []impl.Wall{moving(wall(complex(1, 2), complex(1, 6)), complex(-4*rate, 0))})(
		impl.TurnWalls([]impl.Wall{moving(wall(3, 7), complex(9, 9))}, 1, 0.25, 1))
	gives(t, "TurnWalls that turn the other way", []impl.Wall{moving(wall(3, 7), complex(0, -2*rate))})(
		impl.TurnWalls([]impl.Wall{wall(3, 7)}, 1, 0, -0.5))
	gives(t, "TurnWalls that stay", []impl.Wall{moving(wall(3, 7), complex(negativeZero(), 0))})(
		impl.TurnWalls([]impl.Wall{moving(wall(3, 7), 8)}, 1, 1, 0))
	// A wall around the centre has a middle that stays.
	gives(t, "TurnWalls around their middle", []impl.Wall{moving(wall(complex(1, -1), complex(1, 1)), complex(negativeZero(), 0))})(
		impl.TurnWalls([]impl.Wall{wall(0, 2)}, 1, 0.25, 3))
	for _, turns := range []float32{0x1p52, -0x1p60, math.MaxFloat32} {
		gives(t, "TurnWalls by whole turns", []impl.Wall{moving(wall(1, 3), complex(negativeZero(), 2*rate))})(impl.TurnWalls([]impl.Wall{wall(1, 3)}, 0, turns, 1))
	}
	fails(t, "TurnWalls that are too fast")(impl.TurnWalls([]impl.Wall{wall(1, 3)}, 0, 0, 1e38))
	fails(t, "TurnWalls around their middle that are too fast")(impl.TurnWalls([]impl.Wall{wall(-1, 1)}, 0, 0, 3e38))
	fails(t, "TurnWalls that are too short")(impl.TurnWalls([]impl.Wall{wall(0, 1)}, 1e10, 0.1, 0))
	far := []impl.Wall{wall(complex(3e38, 1), complex(3e38, 2))}
	fails(t, "TurnWalls whose sum is too large")(impl.TurnWalls(far, 0, 0, 0))
	fails(t, "TurnWalls too far away")(impl.TurnWalls(far, -3e38, 0, 0))
}

func TestShakeWalls(t *testing.T) {
	rate := number(0x40c90fdb)
	list := []impl.Wall{moving(wall(1, complex(2, 5)), complex(9, 9)), wall(0, 1)}
	gives(t, "ShakeWalls in the middle", []impl.Wall{moving(list[0], complex(rate, rate*2)), moving(list[1], complex(rate, rate*2))})(
		impl.ShakeWalls(list, complex(2, 4), 0.5, 0))
	zero := negativeZero()
	gives(t, "ShakeWalls at the end", []impl.Wall{moving(wall(complex(3, 4), complex(4, 9)), complex(zero, zero)), moving(wall(complex(2, 4), complex(3, 4)), complex(zero, zero))})(
		impl.ShakeWalls(list, complex(2, 4), 0.5, 0.5))
	gives(t, "ShakeWalls by nothing", []impl.Wall{wall(1, complex(2, 5)), wall(0, 1)})(impl.ShakeWalls(list, 0, 0.5, 0.125))
	gives(t, "ShakeWalls with the rate 0", []impl.Wall{wall(1, complex(2, 5)), wall(0, 1)})(impl.ShakeWalls(list, 1, 0, 100))
	fails(t, "ShakeWalls at a time that is too late")(impl.ShakeWalls(list, 0, 1e30, 1e30))
	fails(t, "ShakeWalls that are too fast")(impl.ShakeWalls(list, 1, 3e38, 0))
	fails(t, "ShakeWalls that are too fast")(impl.ShakeWalls(list, 3e38, 1, 0))
	fails(t, "ShakeWalls too far")(impl.ShakeWalls([]impl.Wall{wall(complex(3e38, 1), complex(3e38, 2))}, 3e38, 1e-30, 0.25e30))
	fails(t, "ShakeWalls that are too short")(impl.ShakeWalls([]impl.Wall{wall(0, 1)}, 1e10, 0.25, 1))
}

func TestStepWalls(t *testing.T) {
	list := []impl.Wall{moving(wall(1, complex(2, 5)), complex(4, -2)), wall(0, 1)}
	gives(t, "StepWalls", []impl.Wall{moving(wall(complex(3, -1), complex(4, 4)), complex(4, -2)), wall(0, 1)})(impl.StepWalls(list, 0.5))
	gives(t, "StepWalls back", []impl.Wall{moving(wall(complex(-3, 2), complex(-2, 7)), complex(4, -2)), wall(0, 1)})(impl.StepWalls(list, -1))
	for _, tick := range []float32{0, negativeZero()} {
		gives(t, "StepWalls in no time", list)(impl.StepWalls(list, tick))
	}
	fails(t, "StepWalls too far")(impl.StepWalls([]impl.Wall{moving(wall(0, 1), 1e30)}, 1e30))
	fails(t, "StepWalls too far for their length")(impl.StepWalls([]impl.Wall{moving(wall(0, 1), 1)}, 1e10))
	gives(t, "StepWalls that stay", []impl.Wall{wall(0, 1)})(impl.StepWalls([]impl.Wall{wall(0, 1)}, 3e38))
}

func TestWallsThatChange(t *testing.T) {
	source := rand.New(rand.NewSource(23))
	for n := range 400 {
		list := someWalls(source, n%(impl.MaxWalls+1), []float64{0.01, 1, 30, 1e5, 1e17}[n%5])
		by, x, y := somePoint(source, 3), someNumber(source, 2), someNumber(source, 0.7)
		expectWalls(t, "MoveWalls")(referenceMoved(list, func(w impl.Wall) complex64 { return by }))(impl.MoveWalls(list, by))
		expectWalls(t, "StepWalls")(referenceMoved(list, func(w impl.Wall) complex64 { return scale32(w.Speed, x) }))(impl.StepWalls(list, x))
		expectWalls(t, "TurnWalls")(referenceTurned(list, by, x, y))(impl.TurnWalls(list, by, x, y))
		expectWalls(t, "ShakeWalls")(referenceShaken(list, by, x, y))(impl.ShakeWalls(list, by, x, y))
	}
}

// failsToChange checks that no function changes these walls.
func failsToChange(t *testing.T, list []impl.Wall) {
	t.Helper()
	fails(t, "MoveWalls")(impl.MoveWalls(list, 0))
	fails(t, "TurnWalls")(impl.TurnWalls(list, 0, 0, 0))
	fails(t, "ShakeWalls")(impl.ShakeWalls(list, 0, 0, 0))
	fails(t, "StepWalls")(impl.StepWalls(list, 0))
}

func TestWrongWallsDoNotChange(t *testing.T) {
	for _, list := range wrongWalls() {
		failsToChange(t, list)
	}
	full := repeated(wall(0, 1), impl.MaxWalls)
	for _, list := range [][]impl.Wall{nil, {}, {wall(1, 2)}, full} {
		gives(t, "MoveWalls", list)(impl.MoveWalls(list, 0))
		gives(t, "StepWalls", list)(impl.StepWalls(list, 1))
		for _, x := range notFinite() {
			for _, z := range []complex64{complex(x, 0), complex(0, x)} {
				fails(t, "MoveWalls by a wrong number")(impl.MoveWalls(list, z))
				fails(t, "TurnWalls with a wrong centre")(impl.TurnWalls(list, z, 0, 0))
				fails(t, "ShakeWalls with a wrong size")(impl.ShakeWalls(list, z, 0, 0))
			}
			fails(t, "TurnWalls by wrong turns")(impl.TurnWalls(list, 0, x, 0))
			fails(t, "TurnWalls with a wrong rate")(impl.TurnWalls(list, 0, 0, x))
			fails(t, "ShakeWalls with a wrong rate")(impl.ShakeWalls(list, 0, x, 0))
			fails(t, "ShakeWalls at a wrong time")(impl.ShakeWalls(list, 0, 0, x))
			fails(t, "StepWalls with a wrong tick")(impl.StepWalls(list, x))
		}
	}
}

func TestNoWallsChange(t *testing.T) {
	for _, list := range [][]impl.Wall{nil, {}} {
		gives(t, "MoveWalls", []impl.Wall{})(impl.MoveWalls(list, math.MaxFloat32))
		gives(t, "TurnWalls", []impl.Wall{})(impl.TurnWalls(list, 1, 0.5, math.MaxFloat32))
		gives(t, "ShakeWalls", []impl.Wall{})(impl.ShakeWalls(list, 1, math.MaxFloat32, math.MaxFloat32))
		gives(t, "StepWalls", []impl.Wall{})(impl.StepWalls(list, math.MaxFloat32))
	}
}
