package tests

import (
	"math"
	"testing"

	"loop.example/g01268/impl"
)

func TestNewDesk(t *testing.T) {
	check(t, "MaxScript", impl.MaxScript, 16000)
	want := impl.Desk{
		Heap:  heapWith(disc(0, 0.5), disc(1, 0.5), disc(complex(0.5, number(0x3f5db3d7)), 0.5)),
		Rules: impl.Rules{Stiff: 16, Loss: 1, Rub: 0.5, Grip: 8},
		Walls: []impl.Wall{
			wall(complex(-4, -4), complex(4, -4)), wall(complex(4, -4), complex(4, 4)),
			wall(complex(4, 4), complex(-4, 4)), wall(complex(-4, 4), complex(-4, -4)),
		},
	}
	d := impl.NewDesk()
	check(t, "a new desk", told(d), told(want))
	check(t, "a new desk is valid, and the same", []bool{impl.ValidDesk(d), impl.SameDesk(d, want)}, "[true true]")
	spoil(d.Heap.Grains, impl.Grain{})
	spoil(d.Walls, impl.Wall{})
	check(t, "another new desk", told(impl.NewDesk()), told(want))
}

func TestValidDesk(t *testing.T) {
	for _, d := range []impl.Desk{
		{}, {Heap: impl.Heap{Grains: []impl.Grain{}}, Walls: []impl.Wall{}, Bonds: []impl.Bond{}},
		{Heap: fullHeap(24)}, {Rules: usualRules()}, {Rules: setRule(impl.Rules{}, 3, math.MaxFloat32)}, {Walls: edgeWalls()},
		{Walls: repeated(wall(0, 1), impl.MaxWalls)}, deskWith(fullHeap(24), pairBonds(24, impl.MaxBonds)[1:]...), deskWith(fullHeap(3), bonds(0, 1, 0, 2, 1, 2)...),
	} {
		check(t, "ValidDesk of "+told(d), impl.ValidDesk(d), true)
	}
	for _, d := range wrongDesks() {
		check(t, "ValidDesk of "+told(d), impl.ValidDesk(d), false)
	}
}

func TestWrongDesks(t *testing.T) {
	journal := referenceJournal("mass")
	for _, d := range wrongDesks() {
		for _, line := range []string{"mass", "rules", "heap none", "walls none", "bonds none", "rules " + rulesAs(usualRules()), "nothing", ""} {
			fails(t, "DeskCommand")(impl.DeskCommand(d, line))
			fails(t, "RunDesk")(impl.RunDesk(d, line+"\n"))
		}
		fails(t, "RunDesk without lines")(impl.RunDesk(d, ""))
		fails(t, "RunJournal")(impl.RunJournal(d, journal))
		fails(t, "RunJournal without lines")(impl.RunJournal(d, ""))
		fails(t, "RunJournal of another text")(impl.RunJournal(d, "mass\n"))
	}
}

// otherDesks returns desks no two of which are the same.
func otherDesks() []impl.Desk {
	list := []impl.Desk{{}}
	for field := range 4 {
		list = append(list, impl.Desk{Rules: setRule(impl.Rules{}, field, negativeZero())}, impl.Desk{Rules: setRule(impl.Rules{}, field, nan())})
	}
	for field := range 8 {
		g := setField(disc(1, 1), field, negativeZero())
		list = append(list, impl.Desk{Heap: heapWith(g)}, impl.Desk{Heap: heapWith(held(g))}, impl.Desk{Heap: heapWith(g, g)})
	}
	for field := range 6 {
		w := setWall(wall(1, 2), field, negativeZero())
		list = append(list, impl.Desk{Walls: []impl.Wall{w}}, impl.Desk{Walls: []impl.Wall{w, w}})
	}
	for _, b := range []impl.Bond{{}, bond(0, 1, 0, 0), bond(1, 0, 0, 0), bond(0, 0, negativeZero(), 0), bond(0, 0, 0, negativeZero()), bond(0, 0, nan(), inf(1))} {
		list = append(list, impl.Desk{Bonds: []impl.Bond{b}}, impl.Desk{Bonds: []impl.Bond{b, b}}, deskWith(fullHeap(2), b))
	}
	return list
}

func TestSameDesk(t *testing.T) {
	list := otherDesks()
	for i, a := range list {
		for k, b := range list {
			check(t, "SameDesk of "+told(a)+" and "+told(b), impl.SameDesk(a, b), i == k)
		}
	}
	empty := impl.Desk{Heap: impl.Heap{Grains: []impl.Grain{}}, Walls: []impl.Wall{}, Bonds: []impl.Bond{}}
	check(t, "nothing is the same as nothing", []bool{impl.SameDesk(impl.Desk{}, empty), impl.SameDesk(empty, impl.Desk{})}, "[true true]")
	odd := number(0xff800001)
	a, b := deskWith(heapWith(disc(complex(nan(), odd), odd)), bond(5, 2, odd, nan())), deskWith(heapWith(disc(complex(odd, nan()), nan())), bond(5, 2, nan(), odd))
	a.Rules.Rub, b.Rules.Rub = odd, nan()
	a.Walls, b.Walls = []impl.Wall{wall(complex(odd, 1), 3)}, []impl.Wall{wall(complex(nan(), 1), 3)}
	check(t, "not-a-numbers are one", impl.SameDesk(a, b), true)
	for _, d := range wrongDesks() {
		check(t, "a wrong desk is the same as itself, and not as a new one", []bool{impl.SameDesk(d, d), impl.SameDesk(d, impl.NewDesk())}, "[true false]")
	}
}
