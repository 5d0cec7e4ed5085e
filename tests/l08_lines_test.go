package tests

import (
	"math/rand"
	"slices"
	"strings"
	"testing"

	"loop.example/g01268/impl"
)

// tiedDesk returns a desk with three grains in a row, of which the last one is
// held, and two bonds.
func tiedDesk() impl.Desk {
	h := heapWith(disc(0, 1), heavy(disc(1.5, 1), 2), held(disc(4, 1)))
	h.Grains[1].Speed = 1i
	return deskWith(h, bonds(0, 1, 1, 2)...)
}

func TestLinesThatTell(t *testing.T) {
	d := tiedDesk()
	outputs(t, d, "heap", heapAs(d.Heap))
	outputs(t, d, "rules", "40000000,3e800000,3f000000,3f800000")
	outputs(t, d, "walls", "c100000000000000,4100000000000000,0000000000000000")
	outputs(t, d, "bonds", "0,1:3f800000,40000000/1,2:3f800000,40000000")
	outputs(t, d, "gap 0 1", numbersAs(-0.5))
	outputs(t, d, "gap 2 0", numbersAs(2))
	outputs(t, d, "slide 0 1", numbersAs(0, 1))
	outputs(t, d, "slide 1 0", numbersAs(negativeZero(), 1))
	outputs(t, d, "mass", numbersAs(4))
	outputs(t, d, "momentum", pointsAs(2i))
	outputs(t, d, "centre", pointsAs(1.75))
	outputs(t, d, "energy "+pointsAs(0), numbersAs(1))
	outputs(t, d, "energy "+pointsAs(complex(1, 5)), numbersAs(1-7))
	outputs(t, d, "links "+numbersAs(2), "1")
	outputs(t, d, "links "+numbersAs(0), "1")
	// The first grain pushes the second one by 1 over the way 1.5.
	outputs(t, d, "stress "+numbersAs(2)+" "+numbersAs(0.5), numbersAs(3, 0, 0, 0))
	outputs(t, d, "pieces", "1")
	empty := impl.Desk{}
	for line, want := range map[string]string{
		"heap": "none", "rules": numbersAs(0, 0, 0, 0), "walls": "none", "bonds": "none", "mass": numbersAs(0), "momentum": pointsAs(0),
		"energy " + pointsAs(1): numbersAs(0), "links " + numbersAs(1): "0", "stress " + numbersAs(1) + " " + numbersAs(2): numbersAs(0, 0, 0, 0), "pieces": "0",
		"centre": "no", "gap 0 0": "no", "gap 0 1": "no", "slide 0 1": "no", "drop 0": "no", "hold 0": "no", "free 0": "no",
	} {
		outputs(t, empty, line, want)
	}
}

func TestLinesThatSet(t *testing.T) {
	d := tiedDesk()
	for _, h := range []impl.Heap{{}, fullHeap(2), fullHeap(24), d.Heap} {
		changes(t, d, "heap "+heapAs(h), "ok", func(d *impl.Desk) { d.Heap, d.Bonds = h, nil })
	}
	for _, r := range []impl.Rules{{}, usualRules(), {Stiff: 1, Loss: 2, Rub: 3, Grip: 4}, {Loss: negativeZero()}, setRule(usualRules(), 2, 3e38)} {
		changes(t, d, "rules "+rulesAs(r), "ok", func(d *impl.Desk) { d.Rules = r })
	}
	for _, list := range [][]impl.Wall{nil, d.Walls, edgeWalls(), repeated(wall(0, 1i), impl.MaxWalls)} {
		changes(t, d, "walls "+wallsAs(list), "ok", func(d *impl.Desk) { d.Walls = list })
	}
	for _, list := range [][]impl.Bond{nil, d.Bonds, bonds(0, 2), bonds(0, 1, 0, 2, 1, 2)} {
		changes(t, d, "bonds "+bondsAs(list), "ok", func(d *impl.Desk) { d.Bonds = list })
	}
	full := deskWith(fullHeap(24))
	list := pairBonds(24, impl.MaxBonds+1)[1:]
	changes(t, full, "bonds "+bondsAs(list), "ok", func(d *impl.Desk) { d.Bonds = list })
}

func TestLinesThatDoNotSet(t *testing.T) {
	d := tiedDesk()
	for _, h := range invalidHeaps() {
		outputs(t, d, "heap "+heapAs(h), "no")
		if len(h.Grains) == 1 {
			outputs(t, d, "grain "+heapAs(h), "no")
		}
	}
	for _, r := range invalidRules() {
		outputs(t, d, "rules "+rulesAs(r), "no")
	}
	for _, text := range []string{"none", numbersAs(1), numbersAs(1, 1, 1), numbersAs(1, 1, 1, 1, 1), numbersAs(1, 1, 1, 1) + ",", pointsAs(1, 1), "3F800000," + numbersAs(1, 1, 1)} {
		outputs(t, d, "rules "+text, "no")
	}
	for _, list := range wrongWalls() {
		outputs(t, d, "walls "+wallsAs(list), "no")
	}
	for _, list := range wrongBondLists(3) {
		outputs(t, d, "bonds "+bondsAs(list), "no")
	}
	// These bonds are valid for another desk.
	outputs(t, d, "bonds "+bondsAs(bonds(0, 3)), "no")
	outputs(t, impl.Desk{}, "bonds "+bondsAs(bonds(0, 1)), "no")
	outputs(t, d, "grain none", "no")
	outputs(t, d, "grain "+usualGrain+"/"+usualGrain, "no")
}

func TestLinesWithGrains(t *testing.T) {
	d := tiedDesk()
	g, _ := referenceReadGrain(usualGrain)
	changes(t, d, "grain "+usualGrain, "ok", func(d *impl.Desk) { d.Heap = heapWith(append(d.Heap.Grains[:3:3], g)...) })
	changes(t, d, "drop 0", "ok", func(d *impl.Desk) { d.Heap, d.Bonds = heapWith(d.Heap.Grains[1:]...), nil })
	changes(t, d, "drop 2", "ok", func(d *impl.Desk) { d.Heap, d.Bonds = heapWith(d.Heap.Grains[:2]...), nil })
	setHeld := func(i int, isHeld bool) func(d *impl.Desk) {
		return func(d *impl.Desk) {
			d.Heap = heapWith(append([]impl.Grain{}, d.Heap.Grains...)...)
			d.Heap.Grains[i].Held = isHeld
		}
	}
	changes(t, d, "hold 0", "ok", setHeld(0, true))
	changes(t, d, "hold 2", "ok", setHeld(2, true))
	changes(t, d, "free 2", "ok", setHeld(2, false))
	changes(t, d, "free 1", "ok", setHeld(1, false))
	outputs(t, d, "hold 2", "ok")
	outputs(t, d, "free 0", "ok")
	changes(t, d, "push "+pointsAs(complex(2, -1)), "ok", func(d *impl.Desk) {
		d.Heap = heapWith(append([]impl.Grain{}, d.Heap.Grains...)...)
		d.Heap.Grains[0].Speed, d.Heap.Grains[1].Speed = complex(2, -1), 2
	})
	changes(t, d, "move "+pointsAs(complex(1, -1)), "ok", func(d *impl.Desk) {
		d.Heap = heap(t, "MoveHeap")(impl.MoveHeap(d.Heap, complex(1, -1)))
	})
	outputs(t, d, "push "+pointsAs(0), "ok")
	outputs(t, d, "move "+pointsAs(0), "ok")
	for _, word := range []string{"-1", "3", "4", "24", "1000000000000000", "-1000000000000000", "9223372036854775808", "", "01", "+1", "1.0", "x", "none", "0,1"} {
		for _, line := range []string{"drop ", "hold ", "free ", "gap 0 ", "slide 0 "} {
			outputs(t, d, line+word, "no")
		}
		outputs(t, d, "gap "+word+" 1", "no")
		outputs(t, d, "slide "+word+" 1", "no")
	}
	for _, line := range []string{"gap 0 0", "gap 2 2", "slide 1 1"} {
		outputs(t, d, line, "no")
	}
	full := deskWith(fullHeap(24), bonds(0, 1)...)
	outputs(t, full, "grain "+usualGrain, "no")
	next, _ := at(t, full, "drop 23")
	last := changes(t, next, "grain "+usualGrain, "ok", func(d *impl.Desk) { d.Heap = heapWith(append(d.Heap.Grains[:23:23], g)...) })
	check(t, "a heap that is full again", len(last.Heap.Grains), 24)
}

func TestBondsStayOrGo(t *testing.T) {
	d := tiedDesk()
	for line, stays := range map[string]bool{
		"heap none": false, "heap " + heapAs(d.Heap): false, "drop 0": false, "drop 2": false,
		"grain " + usualGrain: true, "hold 0": true, "free 2": true, "push " + pointsAs(1): true, "move " + pointsAs(1): true,
		"rules " + numbersAs(0, 0, 0, 0): true, "walls none": true, "fall " + pointsAs(0) + " " + numbersAs(0.5) + " 3": true,
		"walled " + pointsAs(-1i) + " " + numbersAs(0) + " " + numbersAs(0) + " " + numbersAs(1) + " 3": true, "pieces": true, "drop 3": true, "heap x": true,
		"bonds none": false, "bind " + numbersAs(-1) + " " + numbersAs(1): false,
	} {
		next, _ := at(t, d, line)
		want := []impl.Bond{}
		if stays {
			want = d.Bonds
		}
		check(t, "the bonds behind "+line, told(next.Bonds), told(want))
	}
}

func TestLinesThatFail(t *testing.T) {
	one := " " + numbersAs(1)
	none := " " + numbersAs(0)
	same := deskWith(beads(5, 5), bonds(0, 1)...)
	for _, line := range []string{
		"slide 0 1", "links" + one, "stress" + one + one, "bind" + none + one, "tear" + one + none + " " + pointsAs(0) + one + " 1",
		"fall " + pointsAs(0) + one + " 1",
	} {
		outputs(t, same, line, "no")
	}
	outputs(t, same, "gap 0 1", numbersAs(-1))
	crowd := deskWith(clusters(24))
	outputs(t, crowd, "links"+one, "no")
	outputs(t, crowd, "stress"+one+one, "no")
	outputs(t, crowd, "bind"+none+one, "no")
	outputs(t, crowd, "fall "+pointsAs(0)+one+" 1", "no")
	fast := heapWith(disc(0, 1), disc(3, 1))
	fast.Grains[0].Speed, fast.Grains[1].Speed = 3e38, 3e38
	far := deskWith(heapWith(disc(-3e38, 1), disc(3e38, 1)))
	for _, line := range []string{"gap 0 1", "slide 0 1", "links" + one, "bind" + none + one, "stress" + one + one} {
		outputs(t, far, line, "no")
	}
	for _, line := range []string{"momentum", "energy " + pointsAs(0), "push " + pointsAs(3e38), "fall " + pointsAs(0) + " " + numbersAs(2) + " 1"} {
		outputs(t, deskWith(fast), line, "no")
	}
	massive := deskWith(heapWith(heavy(disc(1, 1), 3e38), heavy(disc(9, 1), 3e38)))
	outputs(t, massive, "mass", "no")
	outputs(t, massive, "centre", "no")
	d := tiedDesk()
	for _, line := range []string{
		"stress" + one + none, "stress" + one + " " + numbersAs(-1), "stress" + one + " " + numbersAs(1e-45), "stress " + numbersAs(-1) + one, "links " + numbersAs(-1),
		"bind" + one + " " + numbersAs(-1), "walled " + pointsAs(0) + " " + numbersAs(-1) + none + none + " 1", "walled " + pointsAs(0) + none + " " + numbersAs(-1) + none + " 1",
		"tear " + numbersAs(-1) + none + " " + pointsAs(0) + one + " 1", "tear" + one + " " + numbersAs(-1) + " " + pointsAs(0) + one + " 1",
		"tear" + one + none + " " + pointsAs(0) + " " + numbersAs(-1) + " 1", "fall " + pointsAs(0) + " " + numbersAs(-1) + " 1",
		"tear" + one + none + " " + pointsAs(3e38) + " " + numbersAs(3e38) + " 1", "fall " + pointsAs(3e38) + " " + numbersAs(3e38) + " 1",
		"walled " + pointsAs(3e38) + none + none + " " + numbersAs(3e38) + " 1", "move " + pointsAs(complex(0, inf(1))), "push " + pointsAs(complex(nan(), 0)),
	} {
		outputs(t, d, line, "no")
	}
}

func TestSteps(t *testing.T) {
	d := tiedDesk()
	pull, tick := complex64(complex(0, -0.5)), float32(0.125)
	for _, steps := range []int64{0, 1, 7, impl.MaxSteps, impl.MaxSteps + 1, 64, 65, -1} {
		count := impl.Decimal(steps)
		line := "fall " + pointsAs(pull) + " " + numbersAs(tick) + " " + count
		if h, _, energies, ok := impl.RunHeap(d.Heap, d.Rules, nil, pull, tick, steps); ok {
			changes(t, d, line, numbersAs(energies...), func(d *impl.Desk) { d.Heap = h })
		} else {
			outputs(t, d, line, "no")
		}
		line = "walled " + pointsAs(pull) + " " + numbersAs(4) + " " + numbersAs(0.5) + " " + numbersAs(tick) + " " + count
		above := d
		above.Heap = heap(t, "MoveHeap")(impl.MoveHeap(d.Heap, 0.875i))
		if h, ok := impl.FallOnWalls(above.Heap, d.Walls, pull, 4, 0.5, tick, steps); ok {
			changes(t, above, line, "ok", func(d *impl.Desk) { d.Heap = h })
		} else {
			outputs(t, above, line, "no")
		}
		line = "tear " + numbersAs(2) + " " + numbersAs(0.25) + " " + pointsAs(pull) + " " + numbersAs(tick) + " " + count
		if h, list, counts, ok := impl.RunBonds(d.Heap, d.Bonds, 2, 0.25, pull, tick, steps); ok {
			text, _ := impl.ListText(counts)
			changes(t, d, line, text, func(d *impl.Desk) { d.Heap, d.Bonds = h, list })
		} else {
			outputs(t, d, line, "no")
		}
	}
	outputs(t, d, "fall "+pointsAs(pull)+" "+numbersAs(tick)+" 0", "none")
	outputs(t, d, "tear "+numbersAs(2)+" "+numbersAs(0.25)+" "+pointsAs(pull)+" "+numbersAs(tick)+" 0", "none")
	outputs(t, d, "walled "+pointsAs(pull)+" "+numbersAs(4)+" "+numbersAs(0.5)+" "+numbersAs(tick)+" 0", "ok")
}

func TestMostSteps(t *testing.T) {
	d := deskWith(beads(0, 3), bonds(0, 1)...)
	d.Walls = nil
	still, nothing := pointsAs(0)+" ", numbersAs(0)+" "
	for line, most := range map[string]int64{
		"fall " + still + nothing:                                impl.MaxSteps,
		"walled " + still + nothing + nothing + nothing:          64,
		"tear " + nothing + nothing + still + numbersAs(1) + " ": impl.MaxSteps,
	} {
		for steps, isRefused := range map[int64]bool{-1: true, 0: false, most - 1: false, most: false, most + 1: true, impl.MaxValue: true} {
			next, output := at(t, d, line+impl.Decimal(steps))
			check(t, "refused: "+line+impl.Decimal(steps), output == "no", isRefused)
			check(t, "the desk behind "+line, told(next), told(d))
		}
	}
}

func TestBindAndTear(t *testing.T) {
	d := impl.NewDesk()
	bound := changes(t, d, "bind "+numbersAs(0.5)+" "+numbersAs(1), "ok", func(d *impl.Desk) {
		d.Bonds = []impl.Bond{bond(0, 1, 1, 1), bond(0, 2, 1, 1), bond(1, 2, 1, 1)}
	})
	outputs(t, bound, "pieces", "1")
	// Other bonds take the place of those that there are.
	changes(t, bound, "bind "+numbersAs(-9)+" "+numbersAs(1), "ok", func(d *impl.Desk) { d.Bonds = nil })
	apart := changes(t, bound, "bonds 0,1:3f000000,3f800000/1,2:3f800000,3f800000", "ok", func(d *impl.Desk) {
		d.Bonds = []impl.Bond{bond(0, 1, 0.5, 1), bond(1, 2, 1, 1)}
	})
	// The first bond is stretched by 1/2, and snaps at once with stiff 4; nothing moves in no time.
	torn := changes(t, apart, "tear "+numbersAs(4)+" "+numbersAs(0)+" "+pointsAs(1)+" "+numbersAs(0)+" 3", "1,0,0", func(d *impl.Desk) {
		d.Bonds = []impl.Bond{bond(1, 2, 1, 1)}
	})
	outputs(t, torn, "pieces", "2")
	outputs(t, torn, "bonds", "1,2:3f800000,3f800000")
}

func TestLinesOfOtherForms(t *testing.T) {
	d := impl.NewDesk()
	good := map[string]string{"T": "none", "N": "1", "X": numbersAs(1), "C": pointsAs(1)}
	for _, form := range forms() {
		words := strings.Split(form, " ")
		for n, letter := range words[1:] {
			words[n+1] = good[letter]
		}
		line := strings.Join(words, " ")
		isPart := slices.Contains([]string{"heap", "rules", "walls", "bonds"}, words[0])
		if len(words) > 1 && !isPart {
			outputs(t, d, strings.Join(words[:len(words)-1], " "), "what")
			outputs(t, d, words[0], "what")
			outputs(t, d, words[0]+" "+strings.Join(words[2:], " "), map[bool]string{true: "no", false: "what"}[len(words) == 2])
		}
		if len(words) == 1 && !isPart {
			outputs(t, d, line+" ", "what")
			outputs(t, d, line+" none", "what")
		}
		for _, other := range []string{line + "  ", line + " x y", " " + line, "\t" + line, line + "s x y", strings.ToUpper(line[:1]) + line[1:], "x" + line, line[1:], "\n" + line} {
			outputs(t, d, other, "what")
		}
		if len(words) > 1 {
			outputs(t, d, line+" ", "what")
			outputs(t, d, line+" x", "what")
			outputs(t, d, strings.Replace(line, " ", "  ", 1), "what")
			outputs(t, d, strings.Replace(line, " ", "\t", -1), "what")
		}
		// A word that is empty, or has a byte too many, is not what it must be.
		for n := 1; n < len(words); n++ {
			for _, word := range []string{"", words[n] + "\n", words[n] + ",", "\xff", "+" + words[n], strings.ToUpper(words[n]) + "A", "7fc00000", "7f80000000000000", "none,none"} {
				wrong := append(append(append([]string{}, words[:n]...), word), words[n+1:]...)
				outputs(t, d, strings.Join(wrong, " "), "no")
			}
		}
	}
	for _, line := range []string{"", " ", "  ", "\n", "what", "no", "ok", "none", "mass\n", "mass\nmass", "mass mass", "heap none none", "bind", "Mass", "masS", "é", "\xff", strings.Repeat(" ", 100000), strings.Repeat("x", 100000)} {
		outputs(t, d, line, "what")
	}
	outputs(t, d, "heap ", "no")
	outputs(t, d, "heap "+strings.Repeat("/", 100000), "no")
	outputs(t, d, "gap  0", "no")
	outputs(t, d, "gap  0 1", "what")
	outputs(t, d, "gap 0  1", "what")
}

func TestListsOfNoneOrTwo(t *testing.T) {
	d := tiedDesk()
	good := map[string]string{"N": "1", "X": numbersAs(1), "C": pointsAs(1)}
	bad := map[string][]string{
		"N": {"none", "1,1", "1,", ",1"},
		"X": {"none", numbersAs(1, 1), numbersAs(inf(1)), numbersAs(inf(-1)), numbersAs(nan()), "7f800001", pointsAs(1), numbersAs(1) + ","},
		"C": {"none", pointsAs(1, 1), pointsAs(complex(inf(1), 0)), pointsAs(complex(0, nan())), numbersAs(1), pointsAs(1) + ",", numbersAs(1, 1)},
	}
	for _, form := range forms() {
		words := strings.Split(form, " ")
		letters := words[1:]
		if strings.Contains(form, "T") {
			continue
		}
		for n, letter := range letters {
			for _, word := range bad[letter] {
				line := words[0]
				for k, other := range letters {
					if k == n {
						line += " " + word
					} else {
						line += " " + good[other]
					}
				}
				outputs(t, d, line, "no")
			}
		}
	}
}

func TestLinesOfManyDesks(t *testing.T) {
	source := rand.New(rand.NewSource(82))
	seen := map[string]int{}
	for range 20000 {
		d := someDesk(source)
		line := someLine(source, d)
		want, output := referenceLine(d, line)
		next, got := at(t, d, line)
		check(t, "the output of "+line, got, output)
		check(t, "the desk behind "+line, told(next), told(want))
		word, _, _ := strings.Cut(line, " ")
		switch output {
		case "no", "what":
			seen[output]++
		default:
			seen[word]++
		}
	}
	for _, form := range append(forms(), "no", "what") {
		word, _, _ := strings.Cut(form, " ")
		check(t, "many lines are: "+word, seen[word] > 60, true)
	}
}
