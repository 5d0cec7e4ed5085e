package tests

import (
	"math"
	"math/rand"
	"strconv"
	"strings"
	"testing"

	"loop.example/g01268/impl"
)

const (
	usualGrain = "4000000000000000,3f80000000000000:3f000000,3f800000,00000000,80000000:free"
	heldGrain  = "0000000140400000,800000007f7fffff:00000001,7f7fffff,bf800000,00000000:held"
	usualWall  = "c000000000000000,4000000000000000,000000003f800000"
)

func TestGrainText(t *testing.T) {
	usual := impl.Grain{At: 2, Speed: 1, Radius: 0.5, Mass: 1, Spin: negativeZero()}
	large := impl.Grain{
		At: complex(number(1), 3), Speed: complex(negativeZero(), math.MaxFloat32),
		Radius: number(1), Mass: math.MaxFloat32, Turn: -1, Held: true,
	}
	for text, g := range map[string]impl.Grain{usualGrain: usual, heldGrain: large} {
		gives(t, "GrainText", text)(impl.GrainText(g))
		gives(t, "ReadGrain", g)(impl.ReadGrain(text))
		gives(t, "HeapText", text)(impl.HeapText(heapWith(g)))
		gives(t, "ReadHeap", heapWith(g))(impl.ReadHeap(text))
	}
	gives(t, "HeapText", usualGrain+"/"+heldGrain+"/"+usualGrain)(impl.HeapText(heapWith(usual, large, usual)))
	gives(t, "ReadHeap", heapWith(large, large, usual))(impl.ReadHeap(heldGrain + "/" + heldGrain + "/" + usualGrain))
	for _, g := range invalidGrains() {
		fails(t, "GrainText of a wrong grain")(impl.GrainText(g))
		fails(t, "ReadGrain of a wrong grain")(impl.ReadGrain(grainAs(g)))
		fails(t, "ReadHeap with a wrong grain")(impl.ReadHeap(usualGrain + "/" + grainAs(g)))
		fails(t, "ReadHeap with a wrong grain")(impl.ReadHeap(grainAs(g) + "/" + usualGrain))
	}
}

func TestHeapText(t *testing.T) {
	gives(t, "HeapText of no grains", "none")(impl.HeapText(impl.Heap{}))
	gives(t, "ReadHeap of no grains", impl.Heap{})(impl.ReadHeap("none"))
	for count := range impl.MaxGrains + 1 {
		h := fullHeap(count)
		gives(t, "HeapText", heapAs(h))(impl.HeapText(h))
		gives(t, "ReadHeap", h)(impl.ReadHeap(heapAs(h)))
	}
	for _, h := range invalidHeaps() {
		fails(t, "HeapText of a wrong heap")(impl.HeapText(h))
		fails(t, "ReadHeap of a wrong heap")(impl.ReadHeap(heapAs(h)))
	}
}

func TestWallsText(t *testing.T) {
	gives(t, "WallsText of no walls", "none")(impl.WallsText(nil))
	gives(t, "ReadWalls of no walls", []impl.Wall{})(impl.ReadWalls("none"))
	floor := moving(wall(-2, 2), 1i)
	gives(t, "WallsText", usualWall)(impl.WallsText([]impl.Wall{floor}))
	gives(t, "ReadWalls", []impl.Wall{floor})(impl.ReadWalls(usualWall))
	gives(t, "WallsText of two", usualWall+",0000000000000000,3f80000080000000,0000000000000000")(
		impl.WallsText([]impl.Wall{floor, wall(0, complex(1, negativeZero()))}))
	for count := range impl.MaxWalls + 1 {
		list := repeated(floor, count)
		gives(t, "WallsText", wallsAs(list))(impl.WallsText(list))
		gives(t, "ReadWalls", list)(impl.ReadWalls(wallsAs(list)))
	}
	gives(t, "ReadWalls that are just valid", edgeWalls())(impl.ReadWalls(wallsAs(edgeWalls())))
	for _, list := range wrongWalls() {
		fails(t, "WallsText of wrong walls")(impl.WallsText(list))
		fails(t, "ReadWalls of wrong walls")(impl.ReadWalls(wallsAs(list)))
	}
	// Each wall has three numbers.
	for count := 1; count <= 40; count++ {
		points := pointsAs(repeated(complex64(0), count)...)
		fails(t, "ReadWalls of points at one place")(impl.ReadWalls(points))
		list := []complex64{}
		for n := range count {
			list = append(list, complex(float32(n), 0))
		}
		_, ok := impl.ReadWalls(pointsAs(list...))
		check(t, "ReadWalls of some points", ok, count%3 == 0 && count <= 36)
	}
}

func TestBondsText(t *testing.T) {
	h := fullHeap(24)
	gives(t, "BondsText of no bonds", "none")(impl.BondsText(h, nil))
	gives(t, "ReadBonds of no bonds", []impl.Bond{})(impl.ReadBonds(h, "none"))
	gives(t, "BondsText of no grains", "none")(impl.BondsText(impl.Heap{}, nil))
	gives(t, "ReadBonds of no grains", []impl.Bond{})(impl.ReadBonds(impl.Heap{}, "none"))
	list := []impl.Bond{bond(0, 1, 1, 2), bond(0, 23, number(1), 0), bond(10, 11, math.MaxFloat32, negativeZero())}
	text := "0,1:3f800000,40000000/0,23:00000001,00000000/10,11:7f7fffff,80000000"
	gives(t, "BondsText", text)(impl.BondsText(h, list))
	gives(t, "ReadBonds", list)(impl.ReadBonds(h, text))
	for _, most := range []int{1, 2, impl.MaxBonds - 1, impl.MaxBonds} {
		list := pairBonds(24, most+1)[1:]
		gives(t, "BondsText", bondsAs(list))(impl.BondsText(h, list))
		gives(t, "ReadBonds", list)(impl.ReadBonds(h, bondsAs(list)))
	}
	many := pairBonds(24, impl.MaxBonds+2)[1:]
	for n := range many {
		many[n].Long = 1
	}
	fails(t, "BondsText of too many")(impl.BondsText(h, many))
	fails(t, "ReadBonds of too many")(impl.ReadBonds(h, bondsAs(many)))
	for _, list := range wrongBondLists(3) {
		fails(t, "BondsText of wrong bonds")(impl.BondsText(fullHeap(3), list))
		fails(t, "ReadBonds of wrong bonds")(impl.ReadBonds(fullHeap(3), bondsAs(list)))
	}
	for _, bad := range invalidHeaps() {
		for _, list := range [][]impl.Bond{nil, bonds(0, 1)} {
			fails(t, "BondsText of a wrong heap")(impl.BondsText(bad, list))
			fails(t, "ReadBonds of a wrong heap")(impl.ReadBonds(bad, bondsAs(list)))
		}
	}
	// Bonds of a heap are not those of one with less grains.
	for count := range 5 {
		_, ok := impl.BondsText(fullHeap(count), bonds(0, 1, 2, 3))
		_, again := impl.ReadBonds(fullHeap(count), bondsAs(bonds(0, 1, 2, 3)))
		check(t, "bonds of another heap", []bool{ok, again}, []bool{count == 4, count == 4})
	}
}

func TestReadGrainOfOtherTexts(t *testing.T) {
	grain := strings.Split(usualGrain, ":")
	points, sizes := grain[0], grain[1]
	for _, s := range []string{
		"", ":", "::", ":::", "none", "none:none:free", points, points + ":" + sizes, points + ":" + sizes + ":", ":" + usualGrain, usualGrain + ":",
		usualGrain + ":free", points + "::" + sizes + ":free", points + ":" + sizes + "::free", points + "," + sizes + ":free", usualGrain + "/",
		"/" + usualGrain, usualGrain + "/" + usualGrain, " " + usualGrain, usualGrain + " ", usualGrain + "\n", strings.ToUpper(usualGrain),
		points + ":" + sizes + ":Free", points + ":" + sizes + ":freed", points + ":" + sizes + ":fre", points + ":" + sizes + ":hold",
		points + ":" + sizes + ":true", points + ":" + sizes + ":none", points + ":" + sizes + ": free", sizes + ":" + points + ":free",
		points + ",3f80000000000000:" + sizes + ":free", "3f80000000000000:" + sizes + ":free", "none:" + sizes + ":free",
		points + ":none:free", points + ":" + sizes + ",00000000:free", points + ":3f000000,3f800000,00000000:free",
		points + ":3F000000,3f800000,00000000,00000000:free", points + ":+f000000,3f800000,00000000,00000000:free",
		points + ":3f00000,3f800000,00000000,00000000:free", points + ":3f0000000,3f800000,00000000,00000000:free",
		points + ":3f000000,,3f800000,00000000,00000000:free", points + ":,3f000000,3f800000,00000000,00000000:free",
		points + ":3f000000,3f800000,00000000,7fc00000:free", points + ":3f000000,3f800000,7f800000,00000000:free",
		points + ":3f000000,3f800000,7f800001,00000000:free", points + ":00000000,3f800000,00000000,00000000:free",
		points + ":3f000000,80000000,00000000,00000000:free", points + ":bf000000,3f800000,00000000,00000000:free",
	} {
		fails(t, "ReadGrain of "+strconv.Quote(s))(impl.ReadGrain(s))
		if !strings.Contains(s, "/") {
			fails(t, "ReadHeap of "+strconv.Quote(s)+" and another")(impl.ReadHeap(s + "/" + usualGrain))
			fails(t, "ReadHeap of another and "+strconv.Quote(s))(impl.ReadHeap(usualGrain + "/" + s))
		}
	}
	for _, s := range []string{
		"", "/", "None", "none/", "/none", "none/none", usualGrain + "/", "/" + usualGrain, usualGrain + "//" + usualGrain,
		usualGrain + "/none", "none/" + usualGrain, usualGrain + "," + usualGrain, usualGrain + " / " + usualGrain, "none ", " none",
	} {
		fails(t, "ReadHeap of "+strconv.Quote(s))(impl.ReadHeap(s))
	}
}

func TestReadWallsOfOtherTexts(t *testing.T) {
	for _, s := range []string{
		"", ",", "None", "none,", "none,none", "," + usualWall, usualWall + ",", usualWall + ",," + usualWall, usualWall + "/" + usualWall,
		usualWall + ",none", usualWall + " ", " " + usualWall, "C" + usualWall[1:], usualWall[1:], usualWall + "0", strings.Replace(usualWall, ",", ":", 1),
		"c000000000000000,4000000000000000,0000000000000000,3f80000000000000",
		"c000000000000000,4000000000000000,000000007f800000", "7fc0000000000000,4000000000000000,0000000000000000",
		"7fc0000100000000,4000000000000000,0000000000000000", "4000000000000000,4000000000000000,000000003f800000",
	} {
		fails(t, "ReadWalls of "+strconv.Quote(s))(impl.ReadWalls(s))
	}
}

func TestReadBondsOfOtherTexts(t *testing.T) {
	const one, two = "0,1:3f800000,40000000", "0,2:3f800000,00000000"
	for _, s := range []string{
		"", "/", ":", "None", "none/", "none/none", one + "/", "/" + one, one + "//" + two, one + "/none", one + "," + two, one + ":" + two,
		one + ":", ":" + one, "0,1::3f800000,40000000", "0,1", "0,1:", ":3f800000,40000000", "0,1:none", "none:3f800000,40000000",
		"0:3f800000,40000000", "0,1,2:3f800000,40000000", "0,1:3f800000", "0,1:3f800000,40000000,00000000", "0,,1:3f800000,40000000",
		",0,1:3f800000,40000000", "0,1,:3f800000,40000000", "00,1:3f800000,40000000", "0,01:3f800000,40000000", "+0,1:3f800000,40000000",
		"-0,1:3f800000,40000000", "-1,1:3f800000,40000000", "0,1: 3f800000,40000000", "0, 1:3f800000,40000000", " " + one, one + "\n",
		"0,1:3F800000,40000000", "0,1:3f800000,7f800000", "0,1:7fc00000,40000000", "0,1:3f800000,7fc00001", "0,1:00000000,40000000",
		"0,1:80000000,40000000", "0,1:3f800000,c0000000", "1,0:3f800000,40000000", "1,1:3f800000,40000000", one + "/" + one, two + "/" + one,
		"0,3:3f800000,40000000", "0,1000000000000001:3f800000,40000000", "a,b:3f800000,40000000", "0,1:" + strings.Repeat("3f800000,", 300),
		strings.Repeat("0,", 70) + "1:3f800000,40000000",
	} {
		fails(t, "ReadBonds of "+strconv.Quote(s))(impl.ReadBonds(fullHeap(3), s))
	}
	gives(t, "ReadBonds", []impl.Bond{bond(0, 1, 1, 2), bond(0, 2, 1, 0)})(impl.ReadBonds(fullHeap(3), one+"/"+two))
}

// nearlyEqual returns texts that differ from s in one byte, or have one more or
// less.
func nearlyEqual(s string) []string {
	list := []string{s}
	for n := range len(s) + 1 {
		for _, b := range []string{"0", "1", "f", "F", ",", ":", "/", " ", "-", "+", "\n", "h", "\xff"} {
			list = append(list, s[:n]+b+s[n:])
			if n < len(s) {
				list = append(list, s[:n]+b+s[n+1:])
			}
		}
		if n < len(s) {
			list = append(list, s[:n]+s[n+1:], s[:n], s[n:])
		}
	}
	return list
}

func TestTextsThatAreNearlyValid(t *testing.T) {
	read := 0
	for _, text := range []string{usualGrain, heldGrain, usualGrain + "/" + heldGrain, "none"} {
		for _, s := range nearlyEqual(text) {
			g, ok := referenceReadGrain(s)
			expects(t, "ReadGrain of "+strconv.Quote(s), ok, g)(impl.ReadGrain(s))
			h, ok := referenceReadHeap(s)
			expects(t, "ReadHeap of "+strconv.Quote(s), ok, h)(impl.ReadHeap(s))
			if ok {
				gives(t, "HeapText of what is read", s)(impl.HeapText(h))
				read++
			}
		}
	}
	for _, text := range []string{usualWall, usualWall + "," + usualWall, "none"} {
		for _, s := range nearlyEqual(text) {
			list, ok := referenceReadWalls(s)
			expects(t, "ReadWalls of "+strconv.Quote(s), ok, list)(impl.ReadWalls(s))
			if ok {
				gives(t, "WallsText of what is read", s)(impl.WallsText(list))
				read++
			}
		}
	}
	for _, text := range []string{bondsAs(bonds(0, 1, 1, 2)), bondsAs(bonds(9, 11)), "none"} {
		for _, s := range nearlyEqual(text) {
			list, ok := referenceReadBonds(fullHeap(13), s)
			expects(t, "ReadBonds of "+strconv.Quote(s), ok, list)(impl.ReadBonds(fullHeap(13), s))
			if ok {
				gives(t, "BondsText of what is read", s)(impl.BondsText(fullHeap(13), list))
				read++
			}
		}
	}
	check(t, "many texts are nearly valid, and some are", read > 500, true)
}

func TestDesksAreReadBackToTheLastBit(t *testing.T) {
	source := rand.New(rand.NewSource(81))
	numbers := append(oddNumbers(), manyNumbers(300)...)
	for n := range numbers {
		g := disc(1, 1)
		for field := range 8 {
			g = setField(g, field, numbers[(n+field*field)%len(numbers)])
		}
		g.Held = n%2 == 0
		expects(t, "GrainText", isGrain(g), grainAs(g))(impl.GrainText(g))
		expects(t, "ReadGrain", isGrain(g), g)(impl.ReadGrain(grainAs(g)))
	}
	for range 300 {
		d := someDesk(source)
		gives(t, "HeapText", heapAs(d.Heap))(impl.HeapText(d.Heap))
		gives(t, "ReadHeap", d.Heap)(impl.ReadHeap(heapAs(d.Heap)))
		gives(t, "WallsText", wallsAs(d.Walls))(impl.WallsText(d.Walls))
		gives(t, "ReadWalls", d.Walls)(impl.ReadWalls(wallsAs(d.Walls)))
		gives(t, "BondsText", bondsAs(d.Bonds))(impl.BondsText(d.Heap, d.Bonds))
		gives(t, "ReadBonds", d.Bonds)(impl.ReadBonds(d.Heap, bondsAs(d.Bonds)))
		// What a desk outputs, it takes.
		parts := impl.NewDesk()
		for _, line := range []string{"heap", "rules", "walls", "bonds"} {
			_, part := at(t, d, line)
			next, output := at(t, parts, line+" "+part)
			check(t, "the part is taken: "+line, output, "ok")
			parts = next
		}
		check(t, "a desk of all four parts", told(parts, impl.SameDesk(parts, d)), told(d, true))
	}
}
