package tests

import (
	"math"
	"math/rand"

	"loop.example/g01268/impl"
)

func wall(from, to complex64) impl.Wall {
	return impl.Wall{From: from, To: to}
}

func moving(w impl.Wall, speed complex64) impl.Wall {
	w.Speed = speed
	return w
}

// setWall returns a wall with another number in one of its six fields.
func setWall(w impl.Wall, field int, x float32) impl.Wall {
	switch field {
	case 0:
		w.From = complex(x, imag(w.From))
	case 1:
		w.From = complex(real(w.From), x)
	case 2:
		w.To = complex(x, imag(w.To))
	case 3:
		w.To = complex(real(w.To), x)
	case 4:
		w.Speed = complex(x, imag(w.Speed))
	case 5:
		w.Speed = complex(real(w.Speed), x)
	}
	return w
}

// invalidWalls returns walls with a wrong number, and walls whose ends are too
// near or too far apart.
func invalidWalls() []impl.Wall {
	list := []impl.Wall{
		{}, wall(3, 3), wall(complex(1, 2), complex(1, 2)), moving(wall(complex(0, 7), complex(0, 7)), 1),
		wall(0, complex(0, negativeZero())), wall(1e30, 1e30+1), wall(0, 1e-38), wall(0, 0x1p-75), wall(0, complex(0, -0x1p-75)),
		wall(0, 0x1p64), wall(complex(0, -0x1p63), complex(0, 0x1p63)), wall(0, 1e30), wall(0, math.MaxFloat32),
		wall(-3e38, 3e38), wall(complex(0, 3e38), complex(0, -3e38)),
	}
	for field := range 6 {
		for _, x := range append(notFinite(), number(0xff800001)) {
			list = append(list, setWall(moving(wall(complex(1, 2), complex(3, 5)), complex(7, 1)), field, x))
		}
	}
	return list
}

// edgeWalls returns walls that are only just valid.
func edgeWalls() []impl.Wall {
	near, far := number(0x1a000001), number(0x5f7fffff) // a little more than 2^-75, and less than 2^64
	return []impl.Wall{
		wall(0, complex(near, 0)), wall(complex(0, -near), 0), wall(0, complex(0x1p-75, 0x1p-75)),
		wall(0, complex(far, 0)), wall(complex(0, far), 0), wall(complex(-far/2, 0), complex(far/2, 0)),
		wall(complex(3e38, 1), complex(3e38, 2)), moving(wall(0, 1), complex(math.MaxFloat32, -math.MaxFloat32)),
	}
}

// wrongWalls returns lists that are no walls.
func wrongWalls() [][]impl.Wall {
	lists := [][]impl.Wall{repeated(wall(0, 1), impl.MaxWalls+1), repeated(wall(0, 1), 100000), repeated(impl.Wall{}, 3)}
	for _, w := range invalidWalls() {
		lists = append(lists, []impl.Wall{w}, []impl.Wall{wall(0, 1), wall(5, 3), w}, []impl.Wall{w, wall(0, 1)})
	}
	return lists
}

// wrongStiffs returns numbers that are neither a stiff nor a loss.
func wrongStiffs() []float32 {
	return append(notFinite(), -1, number(0x80000001), -math.MaxFloat32)
}

// someWall returns a valid wall.
func someWall(source *rand.Rand, size float64) impl.Wall {
	from := somePoint(source, size)
	return moving(wall(from, from+somePoint(source, size)), somePoint(source, 2))
}

func someWalls(source *rand.Rand, count int, size float64) []impl.Wall {
	list := make([]impl.Wall, count)
	for n := range list {
		list[n] = someWall(source, size)
	}
	return list
}

// scene is a heap among walls.
type scene struct {
	heap        impl.Heap
	walls       []impl.Wall
	stiff, loss float32
}

// someScenes returns heaps and walls of all counts, always the same ones.
func someScenes() []scene {
	source := rand.New(rand.NewSource(21))
	list := []scene{}
	for count := range impl.MaxGrains + 1 {
		for n, size := range []float64{0.3, 1, 3, 8, 50, 1e6, 1e18} {
			r := someRules(source)
			walls := someWalls(source, (5*count+n)%(impl.MaxWalls+1), size)
			list = append(list, scene{someHeap(source, count, size), walls, r.Stiff, r.Loss})
		}
	}
	for count := int64(3); count <= impl.MaxWalls; count++ {
		walls, _ := impl.DrumWalls(count, somePoint(source, 0.3), 4.3)
		list = append(list, scene{someHeap(source, 12, 2), walls, 20, 0.3})
	}
	return list
}
