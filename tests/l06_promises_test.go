package tests

import (
	"math"
	"math/rand"
	"testing"

	"loop.example/g01268/impl"
)

// linksTold tells what functions with a heap, links and numbers return.
func linksTold(h impl.Heap, list []impl.Link, n int64, x, y float32) string {
	text := told(impl.AreLinks(h, list), impl.SameLinks(list, list), impl.SameLinks(list, nil), impl.SameLinks(nil, list))
	tell := func(results ...any) {
		text += told(results...) + "\n"
	}
	tell(impl.LinksOf(h, x))
	tell(impl.BackLinks(list))
	tell(impl.StrongLinks(h, list, x))
	tell(impl.CountsOfLinks(h, list))
	tell(impl.LooseGrains(h, list, n))
	tell(impl.ForcesOfLinks(h, list, complex(x, y)))
	tell(impl.WorstOff(h, list, complex(x, y)))
	tell(impl.PressuresOf(h, list))
	tell(impl.StressOf(h, list, x))
	tell(impl.FabricOf(h, list))
	tell(impl.IslandsOf(h, list))
	tell(impl.ChainFrom(h, list, n, complex(x, y)))
	tell(impl.BinsOfPushes(list, x, n))
	return text
}

// fieldsTold tells what functions with a heap, a view, numbers and sizes return.
func fieldsTold(h impl.Heap, v impl.View, m, n int64, x, y float32) string {
	text := told(impl.ValidView(v), impl.SameView(v, v), impl.SameView(v, impl.View{}), impl.SameView(impl.View{}, v))
	tell := func(results ...any) {
		text += told(results...) + "\n"
	}
	tell(impl.AxesOfStress(v.Values))
	tell(impl.CoverView(h, complex(x, y), x, m, n, min(m, n)))
	tell(impl.MassView(h, complex(x, y), x, m, n))
	tell(impl.MeanOfView(v))
	tell(impl.VoidsOf(v, x))
	tell(impl.TopsOf(h, x, y, n))
	return text
}

func TestFieldsReturnForAllArguments(t *testing.T) {
	source := rand.New(rand.NewSource(50))
	numbers := oddNumbers()
	sizes := []int64{-1, 0, 1, 2, 3, 8, 9, 16, 17, 23, 24, 64, 65, 1 << 32, math.MinInt64, math.MaxInt64}
	lists := append(wrongLinkLists(3), nil, links(0, 1), links(0, 1, 1, 0, 0, 1), ringLinks(24, 64), ringLinks(3, 64), ringLinks(1000, 400000))
	views := append(invalidViews(), row(1), row(numbers[:16]...), view(2, 2, 3, 0, 0, 1), evenView(16, 16, 0), view(16, 16, numbers...))
	for n, h := range oddHeaps() {
		for range 4 {
			x, y := numbers[source.Intn(len(numbers))], numbers[source.Intn(len(numbers))]
			i, k := sizes[source.Intn(len(sizes))], sizes[source.Intn(len(sizes))]
			list, v := lists[source.Intn(len(lists)-1)], views[source.Intn(len(views))]
			if n%300 == 0 {
				list = lists[len(lists)-1]
			}
			check(t, "links, again", linksTold(h, list, i, x, y), linksTold(h, list, i, x, y))
			check(t, "fields, again", fieldsTold(h, v, i, k, x, y), fieldsTold(h, v, i, k, x, y))
			// Most of the arguments above are wrong; most of these are not.
			check(t, "links, again", linksTold(h, links(0, 1, 1, 0), 1, x, y), linksTold(h, links(0, 1, 1, 0), 1, x, y))
			check(t, "fields, again", fieldsTold(h, row(y, x, 1, 0), 2, 3, x, y), fieldsTold(h, row(y, x, 1, 0), 2, 3, x, y))
		}
	}
	for n, b := range someBounds() {
		v := someView(source, int64(1+n%16), int64(1+source.Intn(16)))
		check(t, "links, again", linksTold(b.heap, b.links, 1, 0.5, 1), linksTold(b.heap, b.links, 1, 0.5, 1))
		check(t, "fields, again", fieldsTold(b.heap, v, 2, 3, 0.5, 1), fieldsTold(b.heap, v, 2, 3, 0.5, 1))
	}
}

func TestFieldsDoNotModify(t *testing.T) {
	behind, last := held(disc(complex(9, 9), 99)), link(22, 23, 99)
	for count := range impl.MaxGrains + 2 {
		row, _ := impl.RowOfGrains(int64(min(max(count, 1), 24)), 1, -0.25, 1)
		grains, allGrains := withRoom(append(row.Grains, disc(100, 1))[:count], behind)
		list, allLinks := withRoom(ringLinks(max(count, 2), 2*count), last)
		values, allValues := withRoom(someView(rand.New(rand.NewSource(51)), 4, 1).Values, 99)
		before := told(impl.Heap{Grains: allGrains}, allLinks, allValues)
		h, v := impl.Heap{Grains: grains}, impl.View{Wide: 4, High: 1, Values: values}
		for _, n := range []int64{0, 1, 2, 3, 8, 16, 24, 48} {
			first := linksTold(h, list, n, 0.5, 0.25) + fieldsTold(h, v, n, 3, 0.5, 0.25)
			check(t, "the grains, the links and the values", told(impl.Heap{Grains: allGrains}, allLinks, allValues), before)
			check(t, "fields, again", linksTold(h, list, n, 0.5, 0.25)+fieldsTold(h, v, n, 3, 0.5, 0.25), first)
		}
	}
}

func TestNilIsNoLinksAndValues(t *testing.T) {
	for _, n := range []int64{0, 1, 2, 16} {
		h, empty := fullHeap(3), impl.Heap{Grains: []impl.Grain{}}
		check(t, "no links", linksTold(h, nil, n, 0.5, 1), linksTold(h, []impl.Link{}, n, 0.5, 1))
		check(t, "no grains", linksTold(empty, nil, n, 0.5, 1), linksTold(impl.Heap{}, []impl.Link{}, n, 0.5, 1))
		check(t, "no values", fieldsTold(empty, impl.View{}, n, 2, 0.5, 1), fieldsTold(impl.Heap{}, impl.View{Values: []float32{}}, n, 2, 0.5, 1))
	}
}

// newLists returns texts of lists that functions return. Behind each call,
// what it returned is spoilt.
func newLists(t *testing.T, h impl.Heap, list []impl.Link, v impl.View) []string {
	t.Helper()
	texts := []string{}
	keepLinks := func(made []impl.Link, ok bool) {
		texts = append(texts, told(made, ok))
		spoil(made, link(8, 9, 9))
	}
	keepNumbers := func(made []float32, ok bool) {
		texts = append(texts, told(made, ok))
		spoil(made, 99)
	}
	keepIntegers := func(made []int64, ok bool) {
		texts = append(texts, told(made, ok))
		spoil(made, 99)
	}
	keepLinks(impl.LinksOf(h, 1))
	keepLinks(impl.BackLinks(list))
	keepLinks(impl.StrongLinks(h, list, -1))
	keepIntegers(impl.CountsOfLinks(h, list))
	keepIntegers(impl.LooseGrains(h, list, impl.MaxLinks))
	forces, ok := impl.ForcesOfLinks(h, list, 1)
	texts = append(texts, told(forces, ok))
	spoil(forces, 99)
	keepNumbers(impl.PressuresOf(h, list))
	keepNumbers(impl.StressOf(h, list, 1))
	islands, _, ok := impl.IslandsOf(h, list)
	keepIntegers(islands, ok)
	keepIntegers(impl.ChainFrom(h, list, 0, 1))
	keepIntegers(impl.BinsOfPushes(list, 1, 4))
	cover, ok := impl.CoverView(h, 0, 1, 2, 2, 2)
	keepNumbers(cover.Values, ok)
	masses, ok := impl.MassView(h, 0, 1, 2, 2)
	keepNumbers(masses.Values, ok)
	voids, _, ok := impl.VoidsOf(v, 2)
	keepIntegers(voids, ok)
	keepNumbers(impl.TopsOf(h, 0, 1, 4))
	return texts
}

func TestResultsOfFieldsAreNew(t *testing.T) {
	grains, allGrains := withRoom(heap(t, "RowOfGrains")(impl.RowOfGrains(4, 1, -0.25, 1)).Grains, disc(9, 9))
	list, allLinks := withRoom(links(0, 1, 2, 1, 2, 3), link(8, 9, 9))
	values, allValues := withRoom([]float32{1, 2, 1, 3}, 99)
	h, v := impl.Heap{Grains: grains}, view(2, 2, values...)
	before := told(impl.Heap{Grains: allGrains}, allLinks, allValues)
	first := newLists(t, h, list, v)
	check(t, "the arguments", told(impl.Heap{Grains: allGrains}, allLinks, allValues), before)
	check(t, "lists, again", newLists(t, h, list, v), first)
	one, _ := impl.CoverView(h, 0, 1, 4, 2, 2)
	other, _ := impl.CoverView(h, 0, 1, 4, 2, 2)
	want := told(other)
	spoil(one.Values, 99)
	check(t, "a view, again", told(other), want)
}

func TestForcesOfLinksAreNothingTogether(t *testing.T) {
	source := rand.New(rand.NewSource(52))
	for range 500 {
		h := someHeap(source, 2+source.Intn(23), 3)
		list := someLinks(source, h, source.Intn(impl.MaxLinks+1))
		forces, ok := impl.ForcesOfLinks(h, list, 0)
		check(t, "ForcesOfLinks succeeds", ok, true)
		sum, size := complex64(0), float32(1)
		for _, f := range forces {
			sum, size = sum+f, size+long32(f)
		}
		check(t, "forces are nothing together", isNearly(real(sum), 0, size) && isNearly(imag(sum), 0, size), true)
		back, _ := impl.BackLinks(list)
		again, ok := impl.ForcesOfLinks(h, back, 0)
		check(t, "links the other way push the same", []any{told(again), ok}, []any{told(forces), true})
		// Each grain is also pulled by its Mass.
		pulled, ok := impl.ForcesOfLinks(h, list, complex(0.5, -2))
		check(t, "ForcesOfLinks succeeds", ok, true)
		for i, g := range h.Grains {
			f := forces[i] + complex(0.5*g.Mass, -2*g.Mass)
			check(t, "a force with a pull", isNearly(real(f), real(pulled[i]), size+10) && isNearly(imag(f), imag(pulled[i]), size+10), true)
		}
	}
}

func TestLinksPushGrainsApart(t *testing.T) {
	source := rand.New(rand.NewSource(53))
	found := 0
	for range 300 {
		h := someHeap(source, 8, 1.5)
		list, ok := impl.LinksOf(h, 4)
		check(t, "LinksOf succeeds", ok && impl.AreLinks(h, list), true)
		for _, l := range list {
			gap, _ := impl.GapOf(h, l.A, l.B)
			way, _ := impl.WayOf(h, l.A, l.B)
			check(t, "a link overlaps", gap < 0 && l.A < l.B, true)
			check(t, "a link pushes B away from A", isNearly(real(l.Push), -4*gap*real(way), 10) && isNearly(imag(l.Push), -4*gap*imag(way), 10), true)
			found++
		}
		stress, _ := impl.StressOf(h, list, 2)
		check(t, "grains that push one another are pressed", stress[0] >= 0 && stress[3] >= 0, true)
		check(t, "their stress has no turning part", isNearly(stress[1], stress[2], 100), true)
	}
	check(t, "many links are found", found > 1000, true)
}

func TestAxesMakeTheirStress(t *testing.T) {
	source := rand.New(rand.NewSource(54))
	for n := range 2000 {
		s := []float32{someNumber(source, 3), someNumber(source, 3), someNumber(source, 3), someNumber(source, 3)}
		if n%5 == 0 {
			s[3] = s[0]
		}
		if n%7 == 0 {
			s[2] = -s[1]
		}
		greatest, least, turn, ok := impl.AxesOfStress(s)
		check(t, "AxesOfStress succeeds", ok && greatest >= least, true)
		check(t, "the turn is at most a quarter", -0.25 <= turn && turn <= 0.25, true)
		m, r := (greatest+least)/2, (greatest-least)/2
		c, d := float32(math.Cos(4*math.Pi*float64(turn))), float32(math.Sin(4*math.Pi*float64(turn)))
		check(t, "the axes make a and e", isNearly(m+r*c, s[0], 20) && isNearly(m-r*c, s[3], 20), true)
		check(t, "the axes make b and c", isNearly(r*d, (s[1]+s[2])/2, 20), true)
	}
}

func TestAxesTurnWithTheHeap(t *testing.T) {
	source := rand.New(rand.NewSource(55))
	for range 200 {
		h := someHeap(source, 10, 2)
		list := someLinks(source, h, 20)
		phasor := impl.PhasorOf(0.1)
		turned, turnedLinks := impl.Heap{}, []impl.Link{}
		for _, g := range h.Grains {
			g.At = mulComplex32(g.At, phasor)
			turned.Grains = append(turned.Grains, g)
		}
		for _, l := range list {
			turnedLinks = append(turnedLinks, link(l.A, l.B, mulComplex32(l.Push, phasor)))
		}
		stress, _ := impl.StressOf(h, list, 4)
		turnedStress, _ := impl.StressOf(turned, turnedLinks, 4)
		greatest, least, turn, _ := impl.AxesOfStress(stress)
		again, leastAgain, turnAgain, ok := impl.AxesOfStress(turnedStress)
		check(t, "the pressures stay", ok && isNearly(greatest, again, 100) && isNearly(least, leastAgain, 100), true)
		if greatest-least > 0.5 {
			ahead := math.Mod(float64(turnAgain-turn)+1, 0.5)
			check(t, "the axis turns", math.Abs(ahead-0.1) < 1e-3, true)
		}
	}
}

func TestIslandsHaveAllTheirGrains(t *testing.T) {
	for _, b := range someBounds() {
		islands, count, ok := impl.IslandsOf(b.heap, b.links)
		check(t, "IslandsOf succeeds", []any{len(islands), ok}, []any{len(b.heap.Grains), true})
		for _, l := range b.links {
			check(t, "linked grains are in one island", islands[l.A] == islands[l.B], true)
		}
		next := int64(0)
		for _, island := range islands {
			check(t, "islands have numbers in order", 0 <= island && island <= next, true)
			next = max(next, island+1)
		}
		check(t, "all islands have grains", count, next)
		for start := range b.heap.Grains {
			chain, _ := impl.ChainFrom(b.heap, b.links, int64(start), 1)
			seen := map[int64]bool{}
			for _, i := range chain {
				check(t, "a chain stays in its island, and comes to no grain twice", islands[i] == islands[start] && !seen[i], true)
				seen[i] = true
			}
		}
	}
}

func TestViewsHaveAllMasses(t *testing.T) {
	source := rand.New(rand.NewSource(56))
	for range 100 {
		h := someHeap(source, 20, 1)
		masses, ok := impl.MassView(h, complex(-8, -8), 1, impl.MaxView, impl.MaxView)
		check(t, "MassView succeeds", ok && impl.ValidView(masses), true)
		mean, ok := impl.MeanOfView(masses)
		mass, _ := impl.MassOfHeap(h)
		check(t, "all masses are in the view", ok && isNearly(mean*256, mass, 1000), true)
		cover, ok := impl.CoverView(h, complex(-8, -8), 1, impl.MaxView, impl.MaxView, 4)
		check(t, "CoverView succeeds", ok && impl.ValidView(cover), true)
		for _, x := range cover.Values {
			check(t, "a share is from 0 to 1", 0 <= x && x <= 1, true)
		}
	}
	// One grain covers what its disc does, nearly.
	cover, _ := impl.CoverView(heapWith(disc(0, 5)), complex(-8, -8), 1, impl.MaxView, impl.MaxView, 8)
	mean, _ := impl.MeanOfView(cover)
	check(t, "the share of a disc", math.Abs(float64(mean)*256-25*math.Pi) < 0.5, true)
}
