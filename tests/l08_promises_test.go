package tests

import (
	"math/rand"
	"strings"
	"testing"

	"loop.example/g01268/impl"
)

// deskTold tells what all functions of the desk return for these arguments.
func deskTold(d impl.Desk, text string, lines []string) string {
	all := told(impl.ValidDesk(d), impl.SameDesk(d, d), impl.SameDesk(d, impl.NewDesk()))
	tell := func(results ...any) {
		all += told(results...) + "\n"
	}
	for _, g := range d.Heap.Grains[:min(len(d.Heap.Grains), 2)] {
		tell(impl.GrainText(g))
	}
	tell(impl.HeapText(d.Heap))
	tell(impl.WallsText(d.Walls))
	tell(impl.BondsText(d.Heap, d.Bonds))
	tell(impl.ReadGrain(text))
	tell(impl.ReadHeap(text))
	tell(impl.ReadWalls(text))
	tell(impl.ReadBonds(d.Heap, text))
	tell(impl.DeskCommand(d, text))
	tell(impl.RunDesk(d, text))
	tell(impl.RunDesk(d, text+"\n"))
	tell(impl.CountOutputs(text))
	tell(impl.RecoverJournal(text))
	tell(impl.RunJournal(d, text))
	tell(impl.JournalOf(lines))
	for _, line := range lines {
		tell(impl.DeskCommand(d, line))
	}
	return all
}

// oddTexts returns texts of all kinds, and long ones.
func oddTexts() []string {
	list := []string{
		"", "\n", " ", ":", "/", ",", "none", "\x00", "\xff\xfe", "0 \n", "mass\n", usualGrain, heldGrain + "/" + usualGrain, usualWall,
		"0,1:3f800000,40000000", "186 a\n13959 b\n", referenceJournal("mass", "drop 0", "heap none"), "no\nwhat\nok\n",
	}
	for _, s := range []string{"/", ":", ",", " ", "\n", "none/", "0 \n", usualGrain + "/", usualWall + ",", "0,1:3f800000,40000000/", "x"} {
		list = append(list, strings.Repeat(s, 20000))
	}
	return append(list, badWords()...)
}

func TestDesksReturnForAllArguments(t *testing.T) {
	source := rand.New(rand.NewSource(85))
	texts := oddTexts()
	for _, d := range append(wrongDesks(), impl.Desk{}, impl.NewDesk(), deskWith(fullHeap(24), pairBonds(24, 73)[1:]...)) {
		text := texts[source.Intn(len(texts))]
		lines := []string{someLine(source, impl.NewDesk()), texts[source.Intn(len(texts))]}
		check(t, "the desk, again", deskTold(d, text, lines), deskTold(d, text, lines))
	}
	for _, d := range []impl.Desk{impl.NewDesk(), tiedDesk()} {
		for _, text := range texts {
			for _, form := range forms() {
				word, _, _ := strings.Cut(form, " ")
				lines := []string{word + " " + text, word + text, text + " " + word}
				check(t, "the desk, again", deskTold(d, text, lines[:1]), deskTold(d, text, lines[:1]))
				if len(text) < 1000 {
					check(t, "the desk, again", deskTold(d, word+" "+text, lines), deskTold(d, word+" "+text, lines))
				}
			}
		}
	}
}

// roomyDesk returns a desk with room behind all of its lists, and a function
// that tells all of their memory.
func roomyDesk(d impl.Desk) (impl.Desk, func() string) {
	grains, allGrains := withRoom(d.Heap.Grains, disc(99, 9))
	walls, allWalls := withRoom(d.Walls, wall(8, 9))
	list, allBonds := withRoom(d.Bonds, bond(22, 23, 9, 9))
	roomy := impl.Desk{Heap: impl.Heap{Grains: grains}, Rules: d.Rules, Walls: walls, Bonds: list}
	return roomy, func() string { return told(impl.Heap{Grains: allGrains}, allWalls, allBonds) }
}

func TestDesksAreNotModified(t *testing.T) {
	source := rand.New(rand.NewSource(86))
	for range 300 {
		d, all := roomyDesk(someDesk(source))
		before := all()
		lines, allLines := withRoom([]string{}, "behind")
		for range 5 {
			lines = append(lines, someLine(source, d))
		}
		linesBefore := told(allLines)
		text := strings.Join(lines, "\n") + "\n"
		check(t, "the desk, again", deskTold(d, text, lines), deskTold(d, text, lines))
		check(t, "the desk and what is behind", all(), before)
		check(t, "the lines and what is behind", told(allLines), linesBefore)
		check(t, "nil is an empty list", deskTold(impl.Desk{}, text, lines), deskTold(impl.Desk{Heap: heapWith(), Walls: []impl.Wall{}, Bonds: []impl.Bond{}}, text, lines))
	}
}

// spoilDesk changes all memory of a desk.
func spoilDesk(d impl.Desk) {
	spoil(d.Heap.Grains, impl.Grain{})
	spoil(d.Walls, impl.Wall{})
	spoil(d.Bonds, impl.Bond{A: 7})
}

// madeDesks returns the desks behind all kinds of lines, scripts and journals.
func madeDesks(t *testing.T, d impl.Desk) []impl.Desk {
	t.Helper()
	source := rand.New(rand.NewSource(87))
	list := []impl.Desk{}
	lines := []string{"", "nothing", "drop 99", "heap", "mass", "hold 0", "free 0", "walls", "bonds", "move 0000000000000000"}
	for range 60 {
		lines = append(lines, someLine(source, d))
	}
	for _, line := range lines {
		next, _ := at(t, d, line)
		list = append(list, next)
	}
	for _, script := range []string{"", "\n", "mass\n", "drop 99\nmass\n"} {
		next, _, ok := impl.RunDesk(d, script)
		check(t, "RunDesk succeeds", ok, true)
		again, _, ok := impl.RunJournal(d, referenceJournal(strings.Split(script, "\n")...))
		check(t, "RunJournal succeeds", ok, true)
		list = append(list, next, again)
	}
	for _, text := range []string{"", "mass\n"} {
		next, count, ok := impl.RunJournal(d, text)
		check(t, "RunJournal succeeds", []any{count, ok}, "[0 true]")
		list = append(list, next)
	}
	return list
}

func TestDesksThatAreMadeAreNew(t *testing.T) {
	d, all := roomyDesk(tiedDesk())
	before := all()
	one, other := madeDesks(t, d), madeDesks(t, d)
	for n, made := range one {
		want := told(other[n])
		check(t, "a desk that is made", told(made), want)
		spoilDesk(made)
		check(t, "the same desk, made again", told(other[n]), want)
		check(t, "the desk that it is made of", all(), before)
	}
	// The lists of one desk share nothing either.
	for _, made := range other {
		heap, list := told(made.Heap), told(made.Bonds)
		spoil(made.Walls, impl.Wall{})
		check(t, "the heap and the bonds", told(made.Heap)+told(made.Bonds), heap+list)
		spoil(made.Bonds, impl.Bond{A: 7})
		check(t, "the heap", told(made.Heap), heap)
	}
	list, _, _ := impl.RecoverJournal("186 a\n13959 b\n")
	again, _, _ := impl.RecoverJournal("186 a\n13959 b\n")
	spoil(list, "x")
	check(t, "lines that are recovered again", again, "[a b]")
	h, _ := impl.ReadHeap(usualGrain + "/" + heldGrain)
	same, _ := impl.ReadHeap(usualGrain + "/" + heldGrain)
	spoil(h.Grains, impl.Grain{})
	check(t, "a heap that is read again", heapAs(same), usualGrain+"/"+heldGrain)
}

func TestRefusedLinesChangeNothing(t *testing.T) {
	source := rand.New(rand.NewSource(88))
	refused := 0
	for range 3000 {
		d := someDesk(source)
		line := someLine(source, d)
		words := strings.Split(line, " ")
		bad := badWords()
		words[source.Intn(len(words))] = bad[source.Intn(len(bad))]
		next, output := at(t, d, strings.Join(words, " "))
		if output == "no" || output == "what" {
			check(t, "the desk behind a line that is refused", told(next), told(d))
			refused++
		}
	}
	check(t, "many lines are refused", refused > 2000, true)
}

func TestOutputsAreWhatFunctionsTell(t *testing.T) {
	source := rand.New(rand.NewSource(89))
	for range 300 {
		d := someDesk(source)
		h := d.Heap
		tells := func(line, want string, ok bool) {
			t.Helper()
			if !ok {
				want = "no"
			}
			outputs(t, d, line, want)
		}
		mass, ok := impl.MassOfHeap(h)
		tells("mass", digits(mass), ok)
		momentum, ok := impl.MomentumOf(h)
		tells("momentum", pointsAs(momentum), ok)
		centre, ok := impl.CentreOfHeap(h)
		tells("centre", pointsAs(centre), ok)
		energy, ok := impl.EnergyOfHeap(h, -2i)
		tells("energy "+pointsAs(-2i), digits(energy), ok)
		gap, ok := impl.GapOf(h, 2, 0)
		tells("gap 2 0", digits(gap), ok)
		away, across, ok := impl.SlideOf(h, 0, 2)
		tells("slide 0 2", numbersAs(away, across), ok)
		list, ok := impl.LinksOf(h, 3)
		tells("links "+numbersAs(3), impl.Decimal(int64(len(list))), ok)
		stress, stressOk := impl.StressOf(h, list, 0.5)
		tells("stress "+numbersAs(3)+" "+numbersAs(0.5), numbersAs(stress...), ok && stressOk)
		_, pieces, ok := impl.PiecesOf(h, d.Bonds)
		tells("pieces", impl.Decimal(pieces), ok)
	}
}
