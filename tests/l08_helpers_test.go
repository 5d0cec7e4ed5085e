package tests

import (
	"math/rand"
	"strings"
	"testing"

	"loop.example/g01268/impl"
)

// deskWith returns a desk with usual rules, a floor, a heap and its bonds.
func deskWith(h impl.Heap, list ...impl.Bond) impl.Desk {
	return impl.Desk{Heap: h, Rules: usualRules(), Walls: []impl.Wall{wall(complex(-8, 0), complex(8, 0))}, Bonds: list}
}

// wrongDesks returns desks that are not valid in one of their parts.
func wrongDesks() []impl.Desk {
	list := []impl.Desk{}
	for _, h := range invalidHeaps() {
		list = append(list, deskWith(h))
	}
	list = append(list, deskWith(fullHeap(25), bonds(0, 1)...))
	for _, r := range invalidRules() {
		d := deskWith(fullHeap(3))
		d.Rules = r
		list = append(list, d)
	}
	for _, walls := range wrongWalls() {
		d := deskWith(fullHeap(3))
		d.Walls = walls
		list = append(list, d)
	}
	for _, ties := range wrongBondLists(3) {
		list = append(list, deskWith(fullHeap(3), ties...))
	}
	return append(list, deskWith(impl.Heap{}, bonds(0, 1)...), deskWith(fullHeap(1), bonds(0, 1)...))
}

// at carries out a line at a valid desk, and checks what every line keeps to.
func at(t *testing.T, d impl.Desk, line string) (impl.Desk, string) {
	t.Helper()
	before := told(d)
	next, output, ok := impl.DeskCommand(d, line)
	check(t, "DeskCommand succeeds: "+line, ok, true)
	check(t, "the desk behind a line is valid: "+line, impl.ValidDesk(next), true)
	check(t, "the desk of a line: "+line, told(d), before)
	if output == "no" || output == "what" {
		check(t, "the desk is the same as before: "+line, impl.SameDesk(next, d), true)
	}
	return next, output
}

// outputs checks the output of a line that changes nothing.
func outputs(t *testing.T, d impl.Desk, line, want string) {
	t.Helper()
	next, output := at(t, d, line)
	check(t, "the output of "+line, output, want)
	check(t, "the desk behind "+line, told(next), told(d))
}

// changes checks a line that changes the desk, and returns the desk behind it.
func changes(t *testing.T, d impl.Desk, line, want string, change func(d *impl.Desk)) impl.Desk {
	t.Helper()
	next, output := at(t, d, line)
	check(t, "the output of "+line, output, want)
	wanted := d
	change(&wanted)
	check(t, "the desk behind "+line, told(next), told(wanted))
	return next
}

// someDesk returns a valid desk with some grains, which may have bonds.
func someDesk(source *rand.Rand) impl.Desk {
	h := someHeap(source, source.Intn(impl.MaxGrains+1), []float64{0.5, 2, 4, 20, 1e18}[source.Intn(5)])
	d := impl.Desk{Heap: h, Rules: someRules(source), Walls: someWalls(source, source.Intn(impl.MaxWalls+1), 4)}
	if source.Intn(3) > 0 {
		d.Bonds = someBonds(source, h)
	}
	return d
}

// forms returns for each line of the table its first word, and a letter for
// each other one: T for texts, N for decimals, X for numbers, C for complex
// numbers.
func forms() []string {
	return []string{
		"heap T", "rules T", "walls T", "bonds T", "heap", "rules", "walls", "bonds", "grain T", "drop N", "hold N", "free N",
		"push C", "move C", "gap N N", "slide N N", "mass", "momentum", "centre", "energy C", "fall C X N", "walled C X X X N",
		"links X", "stress X X", "bind X X", "tear X X C X N", "pieces",
	}
}

// goodWords returns words that may stand for a letter, among others for this
// desk.
func goodWords(source *rand.Rand, letter string, d impl.Desk) []string {
	switch letter {
	case "T":
		h := someHeap(source, source.Intn(5), 2)
		return []string{
			heapAs(h), heapAs(d.Heap), grainAs(someGrain(source, 2)), rulesAs(someRules(source)), wallsAs(someWalls(source, source.Intn(4), 3)),
			bondsAs(someBonds(source, d.Heap)), bondsAs(bonds(0, 1, 1, 2)), "none",
		}
	case "N":
		return []string{"0", "0", "1", "1", "2", "3", "5", "23", "48"}
	case "X":
		return []string{numbersAs(0), numbersAs(0.125), numbersAs(0.5), numbersAs(2), numbersAs(float32(source.Float64()))}
	case "C":
		return []string{pointsAs(0), pointsAs(-1i), pointsAs(somePoint(source, 1))}
	}
	return []string{letter}
}

// badWords returns words that hardly ever may stand for a letter.
func badWords() []string {
	return []string{
		"", "x", "-1", "24", "49", "65", "01", "+1", "-0", "1000000000000000", "1000000000000001", "none", "None", "3f80000", "3F800000",
		numbersAs(-1), numbersAs(inf(1)), numbersAs(nan()), numbersAs(1, 2), numbersAs(1e38), pointsAs(1, 2), pointsAs(complex(0, inf(-1))),
		pointsAs(3e38), rulesAs(impl.Rules{Rub: -1}), grainAs(impl.Grain{}), wallsAs(repeated(wall(0, 1), 13)), "0,1:3f800000,3f800000/",
	}
}

// someLine returns a line that mostly has a form of the table.
func someLine(source *rand.Rand, d impl.Desk) string {
	words := strings.Split(forms()[source.Intn(len(forms()))], " ")
	for n, letter := range words[1:] {
		list := goodWords(source, letter, d)
		if source.Intn(15) == 0 {
			list = badWords()
		}
		words[n+1] = list[source.Intn(len(list))]
	}
	switch source.Intn(40) {
	case 0:
		words = words[:len(words)-1]
	case 1:
		words = append(words, "")
	case 2:
		words[0] = strings.ToUpper(words[0])
	}
	return strings.Join(words, " ")
}
