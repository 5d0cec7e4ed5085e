package tests

import (
	"fmt"
	"math"
	"regexp"
	"strconv"
	"strings"

	"loop.example/g01268/impl"
)

// Texts are read here by patterns, and told with fmt. What lines do is asked of
// the functions of the chapters before, which have references of their own.

const eightDigits = `([0-9a-f]{8})`

var (
	decimalPattern = regexp.MustCompile(`^(0|-?[1-9][0-9]{0,15})$`)
	numberPattern  = regexp.MustCompile(`^` + eightDigits + `$`)
	pointPattern   = regexp.MustCompile(`^` + eightDigits + eightDigits + `$`)
	grainPattern   = regexp.MustCompile(`^` + eightDigits + eightDigits + `,` + eightDigits + eightDigits + `:` +
		eightDigits + `,` + eightDigits + `,` + eightDigits + `,` + eightDigits + `:(held|free)$`)
	bondPattern = regexp.MustCompile(`^(0|[1-9][0-9]?),(0|[1-9][0-9]?):` + eightDigits + `,` + eightDigits + `$`)
	rowPattern  = regexp.MustCompile(`^(0|[1-9][0-9]*) ([^\n]*)\n`)
)

// digits returns the 8 digits of a number.
func digits(x float32) string {
	if x != x {
		return "7fc00000"
	}
	return fmt.Sprintf("%08x", math.Float32bits(x))
}

// joined returns texts with a separator between them, or none.
func joined(texts []string, separator string) string {
	if len(texts) == 0 {
		return "none"
	}
	return strings.Join(texts, separator)
}

// numbersAs returns the text of numbers.
func numbersAs(list ...float32) string {
	texts := []string{}
	for _, x := range list {
		texts = append(texts, digits(x))
	}
	return joined(texts, ",")
}

// pointsAs returns the text of complex numbers.
func pointsAs(list ...complex64) string {
	texts := []string{}
	for _, x := range list {
		texts = append(texts, digits(real(x))+digits(imag(x)))
	}
	return joined(texts, ",")
}

func grainAs(g impl.Grain) string {
	state := map[bool]string{true: "held", false: "free"}[g.Held]
	return fmt.Sprintf("%s:%s:%s", pointsAs(g.At, g.Speed), numbersAs(g.Radius, g.Mass, g.Turn, g.Spin), state)
}

func heapAs(h impl.Heap) string {
	texts := []string{}
	for _, g := range h.Grains {
		texts = append(texts, grainAs(g))
	}
	return joined(texts, "/")
}

func rulesAs(r impl.Rules) string {
	return numbersAs(r.Stiff, r.Loss, r.Rub, r.Grip)
}

func wallsAs(list []impl.Wall) string {
	points := []complex64{}
	for _, w := range list {
		points = append(points, w.From, w.To, w.Speed)
	}
	return pointsAs(points...)
}

func bondsAs(list []impl.Bond) string {
	texts := []string{}
	for _, b := range list {
		texts = append(texts, fmt.Sprintf("%d,%d:%s", b.A, b.B, numbersAs(b.Long, b.Strength)))
	}
	return joined(texts, "/")
}

// fromDigits returns the number with these 8 digits.
func fromDigits(text string) float32 {
	n, _ := strconv.ParseUint(text, 16, 32)
	return number(uint32(n))
}

// split returns the parts of a text, or none.
func split(t, separator string) []string {
	if t == "none" {
		return nil
	}
	return strings.Split(t, separator)
}

// referenceNumbers returns the numbers of a text.
func referenceNumbers(t string) ([]float32, bool) {
	list := []float32{}
	for _, part := range split(t, ",") {
		x := fromDigits(part)
		if !numberPattern.MatchString(part) || digits(x) != part {
			return nil, false
		}
		list = append(list, x)
	}
	return list, true
}

// referencePoints returns the complex numbers of a text.
func referencePoints(t string) ([]complex64, bool) {
	list := []complex64{}
	for _, part := range split(t, ",") {
		m := pointPattern.FindStringSubmatch(part)
		if m == nil || pointsAs(complex(fromDigits(m[1]), fromDigits(m[2]))) != part {
			return nil, false
		}
		list = append(list, complex(fromDigits(m[1]), fromDigits(m[2])))
	}
	return list, true
}

func referenceReadGrain(t string) (impl.Grain, bool) {
	m := grainPattern.FindStringSubmatch(t)
	if m == nil {
		return impl.Grain{}, false
	}
	x := [9]float32{}
	for n := range 8 {
		x[n+1] = fromDigits(m[n+1])
	}
	g := impl.Grain{At: complex(x[1], x[2]), Speed: complex(x[3], x[4]), Radius: x[5], Mass: x[6], Turn: x[7], Spin: x[8], Held: m[9] == "held"}
	if !isGrain(g) {
		return impl.Grain{}, false
	}
	return g, true
}

func referenceReadHeap(t string) (impl.Heap, bool) {
	h := impl.Heap{}
	for _, part := range split(t, "/") {
		g, ok := referenceReadGrain(part)
		if !ok || len(h.Grains) == impl.MaxGrains {
			return impl.Heap{}, false
		}
		h.Grains = append(h.Grains, g)
	}
	return h, true
}

func referenceReadWalls(t string) ([]impl.Wall, bool) {
	points, ok := referencePoints(t)
	if !ok || len(points)%3 != 0 || len(points) > 3*impl.MaxWalls {
		return nil, false
	}
	list := []impl.Wall{}
	for n := 0; n < len(points); n += 3 {
		list = append(list, impl.Wall{From: points[n], To: points[n+1], Speed: points[n+2]})
	}
	return validWalls(list)
}

func referenceReadBonds(h impl.Heap, t string) ([]impl.Bond, bool) {
	list := []impl.Bond{}
	for _, part := range split(t, "/") {
		m := bondPattern.FindStringSubmatch(part)
		if m == nil {
			return nil, false
		}
		a, _ := strconv.ParseInt(m[1], 10, 64)
		b, _ := strconv.ParseInt(m[2], 10, 64)
		list = append(list, bond(a, b, fromDigits(m[3]), fromDigits(m[4])))
	}
	if !impl.AreBonds(h, list) {
		return nil, false
	}
	return list, true
}

// clerk reads the words of a line, and remembers whether one was wrong.
type clerk struct {
	words []string
	wrong bool
}

func (c *clerk) integer(n int) int64 {
	i, _ := strconv.ParseInt(c.words[n], 10, 64)
	c.wrong = c.wrong || !decimalPattern.MatchString(c.words[n]) || i > impl.MaxValue || i < -impl.MaxValue
	return i
}

func (c *clerk) number(n int) float32 {
	list, ok := referenceNumbers(c.words[n])
	if !ok || len(list) != 1 {
		c.wrong = true
		return 0
	}
	return list[0]
}

func (c *clerk) point(n int) complex64 {
	list, ok := referencePoints(c.words[n])
	if !ok || len(list) != 1 {
		c.wrong = true
		return 0
	}
	return list[0]
}

// did remembers whether a function has failed, and returns its result.
func did[T any](c *clerk) func(result T, ok bool) T {
	return func(result T, ok bool) T {
		c.wrong = c.wrong || !ok
		return result
	}
}

// rules reads the rules of a word.
func (c *clerk) rules(n int) impl.Rules {
	list, ok := referenceNumbers(c.words[n])
	if !ok || len(list) != 4 || !isFinite(list...) || min(list[0], list[1], list[2], list[3]) < 0 {
		c.wrong = true
		return impl.Rules{}
	}
	return impl.Rules{Stiff: list[0], Loss: list[1], Rub: list[2], Grip: list[3]}
}

// referenceSets carries out a line that sets a part of a desk.
func referenceSets(c *clerk, d impl.Desk) (next impl.Desk, isKnown bool) {
	next = d
	changed := did[impl.Heap](c)
	switch fmt.Sprint(c.words[0], len(c.words)) {
	case "heap2":
		next.Heap, next.Bonds = changed(referenceReadHeap(c.words[1])), nil
	case "rules2":
		next.Rules = c.rules(1)
	case "walls2":
		next.Walls = did[[]impl.Wall](c)(referenceReadWalls(c.words[1]))
	case "bonds2":
		next.Bonds = did[[]impl.Bond](c)(referenceReadBonds(d.Heap, c.words[1]))
	case "grain2":
		next.Heap = changed(impl.AddGrain(d.Heap, did[impl.Grain](c)(referenceReadGrain(c.words[1]))))
	case "drop2":
		next.Heap, next.Bonds = changed(impl.DropGrain(d.Heap, c.integer(1))), nil
	case "hold2":
		next.Heap = changed(impl.HoldGrain(d.Heap, c.integer(1), true))
	case "free2":
		next.Heap = changed(impl.HoldGrain(d.Heap, c.integer(1), false))
	case "push2":
		next.Heap = changed(impl.PushHeap(d.Heap, c.point(1)))
	case "move2":
		next.Heap = changed(impl.MoveHeap(d.Heap, c.point(1)))
	case "walled6":
		next.Heap = changed(impl.FallOnWalls(d.Heap, d.Walls, c.point(1), c.number(2), c.number(3), c.number(4), c.integer(5)))
	case "bind3":
		next.Bonds = did[[]impl.Bond](c)(impl.BondsOf(d.Heap, c.number(1), c.number(2)))
	default:
		return d, false
	}
	return next, true
}

// referenceTells carries out a line that only outputs something.
func referenceTells(c *clerk, d impl.Desk) (output string, isKnown bool) {
	numberOf, pointOf := did[float32](c), did[complex64](c)
	switch fmt.Sprint(c.words[0], len(c.words)) {
	case "heap1":
		output = heapAs(d.Heap)
	case "rules1":
		output = rulesAs(d.Rules)
	case "walls1":
		output = wallsAs(d.Walls)
	case "bonds1":
		output = bondsAs(d.Bonds)
	case "gap3":
		output = digits(numberOf(impl.GapOf(d.Heap, c.integer(1), c.integer(2))))
	case "slide3":
		away, across, ok := impl.SlideOf(d.Heap, c.integer(1), c.integer(2))
		output = numbersAs(numberOf(away, ok), across)
	case "mass1":
		output = digits(numberOf(impl.MassOfHeap(d.Heap)))
	case "momentum1":
		output = pointsAs(pointOf(impl.MomentumOf(d.Heap)))
	case "centre1":
		output = pointsAs(pointOf(impl.CentreOfHeap(d.Heap)))
	case "energy2":
		output = digits(numberOf(impl.EnergyOfHeap(d.Heap, c.point(1))))
	case "links2":
		output = fmt.Sprint(len(did[[]impl.Link](c)(impl.LinksOf(d.Heap, c.number(1)))))
	case "stress3":
		list := did[[]impl.Link](c)(impl.LinksOf(d.Heap, c.number(1)))
		output = numbersAs(did[[]float32](c)(impl.StressOf(d.Heap, list, c.number(2)))...)
	case "pieces1":
		_, count, ok := impl.PiecesOf(d.Heap, d.Bonds)
		output = fmt.Sprint(did[int64](c)(count, ok))
	default:
		return "", false
	}
	return output, true
}

// referenceRuns carries out a line that makes steps and tells of them.
func referenceRuns(c *clerk, d impl.Desk) (next impl.Desk, output string, isKnown bool) {
	next = d
	ok := false
	switch fmt.Sprint(c.words[0], len(c.words)) {
	case "fall4":
		var energies []float32
		next.Heap, _, energies, ok = impl.RunHeap(d.Heap, d.Rules, nil, c.point(1), c.number(2), c.integer(3))
		output = numbersAs(energies...)
	case "tear6":
		var counts []int64
		next.Heap, next.Bonds, counts, ok = impl.RunBonds(d.Heap, d.Bonds, c.number(1), c.number(2), c.point(3), c.number(4), c.integer(5))
		output = joined(strings.Fields(strings.Trim(fmt.Sprint(counts), "[]")), ",")
	default:
		return d, "", false
	}
	c.wrong = c.wrong || !ok
	return next, output, true
}

// referenceLine carries out a line at a valid desk.
func referenceLine(d impl.Desk, line string) (impl.Desk, string) {
	c := &clerk{words: strings.Split(line, " ")}
	next, output := d, "ok"
	sets, isKnown := referenceSets(c, d)
	if isKnown {
		next = sets
	} else if output, isKnown = referenceTells(c, d); !isKnown {
		next, output, isKnown = referenceRuns(c, d)
	}
	if !isKnown {
		return d, "what"
	}
	if c.wrong {
		return d, "no"
	}
	return next, output
}

// referenceCheck returns a check number.
func referenceCheck(start int, line string) int {
	for _, b := range []byte(line) {
		start = (773*start + int(b) + 89) % 65003
	}
	return start
}

// referenceJournal returns the journal of lines, of any length.
func referenceJournal(lines ...string) string {
	text, check := "", 0
	for _, line := range lines {
		check = referenceCheck(check, line)
		text += fmt.Sprintf("%d %s\n", check, line)
	}
	return text
}

// referenceRecovered returns the lines at the beginning of a text, and how long
// their journal is.
func referenceRecovered(t string) (lines []string, length int64) {
	check := 0
	for {
		m := rowPattern.FindStringSubmatch(t[length:])
		if m == nil || m[1] != fmt.Sprint(referenceCheck(check, m[2])) {
			return lines, length
		}
		check = referenceCheck(check, m[2])
		lines, length = append(lines, m[2]), length+int64(len(m[0]))
	}
}
