package tests

import (
	"fmt"
	"math/rand"
	"slices"
	"strings"
	"testing"

	"loop.example/g01268/impl"
)

func TestJournalOf(t *testing.T) {
	for _, c := range []struct {
		lines []string
		want  string
	}{
		{nil, ""}, {[]string{}, ""}, {[]string{""}, "0 \n"}, {[]string{"a"}, "186 a\n"}, {[]string{"a", "b"}, "186 a\n13959 b\n"},
		{[]string{"", "a", "", "b"}, "0 \n186 a\n186 \n13959 b\n"}, {[]string{"\x00", "\xff"}, "89 \x00\n4138 \xff\n"},
	} {
		gives(t, "JournalOf", c.want)(impl.JournalOf(c.lines))
		gives(t, "RecoverJournal", c.lines, int64(len(c.want)))(impl.RecoverJournal(c.want))
	}
	lines := []string{"mass", " ", "a b  c", "12 34", "\r", "é", "heap none", "mass", "mass"}
	gives(t, "JournalOf", referenceJournal(lines...))(impl.JournalOf(lines))
	for n := range lines {
		for _, line := range []string{"\n", "a\n", "\na", "a\nb", "\n\n"} {
			fails(t, "JournalOf lines with newlines")(impl.JournalOf(slices.Insert(slices.Clone(lines), n, line)))
		}
	}
}

func TestLongJournals(t *testing.T) {
	lengths := map[int]bool{}
	for size := 7970; size <= 8010; size++ {
		for _, lines := range [][]string{{strings.Repeat("x", 2*size)}, {strings.Repeat("y", size), strings.Repeat("z", size)}, slices.Concat(repeated("", 1000), []string{strings.Repeat(" ", 2*size-3000)})} {
			want := referenceJournal(lines...)
			lengths[len(want)] = true
			fits := len(want) <= impl.MaxScript
			expects(t, "JournalOf", fits, want)(impl.JournalOf(lines))
			expects(t, "RecoverJournal", fits, lines, int64(len(want)))(impl.RecoverJournal(want))
			_, count, ok := impl.RunJournal(impl.NewDesk(), want)
			check(t, "RunJournal", []any{count, ok}, map[bool][]any{true: {len(lines), true}, false: {0, false}}[fits])
		}
	}
	check(t, "journals of MaxScript bytes, and of one more", []bool{lengths[16000], lengths[16001]}, "[true true]")
	// A line without bytes has the check number of the line before, and three bytes in all.
	gives(t, "JournalOf many lines", strings.Repeat("0 \n", 5333))(impl.JournalOf(repeated("", 5333)))
	fails(t, "JournalOf too many lines")(impl.JournalOf(repeated("", 5334)))
	fails(t, "JournalOf too many lines")(impl.JournalOf(repeated("", 1000000)))
	fails(t, "JournalOf a long line")(impl.JournalOf([]string{strings.Repeat("x", 1000000)}))
	fails(t, "RecoverJournal of a long text")(impl.RecoverJournal(strings.Repeat("0 \n", 5334)))
	gives(t, "RecoverJournal of MaxScript bytes", repeated("", 5333), int64(15999))(impl.RecoverJournal(strings.Repeat("0 \n", 5333) + "0"))
	gives(t, "RecoverJournal of MaxScript bytes without lines", []string{}, int64(0))(impl.RecoverJournal(strings.Repeat("\n", 16000)))
	fails(t, "RecoverJournal of one byte more")(impl.RecoverJournal(strings.Repeat("\n", 16001)))
	fails(t, "RunJournal of one byte more")(impl.RunJournal(impl.NewDesk(), strings.Repeat("\n", 16001)))
}

func TestJournalsThatAreCut(t *testing.T) {
	lines := []string{"mass", "", "drop 0", "a  b ", "mass", "é\xff"}
	text := referenceJournal(lines...)
	for n := range len(text) + 1 {
		whole := strings.Count(text[:n], "\n")
		length := strings.LastIndex(text[:n], "\n") + 1
		gives(t, "RecoverJournal of a part", lines[:whole], int64(length))(impl.RecoverJournal(text[:n]))
		_, count, ok := impl.RunJournal(impl.NewDesk(), text[:n])
		check(t, "RunJournal of a part", []any{count, ok}, []any{whole, true})
		again, ok := impl.JournalOf(lines[:whole])
		check(t, "the journal of what is recovered", []any{again, ok}, []any{text[:length], true})
	}
}

func TestJournalsWithAnotherByte(t *testing.T) {
	lines := []string{"mass", "", "drop 0", "a  b "}
	text := referenceJournal(lines...)
	for n := range len(text) {
		for b := range 256 {
			if text[n] == byte(b) {
				continue
			}
			other := text[:n] + string([]byte{byte(b)}) + text[n+1:]
			want, length := referenceRecovered(other)
			whole := strings.Count(text[:n], "\n")
			check(t, "the lines before stay, and no other ones", told(want), told(lines[:whole]))
			gives(t, "RecoverJournal with another byte", want, length)(impl.RecoverJournal(other))
		}
		for _, other := range []string{text[:n] + text[n+1:], text[:n] + text[n:n+1] + text[n:], text[:n] + " " + text[n:], text[:n] + "0" + text[n:], text[:n] + "\n" + text[n:]} {
			want, length := referenceRecovered(other)
			gives(t, "RecoverJournal with a byte more or less", want, length)(impl.RecoverJournal(other))
		}
	}
}

func TestRecoverOtherTexts(t *testing.T) {
	for _, text := range []string{
		"", "\n", " ", " \n", "0", "0 ", "0\n", "0  \n", "00 \n", "+0 \n", "-0 \n", "1 \n", " 0 \n", "a\n", "186\n", "186a\n", "186 a", "0186 a\n",
		"+186 a\n", "-186 a\n", "186  a\n", "186\ta\n", " 186 a\n", "\n186 a\n", "187 a\n", "65189 a\n", "186 b\n", "186 a \n", "1e2 a\n", "0xba a\n", "none", "\xff\n",
	} {
		gives(t, "RecoverJournal of a text without lines", []string{}, int64(0))(impl.RecoverJournal(text))
		d := deskWith(fullHeap(3), bonds(0, 1)...)
		gives(t, "RunJournal of a text without lines", d, int64(0))(impl.RunJournal(d, text))
	}
	const whole = "186 a\n13959 b\n"
	for _, behind := range []string{"", "x", "\n", " ", "13959", "13959 ", "0 \n", "186 a\n", "13959 b\n", whole, "mass\n", "\x00", strings.Repeat("x", 15000)} {
		gives(t, "RecoverJournal with text behind", []string{"a", "b"}, int64(14))(impl.RecoverJournal(whole + behind))
	}
	gives(t, "RecoverJournal with an empty line behind", []string{"a", "b", ""}, int64(21))(impl.RecoverJournal(whole + "13959 \n\n"))
}

func TestRunJournal(t *testing.T) {
	d := impl.NewDesk()
	last := d
	last.Heap = heapWith(disc(1, 0.5))
	for _, c := range []struct {
		lines []string
		want  impl.Desk
	}{
		{nil, d}, {[]string{"mass", "bonds"}, d}, {[]string{"nothing", "", "drop 3"}, d}, {[]string{"drop 0", "drop 1"}, last}, {[]string{"drop 2", "mass", "drop 9", "drop 0", ""}, last},
	} {
		journal := referenceJournal(c.lines...)
		gives(t, "RunJournal", c.want, int64(len(c.lines)))(impl.RunJournal(d, journal))
		gives(t, "RunJournal with text behind", c.want, int64(len(c.lines)))(impl.RunJournal(d, journal+"drop 0\n"))
		if len(c.lines) > 0 {
			want, _, _ := impl.RunDesk(d, strings.Join(append(c.lines[:len(c.lines)-1:len(c.lines)-1], ""), "\n"))
			gives(t, "RunJournal of a journal that is cut", want, int64(len(c.lines)-1))(impl.RunJournal(d, journal[:len(journal)-1]))
		}
	}
}

func TestJournalsAreRecovered(t *testing.T) {
	source := rand.New(rand.NewSource(84))
	for range 1000 {
		lines := []string{}
		for range source.Intn(10) {
			line := make([]byte, source.Intn(12))
			for n := range line {
				line[n] = []byte{' ', '0', '7', 'a', 'z', 0, 0xff, 9, 11, byte(source.Intn(10))}[source.Intn(10)]
			}
			lines = append(lines, string(line))
		}
		text := referenceJournal(lines...)
		gives(t, "JournalOf", text)(impl.JournalOf(lines))
		gives(t, "RecoverJournal", lines, int64(len(text)))(impl.RecoverJournal(text))
		// A text of two journals, or of journals that are torn, is recovered as far as it goes.
		torn := text[:source.Intn(len(text)+1)] + text[source.Intn(len(text)+1):]
		want, length := referenceRecovered(torn)
		gives(t, "RecoverJournal of torn journals", want, length)(impl.RecoverJournal(torn))
		again, ok := impl.JournalOf(want)
		check(t, "what is recovered has its journal at the beginning", []any{again, ok}, fmt.Sprint([]any{torn[:length], true}))
	}
}
