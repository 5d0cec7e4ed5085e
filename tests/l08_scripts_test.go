package tests

import (
	"fmt"
	"math/rand"
	"strings"
	"testing"

	"loop.example/g01268/impl"
)

func TestRunDesk(t *testing.T) {
	d := impl.NewDesk()
	for _, c := range []struct{ script, want string }{
		{"", ""}, {"\n", "what\n"}, {"\n\n\n", "what\nwhat\nwhat\n"}, {"mass\n", "40400000\n"}, {"mass\n\nmass\n", "40400000\nwhat\n40400000\n"},
		{"mass \nbonds\n drop 0\ndrop 3\n", "what\nnone\nwhat\nno\n"}, {"gap 0 1\r\n", "no\n"}, {"mass\r\n", "what\n"}, {"bonds\x00\n\xff\n", "what\nwhat\n"},
	} {
		gives(t, "RunDesk of "+c.script, d, c.want)(impl.RunDesk(d, c.script))
	}
	// Each line is carried out at the desk behind the one before.
	last := d
	last.Heap = heapWith(held(disc(3, 0.5)))
	gives(t, "RunDesk of lines that change the desk", last, "ok\n40000000\nno\nok\nok\n3f800000\nok\n4040000000000000\n")(
		impl.RunDesk(d, "drop 0\nmass\ndrop 2\ndrop 1\nhold 0\nmass\nmove 4000000000000000\ncentre\n"))
	for _, script := range []string{"mass", "mass\nbonds", "\nmass", "mass\n ", " ", "\n\x00", "mass\r"} {
		fails(t, "RunDesk of a script that does not end: "+script)(impl.RunDesk(d, script))
	}
}

func TestMaxScript(t *testing.T) {
	d := impl.NewDesk()
	for _, line := range []string{"\n", "mass\n", "drop 9\n", strings.Repeat("x", 15999) + "\n"} {
		script := strings.Repeat(line, impl.MaxScript/len(line))
		script += strings.Repeat("\n", impl.MaxScript-len(script))
		want := ""
		for _, one := range strings.SplitAfter(script, "\n") {
			if one != "" {
				_, output := referenceLine(d, strings.TrimSuffix(one, "\n"))
				want += output + "\n"
			}
		}
		check(t, "the length of a script", len(script), 16000)
		gives(t, "RunDesk of MaxScript bytes", d, want)(impl.RunDesk(d, script))
		fails(t, "RunDesk of one byte more")(impl.RunDesk(d, script+"\n"))
		fails(t, "RunDesk of one byte more at first")(impl.RunDesk(d, "\n"+script))
		fails(t, "RunDesk without the last newline")(impl.RunDesk(d, script[:15999]+"x"))
	}
	// What a script outputs may be longer.
	_, output, ok := impl.RunDesk(d, strings.Repeat("walls\n", 2666)+"heap")
	check(t, "a script without an end", []any{output, ok}, "[ false]")
	_, output, ok = impl.RunDesk(d, strings.Repeat("walls\n", 2666))
	check(t, "a long output", []any{len(output), ok}, []any{2666 * (len(wallsAs(d.Walls)) + 1), true})
	fails(t, "RunDesk of a long script")(impl.RunDesk(d, strings.Repeat("mass\n", 100000)))
}

func TestCountOutputs(t *testing.T) {
	for _, c := range []struct {
		text            string
		refused, others int64
	}{
		{"", 0, 0}, {"\n", 0, 1}, {"\n\n", 0, 2}, {"no\n", 1, 0}, {"what\n", 1, 0}, {"ok\n", 0, 1}, {"no\nwhat\nok\nno\n", 3, 1},
		{"no \n no\nnone\nnope\nNo\nwhat \nwhatever\nwha\nn\nno\r\nnowhat\n\xff\n", 0, 12}, {"no\n\nwhat\n\n", 2, 2}, {"40400000\nnone\n00000000\n", 0, 3},
		{strings.Repeat("\n", 16000), 0, 16000}, {strings.Repeat("what\n", 3200), 3200, 0}, {strings.Repeat("no\n", 5333) + "\n", 5333, 1},
		{strings.Repeat("n", 15999) + "\n", 0, 1},
	} {
		gives(t, "CountOutputs", c.refused, c.others)(impl.CountOutputs(c.text))
		fails(t, "CountOutputs without a newline at the end")(impl.CountOutputs(c.text + "no"))
		fails(t, "CountOutputs of a text that does not end")(impl.CountOutputs(c.text + "\x00"))
		if len(c.text) == impl.MaxScript {
			fails(t, "CountOutputs of one byte more")(impl.CountOutputs(c.text + "\n"))
			fails(t, "CountOutputs of one byte more at first")(impl.CountOutputs("\n" + c.text))
		}
	}
	for _, text := range []string{"no", "what", "no\nwhat", " ", "\nok", strings.Repeat("n", 16000), strings.Repeat("no\n", 100000)} {
		fails(t, "CountOutputs of another text")(impl.CountOutputs(text))
	}
}

func TestScriptsAreTheirLines(t *testing.T) {
	source := rand.New(rand.NewSource(83))
	refused, done := 0, 0
	for range 400 {
		d := someDesk(source)
		last, script, wants, bad := d, "", "", 0
		for range source.Intn(12) {
			line := someLine(source, last)
			if strings.Contains(line, "\n") || len(script)+len(line) >= impl.MaxScript {
				break
			}
			var output string
			last, output = referenceLine(last, line)
			script, wants = script+line+"\n", wants+output+"\n"
			if output == "no" || output == "what" {
				bad++
			}
		}
		gives(t, "RunDesk", last, wants)(impl.RunDesk(d, script))
		good := strings.Count(wants, "\n") - bad
		refused, done = refused+bad, done+good
		expects(t, "CountOutputs", len(wants) <= impl.MaxScript, int64(bad), int64(good))(impl.CountOutputs(wants))
		if journal := referenceJournal(strings.Split(script, "\n")[:bad+good]...); len(journal) <= impl.MaxScript {
			gives(t, "RunJournal", last, int64(bad+good))(impl.RunJournal(d, journal))
		}
	}
	check(t, "many lines are refused, and many are not: "+fmt.Sprint(refused, done), refused > 300 && done > 500, true)
}
