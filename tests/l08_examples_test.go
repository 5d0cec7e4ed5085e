package tests

import (
	"testing"

	"loop.example/g01268/impl"
)

func TestExamplesOfTheDesk(t *testing.T) {
	d := impl.NewDesk()
	gives(t, "mass", d, "40400000")(impl.DeskCommand(d, "mass"))
	gives(t, "bonds", d, "none")(impl.DeskCommand(d, "bonds"))
	gives(t, "gap 0 1", d, "00000000")(impl.DeskCommand(d, "gap 0 1"))
	gives(t, "all three", d, "40400000\nnone\n00000000\n")(impl.RunDesk(d, "mass\nbonds\ngap 0 1\n"))
}
