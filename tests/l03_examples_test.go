package tests

import (
	"testing"

	"loop.example/g01268/impl"
)

func TestExamplesOfPushes(t *testing.T) {
	h := heapWith(disc(0, 1), disc(1.5, 1))
	gives(t, "PushOf", float32(1))(impl.PushOf(h, impl.Rules{Stiff: 2}, 0, 1))
	gives(t, "RubOf", float32(-0.5))(impl.RubOf(h, impl.Rules{Stiff: 2, Rub: 0.5, Grip: 1}, touch(0, 1, 1)))
}
