package tests

import (
	"testing"

	"loop.example/g01268/impl"
)

// TestExamplesOfChapter1 asserts the examples at the end of the chapter.
func TestExamplesOfChapter1(t *testing.T) {
	checkComplex(t, "the product", impl.MulComplex(complex(1, 2), complex(3, -1)), complex(5, 5))
	checkComplex(t, "the quotient", impl.QuotientOf(complex(0, 4), 2), complex(0, 2))
	checkComplex(t, "the phasor", impl.PhasorOf(0.25), complex(0, 1))
	checkNumber(t, "its angle", impl.AngleOf(impl.PhasorOf(0.25)), 0.25)
	text, ok := impl.ComplexText([]complex64{1})
	check(t, "ComplexText succeeds", ok, true)
	check(t, "the text of 1", text, "3f80000000000000")
	tenths, ok := impl.TenthsOf(1)
	check(t, "TenthsOf succeeds", ok, true)
	check(t, "the tenths of 1", tenths, 0)
}
