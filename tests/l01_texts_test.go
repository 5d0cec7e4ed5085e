package tests

import (
	"math"
	"strconv"
	"strings"
	"testing"

	"loop.example/g01268/impl"
)

func TestNumbersText(t *testing.T) {
	for _, c := range []struct {
		list []float32
		want string
	}{
		{nil, "none"}, {[]float32{}, "none"}, {[]float32{1}, "3f800000"}, {[]float32{1, -2}, "3f800000,c0000000"},
		{[]float32{0, negativeZero(), number(1)}, "00000000,80000000,00000001"},
		{[]float32{inf(1), inf(-1), nan(), number(0xff800001)}, "7f800000,ff800000,7fc00000,7fc00000"},
	} {
		got, ok := impl.NumbersText(c.list)
		check(t, "NumbersText succeeds", ok, true)
		check(t, "NumbersText", got, c.want)
		list, ok := impl.ReadNumbers(c.want)
		check(t, "ReadNumbers succeeds", ok, true)
		check(t, "how many numbers", len(list), len(c.list))
		for i := range list {
			checkNumber(t, "ReadNumbers", list[i], c.list[i])
		}
	}
}

func TestComplexText(t *testing.T) {
	for _, c := range []struct {
		list []complex64
		want string
	}{
		{nil, "none"}, {[]complex64{}, "none"}, {[]complex64{1}, "3f80000000000000"},
		{[]complex64{1, complex(0, -2)}, "3f80000000000000,00000000c0000000"},
		{[]complex64{complex(negativeZero(), number(0x007fffff))}, "80000000007fffff"},
		{[]complex64{complex(inf(-1), number(0x7f800001))}, "ff8000007fc00000"},
	} {
		got, ok := impl.ComplexText(c.list)
		check(t, "ComplexText succeeds", ok, true)
		check(t, "ComplexText", got, c.want)
		list, ok := impl.ReadComplex(c.want)
		check(t, "ReadComplex succeeds", ok, true)
		check(t, "how many numbers", len(list), len(c.list))
		for i := range list {
			checkComplex(t, "ReadComplex", list[i], c.list[i])
		}
	}
}

func TestTextsOfMaxNumbers(t *testing.T) {
	for count := 255; count <= 258; count++ {
		fits := count <= 256
		numbers := strings.Repeat(",3f800000", count)[1:]
		text, ok := impl.NumbersText(repeated(float32(1), count))
		check(t, "NumbersText succeeds", ok, fits)
		list, listOk := impl.ReadNumbers(numbers)
		check(t, "ReadNumbers succeeds", listOk, fits)
		pairs := strings.Repeat(",3f80000000000000", count)[1:]
		both, bothOk := impl.ComplexText(repeated(complex64(1), count))
		check(t, "ComplexText succeeds", bothOk, fits)
		parts, partsOk := impl.ReadComplex(pairs)
		check(t, "ReadComplex succeeds", partsOk, fits)
		if fits {
			check(t, "NumbersText", text, numbers)
			check(t, "ComplexText", both, pairs)
			check(t, "how many numbers", len(list), count)
			check(t, "how many complex numbers", len(parts), count)
		} else {
			check(t, "texts and lists of too many", text+both+strconv.Itoa(len(list)+len(parts)), "0")
		}
	}
}

func TestTextsAreReadBackToTheLastBit(t *testing.T) {
	for _, all := range [][]float32{oddNumbers(), manyNumbers(200)} {
		text, ok := impl.NumbersText(all)
		check(t, "NumbersText succeeds", ok, true)
		list, ok := impl.ReadNumbers(text)
		check(t, "ReadNumbers succeeds", ok, true)
		check(t, "how many numbers", len(list), len(all))
		for i := range list {
			checkNumber(t, "ReadNumbers", list[i], all[i])
		}
	}
	for _, x := range oddComplex() {
		text, ok := impl.ComplexText([]complex64{x})
		check(t, "ComplexText succeeds", ok, true)
		list, ok := impl.ReadComplex(text)
		check(t, "ReadComplex succeeds", ok, true)
		check(t, "how many numbers", len(list), 1)
		checkComplex(t, "ReadComplex", list[0], x)
	}
}

func TestReadNumbersOfOtherTexts(t *testing.T) {
	for _, s := range []string{
		"", ",", "None", "none,", "none,none", " none", "none\n", "3f800000,", ",3f800000", "3f800000,none",
		"3f800000,,3f800000", "3f80000", "3f8000000", "3F800000", "3f80000g", "3f800000 ", " 3f800000", "0x3f8000",
		"+3f80000", "-3f80000", "3f_80000", "3f800000;c0000000", "3f800000, c0000000", "3f80000\x00", "3f8000é",
		"7fc00001", "ffc00000", "7f800001", "7fffffff", "ffffffff", "3f800000,ff800001", "3f800000c0000000", "\xff",
	} {
		list, ok := impl.ReadNumbers(s)
		check(t, "ReadNumbers of "+strconv.Quote(s), ok, false)
		check(t, "how many numbers", len(list), 0)
	}
}

func TestReadComplexOfOtherTexts(t *testing.T) {
	for _, s := range []string{
		"", ",", "None", "none,", "none,none", "3f800000", "3f8000000000000", "3f800000000000000", "3f800000,00000000",
		"3F80000000000000", "3f8000000000000g", "3f80000000000000,", ",3f80000000000000", "+f80000000000000",
		"7fc0000100000000", "00000000ffc00000", "7f80000100000000", "3f800000000000007", "3f80000000000000,none",
		" f80000000000000", "3f800000 0000000", "3f80000000000000,,3f80000000000000", "é3f800000000000",
	} {
		list, ok := impl.ReadComplex(s)
		check(t, "ReadComplex of "+strconv.Quote(s), ok, false)
		check(t, "how many numbers", len(list), 0)
	}
}

func TestIsName(t *testing.T) {
	for _, s := range []string{"a", "z", "ring", "abcdefgh", "zzzzzzzz"} {
		check(t, "IsName of "+strconv.Quote(s), impl.IsName(s), true)
	}
	for _, s := range []string{"", "abcdefghi", "A", "aB", "a1", "a b", "a_", "é", "`", "{", "a\x00", "\xff", "ringé", "a\n"} {
		check(t, "IsName of "+strconv.Quote(s), impl.IsName(s), false)
	}
}

func TestDecimal(t *testing.T) {
	for n, want := range map[int64]string{
		0: "0", 7: "7", -4: "-4", 10: "10", 1000000000000000: "1000000000000000", -1000000000000001: "-1000000000000001",
		math.MaxInt64: "9223372036854775807", math.MinInt64: "-9223372036854775808",
	} {
		check(t, "Decimal", impl.Decimal(n), want)
	}
}

func TestReadDecimal(t *testing.T) {
	check(t, "MaxValue", int64(impl.MaxValue), "1000000000000000")
	for _, n := range []int64{0, 1, -1, 9, 10, -10, 123456789, 999999999999999, 1000000000000000, -1000000000000000} {
		got, ok := impl.ReadDecimal(strconv.FormatInt(n, 10))
		check(t, "ReadDecimal succeeds", ok, true)
		check(t, "ReadDecimal", got, n)
	}
	for _, s := range []string{
		"", "-", "+", "+1", "-0", "00", "01", "-01", "1000000000000001", "-1000000000000001", "9223372036854775807",
		"-9223372036854775808", "9223372036854775808", "99999999999999999999999999", " 1", "1 ", "1\n", "1.0", "1e3",
		"0x1", "1_0", "--1", "a", "none", "1,2", "\xff", "١",
	} {
		got, ok := impl.ReadDecimal(s)
		check(t, "ReadDecimal of "+strconv.Quote(s), ok, false)
		check(t, "the number", got, 0)
	}
}

func TestListText(t *testing.T) {
	for _, c := range []struct {
		list []int64
		want string
	}{
		{nil, "none"}, {[]int64{}, "none"}, {[]int64{0}, "0"}, {[]int64{3, -1, 3}, "3,-1,3"},
		{[]int64{1000000000000000, -1000000000000000}, "1000000000000000,-1000000000000000"},
		{repeated(int64(-5), 64), strings.Repeat(",-5", 64)[1:]},
	} {
		got, ok := impl.ListText(c.list)
		check(t, "ListText succeeds", ok, true)
		check(t, "ListText", got, c.want)
		list, ok := impl.ReadList(c.want)
		check(t, "ReadList succeeds", ok, true)
		check(t, "how many numbers", len(list), len(c.list))
		for i := range list {
			check(t, "ReadList", list[i], c.list[i])
		}
	}
}

func TestListTextOfOtherLists(t *testing.T) {
	check(t, "MaxItems", impl.MaxItems, 64)
	for _, list := range [][]int64{
		{1000000000000001}, {-1000000000000001}, {1, math.MinInt64}, {math.MaxInt64, 1}, repeated(int64(1), 65), repeated(int64(1), 1000),
	} {
		got, ok := impl.ListText(list)
		check(t, "ListText succeeds", ok, false)
		check(t, "ListText", got, "")
	}
}

func TestReadListOfOtherTexts(t *testing.T) {
	for _, s := range []string{
		"", ",", "1,", ",1", "1,,2", "None", "none,1", "1,none", "1, 2", "1;2", "01", "+1", "-0", "1,-0",
		"1000000000000001", "1,-1000000000000001", strings.Repeat(",1", 65)[1:], strings.Repeat(",1", 1000)[1:],
	} {
		list, ok := impl.ReadList(s)
		check(t, "ReadList of "+strconv.Quote(s), ok, false)
		check(t, "how many numbers", len(list), 0)
	}
}

func TestCheckOf(t *testing.T) {
	check(t, "CheckSize", impl.CheckSize, 65003)
	for _, c := range []struct {
		start int64
		s     string
		want  int64
	}{
		{0, "", 0}, {65002, "", 65002}, {0, "a", 186}, {1, "a", 959}, {0, "ab", 13959}, {186, "b", 13959},
		{0, "\x00", 89}, {0, "\xff", 344}, {65002, "\xff", 64574}, {0, "é", 24781},
	} {
		got, ok := impl.CheckOf(c.start, c.s)
		check(t, "CheckOf succeeds", ok, true)
		check(t, "CheckOf "+strconv.Quote(c.s), got, c.want)
	}
	for _, start := range []int64{-1, 65003, math.MinInt64, math.MaxInt64} {
		got, ok := impl.CheckOf(start, "a")
		check(t, "CheckOf succeeds", ok, false)
		check(t, "the check number", got, 0)
	}
}

func TestCheckOfGoesOnWhereAnotherEnds(t *testing.T) {
	all := ""
	for b := range 256 {
		all += string([]byte{byte(b)})
	}
	whole, _ := impl.CheckOf(7, all+all)
	half, _ := impl.CheckOf(7, all)
	rest, ok := impl.CheckOf(half, all)
	check(t, "CheckOf succeeds", ok, true)
	check(t, "CheckOf both halves", rest, whole)
}
