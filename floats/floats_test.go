package floats

import (
	"math"
	"math/big"
	"strconv"
	"strings"
	"sync"
	"testing"

	"lysimeter/api"
)

type answer struct {
	number int
	errno  api.Errno
}

func of(f float64) answer {
	x, e := Of(f)
	return answer{x, e}
}

func bits(s string) answer {
	x, e := Bits(s)
	return answer{x, e}
}

func parse(s string) answer {
	x, e := Parse(s)
	return answer{x, e}
}

func check[T comparable](t *testing.T, promise, name string, got, want T) {
	t.Helper()
	if got != want {
		t.Errorf("%s: %s: %v, want %v", promise, name, got, want)
	}
}

// wide is the greatest fixed-point number that is not above r, cut, as big numbers tell it.
func wide(r *big.Rat) int {
	top := new(big.Int).Mul(r.Num(), big.NewInt(api.One))
	// DivMod leaves a rest that is never below 0, and a denominator is above 0.
	down, _ := new(big.Int).DivMod(top, r.Denom(), new(big.Int))
	if down.Cmp(big.NewInt(api.Most)) > 0 {
		return api.Most
	}
	if down.Cmp(big.NewInt(api.Least)) < 0 {
		return api.Least
	}
	return int(down.Int64())
}

func wideOf(f float64) answer {
	switch {
	case math.IsNaN(f):
		return answer{0, api.ErrNaN}
	case math.IsInf(f, 1):
		return answer{api.Most, api.OK}
	case math.IsInf(f, -1):
		return answer{api.Least, api.OK}
	}
	return answer{wide(new(big.Rat).SetFloat64(f)), api.OK}
}

// words tells words of all sizes, the same ones in each run.
func words(n int) []uint64 {
	state := uint64(88172645463325252)
	out := make([]uint64, n)
	for i := range out {
		state ^= state << 13
		state ^= state >> 7
		state ^= state << 17
		out[i] = state
	}
	return out
}

// someFloats are floats around which answers turn, and many of all exponents.
func someFloats() []float64 {
	out := []float64{0, math.Copysign(0, -1), math.Inf(1), math.Inf(-1), math.MaxFloat64, math.SmallestNonzeroFloat64}
	for exponent := -1074; exponent <= 1023; exponent++ {
		p := math.Ldexp(1, exponent)
		out = append(out, p, -p, math.Nextafter(p, 0), -math.Nextafter(p, 0), math.Nextafter(p, math.Inf(1)), -math.Nextafter(p, math.Inf(1)))
	}
	for i, w := range words(20000) {
		out = append(out, math.Float64frombits(w))
		// Those of all bits are mostly too great or too small to tell of: these are between.
		near := math.Ldexp(float64(w>>11), i%120-100)
		out = append(out, near, -near)
	}
	return out
}

// someNumbers are the ends, each power of 2 with what stands beside it, and many of all sizes.
func someNumbers() []int {
	out := []int{api.Least, api.Least + 1, api.Most, api.Most - 1}
	for bit := range 63 {
		for beside := -3; beside <= 3; beside++ {
			out = append(out, 1<<bit+beside, -(1<<bit + beside))
		}
	}
	for i, w := range words(20000) {
		out = append(out, int(w)>>(i%64))
	}
	return out
}

func TestExamples(t *testing.T) {
	check(t, "examples", "Of(0.1)", of(0.1), answer{429496729, api.OK})
	check(t, "examples", "Parse(-0.5)", parse("-0.5"), answer{-1 << 31, api.OK})
	check(t, "examples", "Show(-2^31)", Show(-1<<31), "-0.5")
	check(t, "examples", "Show(1)", Show(1), "0.00000000023283064365386962890625")
	check(t, "examples", "Bits of -Inf", bits("fff0000000000000"), answer{api.Least, api.OK})
}

func TestP201OfEdges(t *testing.T) {
	const least = math.SmallestNonzeroFloat64
	for _, x := range []struct {
		f    float64
		want int
	}{
		{0, 0}, {math.Copysign(0, -1), 0}, {1, api.One}, {-1, -api.One},
		{math.Inf(1), api.Most}, {math.Inf(-1), api.Least},
		{math.MaxFloat64, api.Most}, {-math.MaxFloat64, api.Least},
		{least, 0}, {-least, -1},
		{math.Ldexp(1, -32), 1}, {math.Ldexp(-1, -32), -1},
		{math.Ldexp(1, -33), 0}, {math.Ldexp(-1, -33), -1},
		{math.Ldexp(-3, -33), -2}, {math.Ldexp(3, -33), 1},
		{1 << 31, api.Most}, {-1 << 31, api.Least},
		{math.Nextafter(1<<31, 0), api.Most - 1023}, {math.Nextafter(-1<<31, 0), -api.Most + 1023},
		{math.Nextafter(1<<31, 1<<32), api.Most}, {math.Nextafter(-1<<31, -1<<32), api.Least},
	} {
		check(t, "P201", strconv.FormatFloat(x.f, 'g', -1, 64), of(x.f), answer{x.want, api.OK})
	}
}

func TestP201OfNaN(t *testing.T) {
	for _, word := range []uint64{0x7ff8000000000000, 0xfff8000000000000, 0x7ff0000000000001, 0xffffffffffffffff, 0x7fffffffffffffff} {
		check(t, "P201", "NaN", of(math.Float64frombits(word)), answer{0, api.ErrNaN})
	}
}

func TestP201OfAsMathematicsTells(t *testing.T) {
	for _, f := range someFloats() {
		if got, want := of(f), wideOf(f); got != want {
			t.Fatalf("P201: Of(%g): %v, want %v", f, got, want)
		}
	}
}

func TestP201BackIsNearest(t *testing.T) {
	for _, x := range someNumbers() {
		want, _ := new(big.Rat).SetFrac(big.NewInt(int64(x)), big.NewInt(api.One)).Float64()
		got := Back(x)
		if got != want || math.Signbit(got) != (x < 0) {
			t.Fatalf("P201: Back(%d): %g, want %g", x, got, want)
		}
	}
	check(t, "P201", "no -0", math.Float64bits(Back(0)), 0)
	check(t, "P201", "a tie down to the even one", Back(1<<53+1), 1<<21)
	check(t, "P201", "a tie up to the even one", Back(1<<53+3), (1<<53+4)/float64(api.One))
	check(t, "P201", "Least", Back(api.Least), -1<<31)
	check(t, "P201", "Most", Back(api.Most), 1<<31)
}

func TestP202Bits(t *testing.T) {
	for _, f := range someFloats() {
		s := strconv.FormatUint(math.Float64bits(f), 16)
		s = strings.Repeat("0", 16-len(s)) + s
		if got, want := bits(s), of(f); got != want {
			t.Fatalf("P202: %s: %v, want %v", s, got, want)
		}
	}
	check(t, "P202", "a NaN", bits("7ff8000000000000"), answer{0, api.ErrNaN})
	check(t, "P202", "a NaN with a sign", bits("ffffffffffffffff"), answer{0, api.ErrNaN})
}

func TestP202NoBits(t *testing.T) {
	good := "3ff0000000000000"
	for _, s := range []string{"", "3", good[1:], good + "0", "3FF0000000000000", "0x3ff00000000000", "-3ff000000000000", " 3ff000000000000", good[:15] + "g", good[:15] + "\n", "é" + good[2:]} {
		check(t, "P202", strconv.Quote(s), bits(s), answer{0, api.ErrSyntax})
	}
	for c := range 256 {
		if strings.IndexByte("0123456789abcdef", byte(c)) >= 0 {
			continue
		}
		for place := range good {
			s := good[:place] + string([]byte{byte(c)}) + good[place+1:]
			check(t, "P202", strconv.Quote(s), bits(s), answer{0, api.ErrSyntax})
		}
	}
}

func TestP203Edges(t *testing.T) {
	zeros, nines := strings.Repeat("0", 30), strings.Repeat("9", 30)
	for s, want := range map[string]int{
		"0": 0, "-0": 0, "+0": 0, "-0.0": 0, "7": 7 << 32, "+7": 7 << 32, "-7": -7 << 32,
		"007.50": 15 << 31, "0.1": 429496729, "-0.1": -429496730, "-0.5": -1 << 31,
		"inf": api.Most, "+inf": api.Most, "-inf": api.Least,
		"2147483647": 2147483647 << 32, "2147483648": api.Most, "-2147483648": api.Least,
		"-2147483647.9999999999": api.Least,
		"2147483647.9999999999":  api.Most,
		"-2147483648.000001":     api.Least, "4294967296": api.Most, "-4294967296": api.Least,
		"18446744073709551616": api.Most, "18446744073709551617.5": api.Most, "-18446744073709551617": api.Least,
		nines + "." + nines: api.Most, "-" + nines + "." + nines: api.Least,
		zeros + "." + zeros: 0, "0." + zeros[1:] + "1": 0, "-0." + zeros[1:] + "1": -1,
		zeros[1:] + "1": api.One, "0." + nines: api.One - 1, "-0." + nines: -api.One,
	} {
		check(t, "P203", s, parse(s), answer{want, api.OK})
	}
}

func TestP203NoNumber(t *testing.T) {
	check(t, "P203", "nan", parse("nan"), answer{0, api.ErrNaN})
	long := strings.Repeat("0", 31)
	for _, s := range []string{
		"", "-", "+", ".", "-.", "1.", ".5", "-.5", "1..2", "1.2.3", "1.-2", "1.+2", "--1", "+-1", "-+1", "++1",
		"-nan", "+nan", "NaN", "nan ", "nan.0", "Inf", "INF", "infinity", "in", "inf.", "inf.5", "--inf", "+-inf", " inf", "0inf", "inf0",
		" 1", "1 ", "1e3", "1_0", "0x1", "1,5", "a", "1a", "1.a", "1.5a", "\x00", "1\x00", "é", "١", "1.5\n",
		long, "-" + long, "0." + long, long + ".0", "1" + long, "0.00000000023283064365386962890625", "2147483647.99999999976716935634613037109375",
	} {
		check(t, "P203", strconv.Quote(s), parse(s), answer{0, api.ErrSyntax})
	}
	for c := range 256 {
		if c >= '0' && c <= '9' {
			continue
		}
		one := string([]byte{byte(c)})
		for _, s := range []string{"1" + one, "1.0" + one, "1.0" + one + "0", one + one + "1"} {
			check(t, "P203", strconv.Quote(s), parse(s), answer{0, api.ErrSyntax})
		}
	}
}

func TestP203AsMathematicsTells(t *testing.T) {
	all := words(8000)
	for i := range len(all) - 8 {
		before := digits(all[i:i+4], 1+i%30)
		if i%2 == 0 { // else hardly one would be within the bounds
			before = digits(all[i:i+4], 1+i%10)
		}
		s := []string{"", "-", "+"}[i%3] + before
		if i%5 != 0 {
			s += "." + digits(all[i+4:i+8], 1+i/7%30)
		}
		r, ok := new(big.Rat).SetString(s)
		if !ok {
			t.Fatalf("no text of a number: %s", s)
		}
		check(t, "P203", s, parse(s), answer{wide(r), api.OK})
	}
}

// digits are n digits, of up to four words.
func digits(from []uint64, n int) string {
	s := ""
	for _, w := range from {
		// The last nineteen digits of a word are all about as frequent.
		text := strconv.FormatUint(w%10000000000000000000, 10)
		s += strings.Repeat("0", 19-len(text)) + text
	}
	return s[:n]
}

func TestP204Show(t *testing.T) {
	for x, want := range map[int]string{
		0: "0", 1: "0.00000000023283064365386962890625", -1: "-0.00000000023283064365386962890625",
		api.One: "1", -api.One: "-1", 3 << 31: "1.5", -3 << 31: "-1.5", 10 << 32: "10", 1 << 31: "0.5",
		api.Least: "-2147483648", api.Most: "2147483647.99999999976716935634613037109375",
		api.Least + 1: "-2147483647.99999999976716935634613037109375", 1<<32 + 1<<28: "1.0625",
	} {
		check(t, "P204", want, Show(x), want)
	}
}

func TestP204AsMathematicsTells(t *testing.T) {
	for _, x := range someNumbers() {
		want := new(big.Rat).SetFrac(big.NewInt(int64(x)), big.NewInt(api.One)).FloatString(32)
		want = strings.TrimSuffix(strings.TrimRight(want, "0"), ".")
		if got := Show(x); got != want {
			t.Fatalf("P204: %d: %s, want %s", x, got, want)
		}
	}
}

func TestP205ThereAndBack(t *testing.T) {
	for _, x := range someNumbers() {
		if x >= -1<<53 && x <= 1<<53 {
			check(t, "P205", "Of(Back(x))", of(Back(x)), answer{x, api.OK})
		}
		s := Show(x)
		if _, behind, _ := strings.Cut(s, "."); len(behind) <= 30 {
			check(t, "P205", s, parse(s), answer{x, api.OK})
		}
	}
}

// TestP205NothingElseTells: calls that run beside each other, in whatever order, tell what one alone tells.
func TestP205NothingElseTells(t *testing.T) {
	numbers := someNumbers()[:2000]
	alone := make([]string, len(numbers))
	for i, x := range numbers {
		alone[i] = told(x)
	}
	var workers sync.WaitGroup
	for worker := range 4 {
		workers.Go(func() {
			for i := range numbers {
				place := (i*7 + worker*501) % len(numbers)
				if got := told(numbers[place]); got != alone[place] {
					t.Errorf("P205: %s, want %s", got, alone[place])
					return
				}
			}
		})
	}
	workers.Wait()
}

func told(x int) string {
	f := Back(x)
	a, b := of(f), parse(strconv.FormatFloat(f, 'f', 20, 64))
	c := bits(strconv.FormatUint(math.Float64bits(f), 16))
	return Show(x) + " " + strconv.Itoa(a.number) + " " + strconv.Itoa(b.number) + " " + strconv.Itoa(c.number)
}
