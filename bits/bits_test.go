package bits

import (
	"bytes"
	"math"
	"strconv"
	"strings"
	"testing"

	"lysimeter/api"
)

func check[T comparable](t *testing.T, promise, name string, got, want T) {
	t.Helper()
	if got != want {
		t.Errorf("%s: %s: %#v, want %#v", promise, name, got, want)
	}
}

// put is a bit pattern to put and what it adds.
type put struct {
	v, n int
	adds string
}

// written tells the bits of a writer as a text of 0 and 1, the rest of the last byte too.
func written(w *Writer) string {
	var out strings.Builder
	for _, b := range w.Bytes() {
		s := strconv.FormatUint(uint64(b), 2)
		out.WriteString(strings.Repeat("0", 8-len(s)) + s)
	}
	return out.String()
}

// filled lays zeros behind a text of bits up to a whole byte.
func filled(s string) string {
	return s + strings.Repeat("0", (8-len(s)%8)%8)
}

// packed makes bytes of a text of bits.
func packed(s string) []byte {
	s = filled(s)
	var out []byte
	for ; s != ""; s = s[8:] {
		v, _ := strconv.ParseUint(s[:8], 2, 8)
		out = append(out, byte(v))
	}
	return out
}

// low is the lowest n bits of v as a text, the highest first.
func low(v, n int) string {
	var out []byte
	for i := n - 1; i >= 0; i-- {
		out = append(out, '0'+byte(uint64(v)>>i&1))
	}
	return string(out)
}

func TestP401PutLaysTheLowestBits(t *testing.T) {
	w := &Writer{}
	check(t, "P401", "the zero writer's bits", w.Len(), 0)
	check(t, "P401", "the zero writer's bytes", len(w.Bytes()), 0)
	all := ""
	for _, p := range []put{
		{5, 3, "101"},
		{1, 1, "1"},
		{0, 1, "0"},
		{0, 3, "000"},
		{6, 2, "10"},
		{-1, 5, "11111"},
		{-1, 0, ""},
		{-1, -1, ""},
		{-1, math.MinInt, ""},
		{0x1ff, 8, "11111111"},
		{256, 8, "00000000"},
		{0x2a5, 9, "010100101"},
		{1, 63, strings.Repeat("0", 62) + "1"},
		{-2, 64, strings.Repeat("1", 63) + "0"},
		{math.MinInt, 64, "1" + strings.Repeat("0", 63)},
		{math.MinInt, 63, strings.Repeat("0", 63)},
		{math.MaxInt, 65, "0" + strings.Repeat("1", 63)},
		{3, math.MaxInt, strings.Repeat("0", 62) + "11"},
	} {
		w.Put(p.v, p.n)
		all += p.adds
		name := "Put(" + strconv.Itoa(p.v) + ", " + strconv.Itoa(p.n) + ")"
		check(t, "P401", name, written(w), filled(all))
		check(t, "P401", "Len behind "+name, w.Len(), len(all))
	}
}

func TestP401TheExample(t *testing.T) {
	w := &Writer{}
	w.Put(5, 3)
	w.Put(1, 1)
	check(t, "P401", "Bytes", string(w.Bytes()), "\xb0")
	check(t, "P401", "Len", w.Len(), 4)
	v, e := NewReader(w.Bytes()).Get(3)
	check(t, "P402", "Get(3)", v, 5)
	check(t, "P402", "Get(3)", e, api.OK)
}

// Every width at every place in a byte, with bits above and below that must not come along.
func TestP401P402EveryWidthAtEveryPlace(t *testing.T) {
	for _, v := range []int{0, -1, math.MinInt, math.MaxInt, 0x0123456789abcdef, -0x0123456789abcdef, -0x5555555555555556} {
		for n := 0; n <= 64; n++ {
			for at := 0; at < 8; at++ {
				name := strconv.Itoa(n) + " bits of " + strconv.Itoa(v) + " at " + strconv.Itoa(at)
				w := &Writer{}
				w.Put(-1, at)
				w.Put(v, n)
				w.Put(1, 1)
				want := strings.Repeat("1", at) + low(v, n) + "1"
				check(t, "P401", name, written(w), filled(want))
				check(t, "P401", name, w.Len(), len(want))
				r := NewReader(w.Bytes())
				r.Get(at)
				got, e := r.Get(n)
				check(t, "P402", name, e, api.OK)
				check(t, "P402", name, low(got, 64), strings.Repeat("0", 64-n)+low(v, n))
				next, e := r.Get(1)
				check(t, "P402", "the bit behind "+name, next, 1)
				check(t, "P402", "the bit behind "+name, e, api.OK)
			}
		}
	}
}

func TestP402GetTakesTheNextBits(t *testing.T) {
	ones, zeros := strings.Repeat("1", 64), strings.Repeat("0", 63)
	text := "101" + "1" + ones + "1" + zeros + "01101"
	r := NewReader(packed(text))
	left := len(filled(text))
	for _, x := range []struct {
		n, want int
		e       api.Errno
	}{
		{0, 0, api.OK},
		{3, 5, api.OK},
		{-1, 0, api.ErrArg},
		{65, 0, api.ErrArg},
		{math.MinInt, 0, api.ErrArg},
		{math.MaxInt, 0, api.ErrArg},
		{1, 1, api.OK},
		{64, -1, api.OK},
		{64, math.MinInt, api.OK},
		{13, 0, api.ErrByte},
		{64, 0, api.ErrByte},
		{65, 0, api.ErrArg}, // ahead of ErrByte
		{5, 13, api.OK},
		{8, 0, api.ErrByte},
		{7, 0, api.OK}, // what was left of the last byte
		{0, 0, api.OK},
		{1, 0, api.ErrByte},
		{64, 0, api.ErrByte},
		{-1, 0, api.ErrArg},
		{65, 0, api.ErrArg},
	} {
		got, e := r.Get(x.n)
		name := "Get(" + strconv.Itoa(x.n) + ") of " + strconv.Itoa(left)
		check(t, "P402", name, got, x.want)
		check(t, "P402", name, e, x.e)
		if x.e == api.OK {
			left -= x.n
		}
		check(t, "P402", "Left behind "+name, r.Left(), left)
	}
}

func TestP402AReaderThatHasNothing(t *testing.T) {
	for name, r := range map[string]*Reader{"nil": NewReader(nil), "empty": NewReader([]byte{}), "zero": {}} {
		check(t, "P402", "Left of "+name, r.Left(), 0)
		for n, want := range map[int]api.Errno{0: api.OK, 1: api.ErrByte, 64: api.ErrByte, 65: api.ErrArg, -1: api.ErrArg} {
			v, e := r.Get(n)
			check(t, "P402", "Get("+strconv.Itoa(n)+") of "+name, v, 0)
			check(t, "P402", "Get("+strconv.Itoa(n)+") of "+name, e, want)
		}
	}
}

func TestP403BytesIsNewMemory(t *testing.T) {
	w := &Writer{}
	w.Put(0x1234, 13)
	first := w.Bytes()
	clear(first[:cap(first)])
	check(t, "P403", "behind a change of what was told", written(w), filled(low(0x1234, 13)))
	second, third := w.Bytes(), w.Bytes()
	clear(third)
	w.Put(-1, 3)
	w.Put(-1, 64)
	check(t, "P403", "behind further bits", string(second), string(packed(low(0x1234, 13))))
}

func TestP403AReaderGoesOverACopy(t *testing.T) {
	b := []byte{0x12, 0x34, 0xff, 0xff}
	r := NewReader(b[:2])
	clear(b)
	v, e := r.Get(16)
	check(t, "P403", "behind a change of the bytes", v, 0x1234)
	check(t, "P403", "behind a change of the bytes", e, api.OK)
	_, e = r.Get(1)
	check(t, "P403", "the bytes' spare room is none of its own", e, api.ErrByte)

	b = []byte{0x12, 0x34}
	r = NewReader(b)
	r.Get(5)
	r.Get(64)
	check(t, "P403", "what was handed in is as it was", bytes.Equal(b, []byte{0x12, 0x34}), true)
	other := NewReader(b)
	check(t, "P403", "two readers go on their own", other.Left()-r.Left(), 5)
}
