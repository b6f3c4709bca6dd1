package values

import (
	"slices"
	"strings"
	"testing"

	"lysimeter/api"
)

// dice are numbers that look thrown, the same ones each time.
type dice uint64

func (d *dice) roll(n int) int {
	*d ^= *d << 13
	*d ^= *d >> 7
	*d ^= *d << 17
	return int(uint64(*d) % uint64(n))
}

// thrown are some numbers of which few bits change, and now and then many.
func (d *dice) thrown() []int {
	last, high := d.roll(1<<60)-1<<59, d.roll(64)
	var out []int
	for range d.roll(api.MaxChunk + 1) {
		out = append(out, last)
		if d.roll(8) == 0 {
			high = d.roll(64)
		}
		last ^= d.roll(3) * d.roll(1<<d.roll(20)) << max(0, high-d.roll(20))
	}
	return out
}

// plainUnpack reads the digits by the promise's words, and asks plainPack whether these are the bytes.
func plainUnpack(b []byte, n int) ([]int, bool) {
	text := ""
	for _, one := range b {
		text += digits(int(one), 8)
	}
	text += strings.Repeat("0", 200*n)
	take := func(n int) int {
		v := uint64(0)
		for _, one := range text[:n] {
			v = 2*v + uint64(one-'0')
		}
		text = text[n:]
		return int(v)
	}
	var l []int
	ahead, behind := 0, 0
	for i := range n {
		if i == 0 {
			l = append(l, take(64))
			continue
		}
		x := 0
		if take(1) == 1 {
			if take(1) == 1 {
				ahead = take(5)
				behind = 63 - ahead - take(6)
			}
			if behind < 0 {
				return nil, false
			}
			x = take(64-ahead-behind) << behind
		}
		l = append(l, l[i-1]^x)
	}
	return l, slices.Equal(plainPack(l), b)
}

func TestP702Spoilt(t *testing.T) {
	d := dice(88172645463325252)
	for range 150 {
		l := d.thrown()
		b, errno := Pack(l)
		check(t, "P701", "thrown", errno, api.OK)
		checkBytes(t, "P701", "thrown", b, plainPack(l))
		back, errno := Unpack(b, len(l))
		check(t, "P702", "thrown", errno, api.OK)
		checkNumbers(t, "P702", "thrown", back, l)
		for range min(len(b), 10) {
			spoilt := slices.Clone(b)
			spoilt[d.roll(len(b))] ^= 1 << d.roll(8)
			n := max(0, len(l)-d.roll(2))
			want, fine := plainUnpack(spoilt, n)
			got, errno := Unpack(spoilt, n)
			check(t, "P702", "spoilt", errno == api.OK, fine)
			if fine {
				checkNumbers(t, "P702", "spoilt", got, want)
			} else {
				check(t, "P702", "spoilt: error", errno, api.ErrByte)
			}
		}
	}
}
