package stamps

import (
	"bytes"
	"slices"
	"testing"

	"lysimeter/api"
)

// dice are numbers that look thrown, the same ones each time.
type dice uint64

func (d *dice) roll(n int) int {
	*d ^= *d << 13
	*d ^= *d >> 7
	*d ^= *d << 17
	return int(uint64(*d) % uint64(n))
}

// thrown are some rising times whose gaps change by little and by much.
func (d *dice) thrown() []int {
	last, gap := d.roll(2000)-1000, 1+d.roll(100)
	var out []int
	for range d.roll(api.MaxChunk + 1) {
		out = append(out, last)
		gap = max(1, gap+d.roll(3)*(d.roll(1<<d.roll(14))-d.roll(1<<d.roll(14))))
		last += gap
	}
	return out
}

// plainUnpack looks for the times by going through all that the bits could mean, and asks plainPack.
func plainUnpack(b []byte, n int) ([]int, bool) {
	text := ""
	for _, one := range b {
		text += digits(int(one), 8)
	}
	take := func(n int) int {
		v := uint64(0)
		for range n {
			v *= 2
			if text != "" {
				v += uint64(text[0] - '0')
				text = text[1:]
			}
		}
		return int(v)
	}
	var l []int
	gap := 0
	for i := range n {
		if i == 0 {
			l = append(l, take(64))
			continue
		}
		switch {
		case take(1) == 0:
		case take(1) == 0:
			gap += take(7) - 63
		case take(1) == 0:
			gap += take(9) - 255
		case take(1) == 0:
			gap += take(12) - 2047
		default:
			gap += take(64)
		}
		l = append(l, l[i-1]+gap)
	}
	for i, one := range l {
		if one < -1<<53 || one > 1<<53 || i > 0 && one <= l[i-1] {
			return nil, false
		}
	}
	return l, bytes.Equal(plainPack(l), b)
}

func TestP602Spoilt(t *testing.T) {
	d := dice(88172645463325252)
	for range 300 {
		l := d.thrown()
		b, errno := Pack(l)
		check(t, "P601", "thrown", errno, api.OK)
		checkBytes(t, "P601", "thrown", b, plainPack(l))
		back, errno := Unpack(b, len(l))
		check(t, "P602", "thrown", errno, api.OK)
		checkTimes(t, "P602", "thrown", back, l)
		for range min(len(b), 20) {
			spoilt := slices.Clone(b)
			spoilt[d.roll(len(b))] ^= 1 << d.roll(8)
			n := max(0, len(l)-d.roll(2))
			want, fine := plainUnpack(spoilt, n)
			got, errno := Unpack(spoilt, n)
			check(t, "P602", "spoilt", errno == api.OK, fine)
			if fine {
				checkTimes(t, "P602", "spoilt", got, want)
			} else {
				check(t, "P602", "spoilt: error", errno, api.ErrByte)
			}
		}
	}
}
