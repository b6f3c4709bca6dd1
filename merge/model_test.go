package merge

import (
	"cmp"
	"fmt"
	"maps"
	"math/rand"
	"slices"
	"strings"
	"testing"

	"lysimeter/api"
)

// together is Samples in another way: a map, into which all samples are laid in order.
func together(l [][]api.Sample) []api.Sample {
	values := map[int]int{}
	for _, each := range l {
		for _, s := range each {
			values[s.T] = s.V
		}
	}
	var out []api.Sample
	for _, t := range slices.Sorted(maps.Keys(values)) {
		out = append(out, api.Sample{T: t, V: values[t]})
	}
	return out
}

// below is the order of labels, in another way than labels.Cmp: of texts in which no name and no value has the byte 0.
func below(a, b []api.Label) int {
	text := func(l []api.Label) string {
		var out strings.Builder
		for _, x := range l {
			out.WriteString("\x01" + x.Name + "\x00" + x.Value + "\x00")
		}
		return out.String()
	}
	return cmp.Compare(text(a), text(b))
}

// seriesTogether is Series in another way: all series in one list, sorted; then those of the same labels.
func seriesTogether(l [][]api.Series) []api.Series {
	all := slices.Concat(l...)
	slices.SortStableFunc(all, func(a, b api.Series) int { return below(a.Labels, b.Labels) })
	var out []api.Series
	for len(all) > 0 {
		var own [][]api.Sample
		first := all[0].Labels
		for len(all) > 0 && slices.Equal(all[0].Labels, first) {
			own = append(own, all[0].Samples)
			all = all[1:]
		}
		if samples := together(own); len(samples) > 0 {
			out = append(out, api.Series{Labels: first, Samples: samples})
		}
	}
	return out
}

// laid is Put in another way, of an l that rises: what is ahead of s, s, what is behind it.
func laid(l []api.Sample, s api.Sample) []api.Sample {
	var ahead, behind []api.Sample
	for _, x := range l {
		if x.T < s.T {
			ahead = append(ahead, x)
		} else if x.T > s.T {
			behind = append(behind, x)
		}
	}
	return slices.Concat(ahead, []api.Sample{s}, behind)
}

// anySamples is up to n samples at times below most; some lists rise, and some have each time once.
func anySamples(dice *rand.Rand, n, most int) []api.Sample {
	var out []api.Sample
	for range dice.Intn(n + 1) {
		out = append(out, api.Sample{T: dice.Intn(most) - most/2, V: dice.Intn(1000)})
	}
	switch dice.Intn(4) {
	case 0:
		slices.SortStableFunc(out, func(a, b api.Sample) int { return a.T - b.T })
	case 1:
		out = together([][]api.Sample{out})
	}
	return out
}

// anyLabels is up to two labels of few names and values, in any order.
func anyLabels(dice *rand.Rand) []api.Label {
	var out []api.Label
	for range dice.Intn(3) {
		out = append(out, api.Label{Name: []string{"a", "b", "ab", ""}[dice.Intn(4)], Value: []string{"x", "y", "xy", ""}[dice.Intn(4)]})
	}
	return out
}

func anySeries(dice *rand.Rand, n int) []api.Series {
	var out []api.Series
	for range dice.Intn(n + 1) {
		out = append(out, api.Series{Labels: anyLabels(dice), Samples: anySamples(dice, 4, 6)})
	}
	if dice.Intn(2) == 0 {
		slices.SortStableFunc(out, func(a, b api.Series) int { return below(a.Labels, b.Labels) })
	}
	return out
}

func TestP1801SamplesModel(t *testing.T) {
	dice := rand.New(rand.NewSource(1801))
	for range 20000 {
		var lists [][]api.Sample
		for range dice.Intn(9) {
			lists = append(lists, anySamples(dice, 8, 3+dice.Intn(30)))
		}
		checkList(t, "P1801", fmt.Sprint(lists), Samples(lists), together(lists))
	}
}

// TestP1801SamplesAllShort goes over all rows of up to four lists of up to two samples at three times.
func TestP1801SamplesAllShort(t *testing.T) {
	shapes := [][]int{nil}
	for a := range 3 {
		shapes = append(shapes, []int{a})
		for b := range 3 {
			shapes = append(shapes, []int{a, b})
		}
	}
	var grow func(lists [][]api.Sample)
	grow = func(lists [][]api.Sample) {
		checkList(t, "P1801", fmt.Sprint(lists), Samples(lists), together(lists))
		if len(lists) == 4 {
			return
		}
		for _, times := range shapes {
			var l []api.Sample
			for i, each := range times {
				l = append(l, api.Sample{T: each, V: 10*len(lists) + i})
			}
			grow(append(lists[:len(lists):len(lists)], l))
		}
	}
	grow(nil)
}

func TestP1801SeriesModel(t *testing.T) {
	dice := rand.New(rand.NewSource(18011))
	left := 0 // how often a series without samples was left out
	for range 10000 {
		var lists [][]api.Series
		for range dice.Intn(5) {
			lists = append(lists, anySeries(dice, 6))
		}
		want := seriesTogether(lists)
		check(t, "P1801", "Series", shown(Series(lists)), shown(want))
		for _, s := range slices.Concat(lists...) {
			if !slices.ContainsFunc(want, func(x api.Series) bool { return slices.Equal(x.Labels, s.Labels) }) {
				left++
			}
		}
	}
	check(t, "P1801", "some were left out", left > 1000, true)
}

func TestP1802Model(t *testing.T) {
	dice := rand.New(rand.NewSource(1802))
	for range 20000 {
		l := anySamples(dice, 9, 12)
		from, to := dice.Intn(16)-8, dice.Intn(16)-8
		ranged := slices.DeleteFunc(slices.Clone(l), func(s api.Sample) bool { return s.T < from || s.T >= to })
		checkList(t, "P1802", fmt.Sprint("Range of ", l, from, to), Range(l, from, to), ranged)
		s := api.Sample{T: dice.Intn(16) - 8, V: -1}
		checkList(t, "P1802", fmt.Sprint("Put into ", l, s), Put(l, s), together([][]api.Sample{l, {s}}))
		rising := together([][]api.Sample{l})
		checkList(t, "P1802", fmt.Sprint("Put into ", rising, s), Put(rising, s), laid(rising, s))
	}
}
