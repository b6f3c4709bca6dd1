package head

import (
	"cmp"
	"math/rand"
	"slices"
	"strconv"
	"testing"

	"lysimeter/api"
)

// model is what a head is by the chapter's words: rows, of each series and time one, looked through from end to end.
type model struct {
	window int
	rows   []api.Row
}

// byName is the labels by rising name.
func byName(l []api.Label) []api.Label {
	out := slices.Clone(l)
	slices.SortFunc(out, func(a, b api.Label) int { return cmp.Compare(a.Name, b.Name) })
	return out
}

// byNameAndValue is the order of labels that are sorted, as labels.Cmp has it.
func byNameAndValue(a, b []api.Label) int {
	for i := range min(len(a), len(b)) {
		if c := cmp.Or(cmp.Compare(a[i].Name, b[i].Name), cmp.Compare(a[i].Value, b[i].Value)); c != 0 {
			return c
		}
	}
	return cmp.Compare(len(a), len(b))
}

func same(a, b []api.Label) bool {
	return slices.Equal(byName(a), byName(b))
}

// samples is those of one series, by rising time.
func (m *model) samples(l []api.Label) []api.Sample {
	var out []api.Sample
	for _, r := range m.rows {
		if same(r.Labels, l) {
			out = append(out, r.Sample)
		}
	}
	slices.SortFunc(out, func(a, b api.Sample) int { return cmp.Compare(a.T, b.T) })
	return out
}

// series is all series, by rising labels.
func (m *model) series() []api.Series {
	var out []api.Series
	for _, r := range m.rows {
		if !slices.ContainsFunc(out, func(s api.Series) bool { return same(s.Labels, r.Labels) }) {
			out = append(out, api.Series{Labels: byName(r.Labels), Samples: m.samples(r.Labels)})
		}
	}
	slices.SortFunc(out, func(a, b api.Series) int { return byNameAndValue(a.Labels, b.Labels) })
	return out
}

// wrong is what is wrong with one row. (The labels that the play below has are wrong by an empty value alone.)
func (m *model) wrong(r api.Row) api.Errno {
	if len(r.Labels) == 0 || slices.ContainsFunc(r.Labels, func(x api.Label) bool { return x.Value == "" }) {
		return api.ErrLabel
	}
	if r.Sample.T < -1<<53 || r.Sample.T > 1<<53 {
		return api.ErrTime
	}
	own := m.samples(r.Labels)
	for _, s := range own {
		if s.T > r.Sample.T && r.Sample.T < s.T-m.window {
			return api.ErrOld
		}
	}
	if len(own) == 0 && len(m.series()) == 1000 {
		return api.ErrLong
	}
	return api.OK
}

// written is the model with the row written.
func (m *model) written(r api.Row) *model {
	out := &model{window: m.window}
	for _, x := range m.rows {
		if x.Sample.T != r.Sample.T || !same(x.Labels, r.Labels) {
			out.rows = append(out.rows, x)
		}
	}
	out.rows = append(out.rows, api.Row{Labels: slices.Clone(r.Labels), Sample: r.Sample})
	return out
}

// write is what is wrong with the rows, and the model behind them, whether all are written or none.
func (m *model) write(rows []api.Row) (*model, api.Errno) {
	if len(rows) == 0 {
		return m, api.ErrArg
	}
	behind := m
	for _, r := range rows {
		if errno := behind.wrong(r); errno != api.OK {
			return m, errno
		}
		behind = behind.written(r)
	}
	return behind, api.OK
}

// cut is what stands below low, and what does not.
func (m *model) cut(low int) (below, rest *model) {
	below, rest = &model{window: m.window}, &model{window: m.window}
	for _, r := range m.rows {
		if r.Sample.T < low {
			below.rows = append(below.rows, r)
		} else {
			rest.rows = append(rest.rows, r)
		}
	}
	return below, rest
}

// anyRow is a row of one of a few series, at a time about now, now and then a wrong one.
func anyRow(dice *rand.Rand, now int) api.Row {
	names := []string{"a", "b", "C"}
	dice.Shuffle(len(names), func(i, j int) { names[i], names[j] = names[j], names[i] })
	r := api.Row{Sample: api.Sample{T: now - 15 + dice.Intn(20), V: dice.Intn(100)}}
	for _, name := range names[:1+dice.Intn(2)] {
		r.Labels = append(r.Labels, api.Label{Name: name, Value: []string{"1", "1\"", "2"}[dice.Intn(3)]})
	}
	switch dice.Intn(60) {
	case 0:
		r.Labels = nil
	case 1:
		r.Labels[len(r.Labels)-1].Value = ""
	case 2:
		r.Sample.T = 1<<53 + 1
	case 3:
		r.Sample.T = -1<<53 - 1
	}
	return r
}

// agree checks that the head tells what the model tells.
func agree(t *testing.T, name string, h *Head, m *model) {
	t.Helper()
	has(t, "P1302", name, h, shown(m.series()))
	check(t, "P1302", name+": Count", h.Count(), len(m.rows))
}

func TestModel(t *testing.T) {
	dice := rand.New(rand.NewSource(1301))
	seen := map[api.Errno]int{}
	for play := range 60 {
		window := []int{-5, 0, 3, 12, 1 << 60}[play%5]
		h, m := New(window), &model{window: min(max(window, 0), 1<<53)}
		for step := range 60 {
			name := "play " + strconv.Itoa(play) + ", step " + strconv.Itoa(step)
			if dice.Intn(6) == 0 {
				low := step - 20 + dice.Intn(25)
				below, rest := m.cut(low)
				check(t, "P1302", name+": Cut", shown(h.Cut(low)), shown(below.series()))
				m = rest
			} else {
				var rows []api.Row
				for range dice.Intn(6) {
					rows = append(rows, anyRow(dice, step))
				}
				behind, errno := m.write(rows)
				answers(t, name, h, errno, rows...)
				seen[errno]++
				m = behind
			}
			agree(t, name, h, m)
		}
	}
	for _, errno := range []api.Errno{api.OK, api.ErrArg, api.ErrLabel, api.ErrTime, api.ErrOld} {
		if seen[errno] < 10 {
			t.Errorf("P1301: the plays had %v %d times alone", errno, seen[errno])
		}
	}
}
