package db

import (
	"cmp"
	"fmt"
	"maps"
	"math/rand"
	"slices"
	"strings"
	"testing"

	"lysimeter/api"
	"lysimeter/disk"
)

// cell is a series, by its labels as a text, and a time.
type cell struct {
	series string
	t      int
}

// model is what a database is by the chapter's words: values of cells, a watermark, and the bytes that were noted last.
type model struct {
	low    int
	values map[cell]int
	notes  map[int]string
}

func newModel() *model {
	return &model{low: -1 << 53, values: map[cell]int{}, notes: map[int]string{}}
}

func (m *model) copied() *model {
	return &model{low: m.low, values: maps.Clone(m.values), notes: maps.Clone(m.notes)}
}

// named is labels as a text. (Those that the play has are two at most.)
func named(l []api.Label) string {
	l = slices.Clone(l)
	slices.SortFunc(l, func(x, y api.Label) int { return cmp.Compare(x.Name, y.Name) })
	var out []string
	for _, x := range l {
		out = append(out, x.Name+"="+x.Value)
	}
	return strings.Join(out, " ")
}

// newest is the time of the last sample of a series.
func (m *model) newest(series string) (int, bool) {
	newest, there := 0, false
	for c := range m.values {
		if c.series == series && (!there || c.t > newest) {
			newest, there = c.t, true
		}
	}
	return newest, there
}

// write is what is wrong with the rows; if nothing is, they are written.
func (m *model) write(rows []api.Row, window int) api.Errno {
	if len(rows) == 0 {
		return api.ErrArg
	}
	behind := m.copied()
	for _, r := range rows {
		switch t, series := r.Sample.T, named(r.Labels); {
		case len(r.Labels) == 0 || slices.ContainsFunc(r.Labels, func(x api.Label) bool { return x.Value == "" }):
			return api.ErrLabel
		case t < -1<<53 || t > 1<<53:
			return api.ErrTime
		default:
			newest, there := behind.newest(series)
			if t < behind.low || there && t < newest-window {
				return api.ErrOld
			}
			behind.values[cell{series, t}] = r.Sample.V
		}
	}
	*m = *behind
	return api.OK
}

func (m *model) retain(low int) api.Errno {
	if low < -1<<53 || low > 1<<53 {
		return api.ErrTime
	}
	m.low = max(m.low, low)
	maps.DeleteFunc(m.values, func(c cell, _ int) bool { return c.t < m.low })
	return api.OK
}

func (m *model) note(kind int, s string) api.Errno {
	if kind < 1 || kind > 255 {
		return api.ErrArg
	}
	m.notes[kind] = s
	return api.OK
}

// cells is the cells of a span of time, of series whose text has the word, sorted.
func (m *model) cells(word string, from, to int) []cell {
	var out []cell
	for c := range m.values {
		if strings.Contains(c.series, word) && c.t >= from && c.t < to {
			out = append(out, c)
		}
	}
	slices.SortFunc(out, func(x, y cell) int {
		return cmp.Or(cmp.Compare(x.series, y.series), cmp.Compare(x.t, y.t))
	})
	return out
}

// query is what Query tells, as a text: each sample behind its series.
func (m *model) query(word string, from, to int) string {
	var out strings.Builder
	for _, c := range m.cells(word, from, to) {
		fmt.Fprintln(&out, c.series, c.t, m.values[c])
	}
	return out.String()
}

// roll is what Roll tells, as a text: each bucket behind its series.
func (m *model) roll(word string, from, to, width int) string {
	for from%width != 0 {
		from--
	}
	for to%width != 0 {
		to++
	}
	var out strings.Builder
	for _, series := range m.allSeries() {
		for t := from; t < to; t += width {
			b := api.Bucket{T: t}
			for _, c := range m.cells(word, t, min(t+width, to)) {
				v := m.values[c]
				if c.series != series {
					continue
				}
				if b.Count == 0 {
					b.Min, b.Max = v, v
				}
				b = api.Bucket{T: t, Count: b.Count + 1, Sum: b.Sum + v, Min: min(b.Min, v), Max: max(b.Max, v), Last: v}
			}
			if b.Count > 0 {
				fmt.Fprintln(&out, series, b)
			}
		}
	}
	return out.String()
}

func (m *model) allSeries() []string {
	var out []string
	for c := range m.values {
		out = append(out, c.series)
	}
	slices.Sort(out)
	return slices.Compact(out)
}

// shown is all that there is, as a text.
func (m *model) shown() string {
	var out strings.Builder
	fmt.Fprintln(&out, m.low)
	out.WriteString(m.query("", -1<<60, 1<<60))
	for _, kind := range slices.Sorted(maps.Keys(m.notes)) {
		fmt.Fprintln(&out, kind, m.notes[kind])
	}
	return out.String()
}

// asModel is all that a database tells, as the model shows it.
func asModel(b *DB) string {
	var out strings.Builder
	fmt.Fprintln(&out, b.Low())
	out.WriteString(asQuery(b, nil, -1<<60, 1<<60))
	for _, n := range b.Notes() {
		fmt.Fprintln(&out, n.Kind, string(n.Bytes))
	}
	return out.String()
}

func asQuery(b *DB, m []api.Match, from, to int) string {
	var out strings.Builder
	l, _ := b.Query(m, from, to)
	for _, s := range l {
		for _, x := range s.Samples {
			fmt.Fprintln(&out, named(s.Labels), x.T, x.V)
		}
	}
	return out.String()
}

func asRoll(b *DB, m []api.Match, from, to, width int) string {
	var out strings.Builder
	l, w, _ := b.Roll(m, from, to, width)
	for i, s := range l {
		for _, x := range w[i] {
			fmt.Fprintln(&out, named(s.Labels), x)
		}
	}
	return out.String()
}

// player plays calls on a database and on the model, with misfortunes.
type player struct {
	t    *testing.T
	r    *rand.Rand
	d    *disk.Disk
	b    *DB
	m    *model
	cfg  api.Config
	time int // about which samples are written
}

func (p *player) row() api.Row {
	l := []api.Label{{Name: "a", Value: string(rune('a' + p.r.Intn(4)))}}
	if p.r.Intn(2) == 0 {
		l = append(l, api.Label{Name: "b", Value: string(rune('p' + p.r.Intn(2)))})
	}
	if p.r.Intn(2) == 0 {
		slices.Reverse(l)
	}
	t := p.time - p.r.Intn(p.cfg.Window+3)
	switch p.r.Intn(150) {
	case 0:
		l = nil
	case 1:
		l[0].Value = ""
	case 2:
		t = []int{1<<53 + 1, -1<<53 - 1, -1 << 53, p.m.low, p.m.low - 1}[p.r.Intn(5)]
	}
	return api.Row{Labels: l, Sample: api.Sample{T: t, V: p.r.Intn(100) - 50}}
}

// call does one call, and tells what it answered, what the model would, and the model behind it.
func (p *player) call() (api.Errno, api.Errno, *model) {
	next := p.m.copied()
	switch p.r.Intn(16) {
	case 0:
		return p.b.Flush(), api.OK, next
	case 1:
		return p.b.Compact(), api.OK, next
	case 2:
		low := p.time - p.r.Intn(60)
		if p.r.Intn(30) == 0 {
			low = []int{1<<53 + 1, -1<<53 - 1, -1 << 53}[p.r.Intn(3)]
		}
		return p.b.Retain(low), next.retain(low), next
	case 3, 4, 5:
		kind := 1 + p.r.Intn(4)
		if p.r.Intn(20) == 0 {
			kind = []int{0, 256, 255, -1}[p.r.Intn(4)]
		}
		s := strings.Repeat(string(rune('a'+p.r.Intn(26))), p.r.Intn(40)*p.r.Intn(40))
		return p.b.Note(kind, []byte(s)), next.note(kind, s), next
	}
	p.time += p.r.Intn(3)
	var rows []api.Row
	for range p.r.Intn(8) {
		rows = append(rows, p.row())
	}
	return p.b.Write(rows), next.write(rows, p.cfg.Window), next
}

// ask holds what the database tells against the model.
func (p *player) ask() {
	word, m := "", []api.Match(nil)
	if p.r.Intn(2) == 0 {
		word = "a=" + string(rune('a'+p.r.Intn(5)))
		m = []api.Match{{Kind: api.MEqual, Name: "a", Value: word[2:]}}
	}
	from := p.time - p.r.Intn(50)
	to := from + p.r.Intn(60) - 5
	check(p.t, "P2003", "Query", asQuery(p.b, m, from, to), p.m.query(word, from, to))
	width := 1 + p.r.Intn(20)
	check(p.t, "P2003", "Roll", asRoll(p.b, m, from, to, width), p.m.roll(word, from, to, width))
	l := p.row().Labels
	newest, there := p.b.Newest(l)
	want, wanted := p.m.newest(named(l))
	check(p.t, "P2003", "Newest", newest, want)
	check(p.t, "P2003", "Newest", there, wanted)
}

// misfortune lays a fuse or a fault, or none.
func (p *player) misfortune(often int) {
	switch p.r.Intn(often) {
	case 0:
		p.d.Fuse(p.r.Intn(25))
	case 1:
		p.d.Fault(p.r.Intn(25))
	}
}

func (p *player) anyKeep() []int {
	keep := make([]int, p.r.Intn(12))
	for i := range keep {
		keep[i] = [...]int{0, 1, p.r.Intn(20), p.r.Intn(3000), 1 << 20, 1<<20 + 1, -p.r.Intn(9)}[p.r.Intn(7)]
	}
	return keep
}

// reopen opens the database anew, through what faults and crashes there are, with another Hold and window; what it tells must be the model's, or that of the call in doubt.
func (p *player) reopen(doubt *model) {
	p.cfg.Hold = []int{1, 2, 5, 20, 1000}[p.r.Intn(5)]
	p.cfg.Window = p.r.Intn(15)
	for {
		if !p.d.On() || p.r.Intn(2) == 0 {
			p.d.Crash(p.anyKeep())
		}
		p.misfortune(5)
		b, errno := Open(p.d, p.cfg)
		if errno != api.OK {
			check(p.t, "P2001", "Open", errno == api.ErrOff || errno == api.ErrIO, true)
			continue
		}
		p.b = b
		break
	}
	switch told := asModel(p.b); told {
	case p.m.shown():
	case doubt.shown():
		p.m = doubt
	default:
		p.t.Fatalf("P2004: told %s\nneither %s\nnor %s", told, p.m.shown(), doubt.shown())
	}
}

// TestP2004Model plays calls, faults and crashes in any order against the model.
func TestP2004Model(t *testing.T) {
	for round := range 150 {
		r := rand.New(rand.NewSource(int64(round)))
		p := &player{t: t, r: r, d: disk.New(1 << 22), m: newModel(), time: r.Intn(200) - 100}
		p.reopen(p.m)
		for range 80 {
			p.misfortune(12)
			errno, want, next := p.call()
			switch {
			case errno == want:
				check(t, "P2002", "Dead", p.b.Dead(), false)
				if errno == api.OK {
					p.m = next
				}
			case errno == api.ErrOff || errno == api.ErrIO:
				check(t, "P2002", "an error that is no disk's is told first", want, api.OK)
				check(t, "P2003", "of a dead database", asModel(p.b), p.m.shown())
				p.ask()
				check(t, "P2002", "Dead", p.b.Dead(), true)
				p.reopen(next)
			default:
				t.Fatalf("P2002: round %d: %v, want %v", round, errno, want)
			}
			p.ask()
			if r.Intn(15) == 0 {
				p.reopen(p.m)
			}
		}
		check(t, "P2005", "at the end", asModel(p.b), p.m.shown())
	}
}
