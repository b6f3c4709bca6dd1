package disk

import (
	"fmt"
	"slices"
	"strings"
	"testing"

	"lysimeter/api"
)

// model is the chapter's disk anew, in the plainest way: directories are lists of rows, acts are rows, a file is a number.
type model struct {
	quota, steps     int
	on               bool
	fuse, fault      int // when the count of steps is there; below 0: none
	is, sure         []entry
	pending          []row
	contents, behind []string // by file: what is sure, the tail
}

type entry struct {
	name string
	file int
}

type row struct {
	kind, file int
	from, to   string
}

func with(dir []entry, name string, file int) []entry {
	return append(without(dir, name), entry{name, file})
}

func without(dir []entry, name string) []entry {
	var out []entry
	for _, e := range dir {
		if e.name != name {
			out = append(out, e)
		}
	}
	return out
}

func lookup(dir []entry, name string) int {
	for _, e := range dir {
		if e.name == name {
			return e.file
		}
	}
	return -1
}

func done(dir []entry, a row) []entry {
	file := lookup(dir, a.from)
	switch {
	case a.kind == 0:
		return with(dir, a.to, a.file)
	case file < 0:
		return dir
	case a.kind == 3:
		return with(without(dir, a.from), a.to, file)
	}
	return without(dir, a.from)
}

func (m *model) used() int {
	sum := 0
	for _, e := range m.is {
		sum += len(m.contents[e.file]) + len(m.behind[e.file])
	}
	return sum
}

func (m *model) own(o api.Op) api.Errno {
	file := lookup(m.is, o.Name)
	bad := func(name string) bool { return name == "" || len(name) > api.MaxName }
	switch {
	case o.Kind == 0 && bad(o.Name):
		return api.ErrArg
	case o.Kind == 0 && file >= 0:
		return api.ErrExist
	case o.Kind >= 1 && o.Kind <= 4 && file < 0:
		return api.ErrNone
	case o.Kind == 3 && bad(o.To):
		return api.ErrArg
	case o.Kind == 1 && len(m.contents[file])+len(m.behind[file])+len(o.Bytes) > api.MaxFile:
		return api.ErrLong
	case o.Kind == 1 && m.used()+len(o.Bytes) > m.quota:
		return api.ErrFull
	}
	return api.OK
}

func (m *model) do(o api.Op) api.Errno {
	if o.Kind < 0 || o.Kind > 5 {
		return api.ErrArg
	}
	if m.on && m.fuse >= 0 && m.steps >= m.fuse {
		m.on = false
	}
	if !m.on {
		return api.ErrOff
	}
	if e := m.own(o); e != api.OK {
		return e
	}
	if m.fault >= 0 && m.steps >= m.fault {
		m.fault = -1
		return api.ErrIO
	}
	m.steps++
	file := lookup(m.is, o.Name)
	switch o.Kind {
	case 0:
		m.contents, m.behind = append(m.contents, ""), append(m.behind, "")
		m.act(row{kind: 0, file: len(m.contents) - 1, to: o.Name})
	case 1:
		m.behind[file] += string(o.Bytes)
	case 2:
		m.contents[file], m.behind[file] = m.contents[file]+m.behind[file], ""
	case 3, 4:
		m.act(row{kind: o.Kind, from: o.Name, to: o.To})
	case 5:
		m.sure, m.pending = slices.Clone(m.is), nil
	}
	return api.OK
}

func (m *model) act(a row) {
	m.is = done(m.is, a)
	m.pending = append(m.pending, a)
}

func (m *model) lay(n int) int {
	if n < 0 {
		return -1
	}
	return m.steps + n
}

func (m *model) crash(keep []int) {
	at := 0
	next := func() int {
		at++
		if at > len(keep) {
			return 0
		}
		return keep[at-1]
	}
	m.on, m.fuse, m.fault = true, -1, -1
	for _, a := range m.pending {
		if next()&1 == 1 {
			m.sure = done(m.sure, a)
		}
	}
	m.is, m.pending = slices.Clone(m.sure), nil
	for _, name := range m.list() {
		file := lookup(m.is, name)
		if m.behind[file] == "" {
			continue
		}
		stay := min(max(next(), 0), len(m.behind[file]))
		turn := next()&1 == 1
		first := len(m.contents[file])
		for i := range stay {
			c := m.behind[file][i]
			if turn && (first+i)/512 == (first+stay-1)/512 {
				c ^= 165
			}
			m.contents[file] += string([]byte{c})
		}
		m.behind[file] = ""
	}
}

func (m *model) list() []string {
	var out []string
	for _, e := range m.is {
		out = append(out, e.name)
	}
	slices.Sort(out)
	return out
}

// shown tells what the package's shown tells of a disk.
func (m *model) shown() string {
	var out strings.Builder
	for _, name := range m.list() {
		if file := lookup(m.is, name); m.on {
			fmt.Fprintf(&out, "%s=%s%s(0) ", name, m.contents[file], m.behind[file])
		}
	}
	fmt.Fprintf(&out, "room %d steps %d on %v", m.quota-m.used(), m.steps, m.on)
	return out.String()
}

// dice fall the same way in each run.
type dice struct{ state uint64 }

func (r *dice) below(n int) int {
	r.state ^= r.state << 13
	r.state ^= r.state >> 7
	r.state ^= r.state << 17
	return int((r.state >> 16) % uint64(n))
}

func someOp(r *dice) api.Op {
	names := []string{"a", "b", "c", "d", "a", "b", "c", "", strings.Repeat("x", 60), strings.Repeat("x", 61)}
	o := api.Op{Kind: r.below(6), Name: names[r.below(len(names))], To: names[r.below(len(names))]}
	if r.below(40) == 0 {
		o.Kind = r.below(20) - 10
	}
	if r.below(3) == 0 {
		o.Kind = 1
	}
	o.Bytes = make([]byte, []int{r.below(4), r.below(600), 512}[r.below(3)])
	for i := range o.Bytes {
		o.Bytes[i] = byte(r.below(256))
	}
	return o
}

func someKeep(r *dice) []int {
	keep := make([]int, r.below(20))
	for i := range keep {
		keep[i] = r.below(6) - 2
		if r.below(3) == 0 {
			keep[i] = r.below(1200)
		}
	}
	return keep
}

// play does something to both, and tells what a step answered.
func play(r *dice, d *Disk, m *model) (got, want api.Errno) {
	switch r.below(30) {
	case 0:
		n := r.below(12) - 3
		d.Fuse(n)
		m.fuse = m.lay(n)
	case 1:
		n := r.below(8) - 3
		d.Fault(n)
		m.fault = m.lay(n)
	case 2:
		keep := someKeep(r)
		d.Crash(keep)
		m.crash(keep)
	default:
		o := someOp(r)
		if o.Kind >= 0 && o.Kind <= 5 && r.below(2) == 0 {
			return call(d, o), m.do(o)
		}
		return d.Do(o), m.do(o)
	}
	return api.OK, api.OK
}

func TestModel(t *testing.T) {
	for seed := range uint64(400) {
		r := &dice{state: 88172645463325252 + seed<<20}
		quota := []int{0, 700, 3000, 1 << 20}[r.below(4)]
		d := New(quota)
		m := &model{quota: quota, on: true, fuse: -1, fault: -1}
		for i := range 300 {
			got, want := play(r, d, m)
			if got != want {
				t.Fatalf("P301, P302: seed %d, call %d: %v, want %v", seed, i, got, want)
			}
			if got, want := shown(d), m.shown(); got != want {
				t.Fatalf("P301 to P304: seed %d, call %d: %q, want %q", seed, i, got, want)
			}
		}
	}
}
