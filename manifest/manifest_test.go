package manifest

import (
	"fmt"
	"math"
	"math/rand"
	"slices"
	"strconv"
	"testing"

	"lysimeter/api"
)

func check[T comparable](t *testing.T, promise, name string, got, want T) {
	t.Helper()
	if got != want {
		t.Errorf("%s: %s: %#v, want %#v", promise, name, got, want)
	}
}

func checkList[T comparable](t *testing.T, promise, name string, got, want []T) {
	t.Helper()
	if !slices.Equal(got, want) {
		t.Errorf("%s: %s: %#v, want %#v", promise, name, got, want)
	}
}

// shown is a manifest as a text, which a nil list and an empty one have alike.
func shown(m api.Manifest) string {
	return fmt.Sprint(m.Next, m.Log, m.Low, m.Blocks)
}

// some is a manifest that can be.
func some() api.Manifest {
	return api.Manifest{Next: 9, Log: 3, Low: -4, Blocks: []api.Ref{{Id: 2, Level: 0, From: 0, To: 5}, {Id: 3, Level: 1, From: -9, To: 1}, {Id: 5, Level: 20, From: 7, To: 8}, {Id: 8, Level: 0, From: -3, To: 300}}}
}

// least and most are manifests all of whose numbers are as low, as high as can be.
func least() api.Manifest {
	return api.Manifest{Next: 2, Log: 1, Low: -api.MaxTime, Blocks: []api.Ref{{Id: 1, Level: 0, From: -api.MaxTime, To: -api.MaxTime + 1}}}
}

func most() api.Manifest {
	return api.Manifest{Next: 1 << 40, Log: 1 << 40, Low: api.MaxTime + 1, Blocks: []api.Ref{{Id: 1<<40 - 1, Level: 20, From: api.MaxTime, To: api.MaxTime + 1}}}
}

// rising is a manifest of n blocks, with the Ids from 1 on.
func rising(n int) api.Manifest {
	m := api.Manifest{Next: n + 1, Log: 1}
	for i := range n {
		m.Blocks = append(m.Blocks, api.Ref{Id: i + 1, Level: i % 21, From: -i, To: i + 1})
	}
	return m
}

// leveled is a manifest of blocks of these levels, with every second Id.
func leveled(levels ...int) api.Manifest {
	m := api.Manifest{Next: 2*len(levels) + 2, Log: 1}
	for i, level := range levels {
		m.Blocks = append(m.Blocks, api.Ref{Id: 2*i + 1, Level: level, To: 1})
	}
	return m
}

// but is some manifest with something changed.
func but(change func(m *api.Manifest)) api.Manifest {
	m := some()
	change(&m)
	return m
}

// badNumbers are manifests that ErrArg is told of.
func badNumbers() map[string]api.Manifest {
	out := map[string]api.Manifest{
		"nothing at all":            {},
		"no Next":                   {Log: 1},
		"no Log":                    {Next: 1},
		"an Id twice":               but(func(m *api.Manifest) { m.Blocks[1].Id = 2 }),
		"an Id that falls":          but(func(m *api.Manifest) { m.Blocks[1].Id = 1 }),
		"an Id that falls, later":   but(func(m *api.Manifest) { m.Blocks[3].Id = 4 }),
		"an Id below one further":   but(func(m *api.Manifest) { m.Blocks[0].Id = 3 }),
		"an Id above all behind":    but(func(m *api.Manifest) { m.Blocks[0].Id = 9 }),
		"an Id that is Next":        but(func(m *api.Manifest) { m.Blocks[3].Id = 9 }),
		"an Id above Next":          but(func(m *api.Manifest) { m.Blocks[3].Id = 10 }),
		"an Id far above Next":      but(func(m *api.Manifest) { m.Blocks[3].Id = math.MaxInt }),
		"Next that is an Id":        but(func(m *api.Manifest) { m.Next = 8 }),
		"Next below all Ids":        but(func(m *api.Manifest) { m.Next = 1 }),
		"the only Id is Next":       {Next: 1, Log: 1, Blocks: []api.Ref{{Id: 1, To: 1}}},
		"blocks that fall":          but(func(m *api.Manifest) { slices.Reverse(m.Blocks) }),
		"empty blocks":              but(func(m *api.Manifest) { m.Blocks = make([]api.Ref, 3) }),
		"as many empty as can be":   but(func(m *api.Manifest) { m.Blocks = make([]api.Ref, api.MaxBlocks) }),
		"the last of as many":       many(func(x *api.Ref) { x.Level = 21 }),
		"the last Id of as many":    many(func(x *api.Ref) { x.Id = 199 }),
		"the last of as many, late": many(func(x *api.Ref) { x.Id = 201 }),
	}
	for _, n := range []int{0, -1, math.MinInt, 1<<40 + 1, 1 << 41, math.MaxInt, 1 << 62} {
		out["Next "+strconv.Itoa(n)] = but(func(m *api.Manifest) { m.Next = n })
		out["Next without blocks "+strconv.Itoa(n)] = but(func(m *api.Manifest) { m.Next, m.Blocks = n, nil })
		out["Log "+strconv.Itoa(n)] = but(func(m *api.Manifest) { m.Log = n })
		out["Log without blocks "+strconv.Itoa(n)] = but(func(m *api.Manifest) { m.Log, m.Blocks = n, nil })
	}
	for _, n := range []int{0, -1, -2, math.MinInt} {
		out["the first Id "+strconv.Itoa(n)] = but(func(m *api.Manifest) { m.Blocks[0].Id = n })
		out["another Id "+strconv.Itoa(n)] = but(func(m *api.Manifest) { m.Blocks[2].Id = n })
	}
	for _, n := range []int{-1, 21, 22, 256, 1 << 32, math.MinInt, math.MaxInt} {
		for i := range some().Blocks {
			out[fmt.Sprintf("Level %d of %d", n, i)] = but(func(m *api.Manifest) { m.Blocks[i].Level = n })
		}
	}
	return out
}

// many is a manifest of as many blocks as can be, the last of which is changed.
func many(change func(x *api.Ref)) api.Manifest {
	m := rising(api.MaxBlocks)
	change(&m.Blocks[api.MaxBlocks-1])
	return m
}

// badTimes are manifests that ErrTime is told of.
func badTimes() map[string]api.Manifest {
	out := map[string]api.Manifest{
		"the last of as many": many(func(x *api.Ref) { x.To = x.From }),
	}
	for _, n := range []int{math.MinInt, -api.MaxTime - 2, -api.MaxTime - 1, api.MaxTime + 2, api.MaxTime + 3, math.MaxInt} {
		out["Low "+strconv.Itoa(n)] = but(func(m *api.Manifest) { m.Low = n })
		out["Low without blocks "+strconv.Itoa(n)] = but(func(m *api.Manifest) { m.Low, m.Blocks = n, nil })
		for i := range some().Blocks {
			out[fmt.Sprintf("From %d of %d", n, i)] = but(func(m *api.Manifest) { m.Blocks[i].From = n })
			out[fmt.Sprintf("To %d of %d", n, i)] = but(func(m *api.Manifest) { m.Blocks[i].To = n })
			out[fmt.Sprintf("both %d of %d", n, i)] = but(func(m *api.Manifest) { m.Blocks[i].From, m.Blocks[i].To = n-1, n })
		}
	}
	for i := range some().Blocks {
		for _, n := range []int{-api.MaxTime, -1, 0, 1, api.MaxTime + 1} {
			out[fmt.Sprintf("From is To %d of %d", n, i)] = but(func(m *api.Manifest) { m.Blocks[i].From, m.Blocks[i].To = n, n })
		}
		out[fmt.Sprintf("From above To of %d", i)] = but(func(m *api.Manifest) { x := &m.Blocks[i]; x.From, x.To = x.To, x.From })
		out[fmt.Sprintf("From far above To of %d", i)] = but(func(m *api.Manifest) { m.Blocks[i].From, m.Blocks[i].To = api.MaxTime+1, -api.MaxTime })
	}
	return out
}

// tooMany are manifests that ErrLong is told of.
func tooMany() map[string]api.Manifest {
	return map[string]api.Manifest{
		"one too many":              rising(api.MaxBlocks + 1),
		"one too many, empty":       but(func(m *api.Manifest) { m.Blocks = make([]api.Ref, api.MaxBlocks+1) }),
		"one too many, and no Next": {Blocks: make([]api.Ref, api.MaxBlocks+1)},
		"one too many, bad Low":     {Low: math.MaxInt, Blocks: rising(api.MaxBlocks + 1).Blocks},
		"far too many":              rising(5 * api.MaxBlocks),
	}
}

// bad are manifests that can't be, with what is told of each.
func bad() map[api.Errno]map[string]api.Manifest {
	return map[api.Errno]map[string]api.Manifest{api.ErrLong: tooMany(), api.ErrArg: badNumbers(), api.ErrTime: badTimes()}
}

// refusedBy checks what Add or Swap answers beside an error.
func refusedBy(t *testing.T, promise, name string, m api.Manifest, id int, errno, want api.Errno) {
	t.Helper()
	check(t, promise, name, errno, want)
	check(t, promise, name+": Id", id, 0)
	if m.Blocks != nil || m.Next != 0 || m.Log != 0 || m.Low != 0 {
		t.Errorf("%s: %s: a manifest beside an error: %v", promise, name, m)
	}
}

// refusedByAll checks that no call takes the manifest.
func refusedByAll(t *testing.T, name string, m api.Manifest, want api.Errno) {
	t.Helper()
	check(t, "P1701", name, Check(m), want)
	b, errno := Pack(m)
	check(t, "P1702", name+": Pack", errno, want)
	if b != nil {
		t.Errorf("P1702: %s: bytes beside an error", name)
	}
	check(t, "P1703", name+": Pick", len(Pick(m)), 0)
	for _, each := range []struct{ level, from, to int }{{0, 0, 1}, {21, 0, 1}, {0, 1, 1}, {-1, 5, 4}} {
		x, id, errno := Add(m, each.level, each.from, each.to)
		refusedBy(t, "P1703", name+": Add", x, id, errno, want)
		for _, ids := range [][]int{nil, {2}, {2, 2}, {2, 3}, {77}} {
			x, id, errno = Swap(m, ids, each.level, each.from, each.to)
			refusedBy(t, "P1703", name+": Swap", x, id, errno, want)
		}
	}
}

func TestP1701CheckTakes(t *testing.T) {
	for name, m := range map[string]api.Manifest{
		"no blocks":           {Next: 1, Log: 1},
		"an empty list":       {Next: 1, Log: 1, Blocks: []api.Ref{}},
		"no blocks, far":      {Next: 1 << 40, Log: 1 << 40, Low: api.MaxTime + 1},
		"no blocks, far down": {Next: 1, Log: 1, Low: -api.MaxTime},
		"some":                some(),
		"the least":           least(),
		"the most":            most(),
		"a great span":        but(func(m *api.Manifest) { m.Blocks[1].From, m.Blocks[1].To = -api.MaxTime, api.MaxTime+1 }),
		"Ids next to each":    rising(5),
		"as many as can be":   rising(api.MaxBlocks),
		"Next far above":      but(func(m *api.Manifest) { m.Next = 1 << 40 }),
		"Low above all":       but(func(m *api.Manifest) { m.Low = 1000 }),
		"times that fall":     but(func(m *api.Manifest) { m.Blocks[3].From, m.Blocks[3].To = -100, -99 }),
		"the same times":      leveled(0, 1, 2),
		"levels that fall":    leveled(20, 3, 0),
	} {
		check(t, "P1701", name, Check(m), api.OK)
	}
}

func TestP1701CheckRefuses(t *testing.T) {
	for want, all := range bad() {
		for name, m := range all {
			refusedByAll(t, name, m, want)
		}
	}
}

// ErrArg comes ahead of ErrTime, whichever block it is told of.
func TestP1701CheckOrder(t *testing.T) {
	for name, wrong := range badNumbers() {
		for i := range len(wrong.Blocks) + 1 {
			m := wrong
			m.Blocks = slices.Clone(m.Blocks)
			m.Low = math.MinInt
			if i < len(m.Blocks) {
				m.Low = 0
				m.Blocks[i].To = m.Blocks[i].From
			}
			check(t, "P1701", fmt.Sprintf("%s, and a bad time at %d", name, i), Check(m), api.ErrArg)
		}
	}
	long := rising(api.MaxBlocks + 1)
	long.Blocks[0].To, long.Low = math.MinInt, math.MaxInt
	check(t, "P1701", "too many, and bad times", Check(long), api.ErrLong)
	long.Log, long.Blocks[7].Level = -1, 30
	check(t, "P1701", "too many, and all is bad", Check(long), api.ErrLong)
}

// plainCheck is Check by its words, one after the other.
func plainCheck(m api.Manifest) api.Errno {
	if len(m.Blocks) > 200 {
		return api.ErrLong
	}
	for _, n := range []int{m.Next, m.Log} {
		if n < 1 || n > 1<<40 {
			return api.ErrArg
		}
	}
	for i := range m.Blocks {
		if m.Blocks[i].Id < 1 || i > 0 && m.Blocks[i].Id <= m.Blocks[i-1].Id || m.Blocks[i].Id >= m.Next {
			return api.ErrArg
		}
		if m.Blocks[i].Level < 0 || m.Blocks[i].Level > 20 {
			return api.ErrArg
		}
	}
	times := []int{m.Low}
	for _, x := range m.Blocks {
		times = append(times, x.From, x.To)
		if x.From >= x.To {
			return api.ErrTime
		}
	}
	if slices.Min(times) < -1<<53 || slices.Max(times) > 1<<53+1 {
		return api.ErrTime
	}
	return api.OK
}

// anyManifest is some manifest that can be.
func anyManifest(dice *rand.Rand) api.Manifest {
	m := api.Manifest{Next: 1, Log: 1 + dice.Intn(1<<dice.Intn(41)), Low: far(dice)}
	for range dice.Intn(3) * dice.Intn(9) {
		m.Next += dice.Intn(3) * dice.Intn(1<<dice.Intn(30))
		from, to := far(dice), far(dice)
		m.Blocks = append(m.Blocks, api.Ref{Id: m.Next, Level: dice.Intn(2) * dice.Intn(21), From: min(from, to), To: max(from, to) + 1})
		m.Next++
	}
	m.Next += dice.Intn(2) * dice.Intn(5)
	return m
}

// far is some time of a sample.
func far(dice *rand.Rand) int {
	return (dice.Intn(1<<dice.Intn(54)) + dice.Intn(2)) * (1 - 2*dice.Intn(2))
}

// turn may make something of a manifest wrong.
func turn(dice *rand.Rand, m *api.Manifest) {
	edges := []int{math.MinInt, -api.MaxTime - 1, -api.MaxTime, -1, 0, 1, 2, 20, 21, 1 << 40, 1<<40 + 1, api.MaxTime, api.MaxTime + 1, api.MaxTime + 2, math.MaxInt}
	edge := edges[dice.Intn(len(edges))]
	own := []*int{&m.Next, &m.Log, &m.Low}
	if len(m.Blocks) > 0 {
		x := &m.Blocks[dice.Intn(len(m.Blocks))]
		y := &m.Blocks[dice.Intn(len(m.Blocks))]
		own = append(own, &x.Id, &x.Level, &x.From, &x.To)
		switch dice.Intn(6) {
		case 0:
			*x, *y = *y, *x
		case 1:
			x.Id = y.Id + 1
		case 2:
			x.From = x.To - dice.Intn(3) + 1
		}
	}
	if dice.Intn(2) == 0 {
		*own[dice.Intn(len(own))] = edge
	}
}

func TestP1701CheckOfAnyManifest(t *testing.T) {
	dice := rand.New(rand.NewSource(1701))
	counts := map[api.Errno]int{}
	for range 50000 {
		m := anyManifest(dice)
		check(t, "P1701", "can be: "+shown(m), Check(m), api.OK)
		for range dice.Intn(4) {
			turn(dice, &m)
		}
		errno := Check(m)
		counts[errno]++
		check(t, "P1701", shown(m), errno, plainCheck(m))
	}
	for _, errno := range []api.Errno{api.OK, api.ErrArg, api.ErrTime} {
		check(t, "P1701", fmt.Sprintf("%v has come often", errno), counts[errno] > 1000, true)
	}
}

func TestP1703Add(t *testing.T) {
	m, id, errno := Add(some(), 4, 1, 2)
	check(t, "P1703", "Add", errno, api.OK)
	check(t, "P1703", "Add: Id", id, 9)
	want := some()
	want.Next = 10
	want.Blocks = append(want.Blocks, api.Ref{Id: 9, Level: 4, From: 1, To: 2})
	check(t, "P1703", "Add", shown(m), shown(want))

	m, id, errno = Add(api.Manifest{Next: 1, Log: 7, Low: 3}, 20, -api.MaxTime, api.MaxTime+1)
	check(t, "P1703", "the first", errno, api.OK)
	check(t, "P1703", "the first: Id", id, 1)
	check(t, "P1703", "the first", shown(m), shown(api.Manifest{Next: 2, Log: 7, Low: 3, Blocks: []api.Ref{{Id: 1, Level: 20, From: -api.MaxTime, To: api.MaxTime + 1}}}))

	m, id, errno = Add(api.Manifest{Next: 50, Log: 1}, 0, 5, 6)
	check(t, "P1703", "Ids that were are not told again", errno, api.OK)
	check(t, "P1703", "Ids that were are not told again: Id", id, 50)
	check(t, "P1703", "Ids that were are not told again", shown(m), shown(api.Manifest{Next: 51, Log: 1, Blocks: []api.Ref{{Id: 50, From: 5, To: 6}}}))
}

// wrongBlocks are levels and times that no block has.
func wrongBlocks() map[string]struct {
	level, from, to int
	want            api.Errno
} {
	return map[string]struct {
		level, from, to int
		want            api.Errno
	}{
		"a level below 0":         {-1, 0, 1, api.ErrArg},
		"a level above 20":        {21, 0, 1, api.ErrArg},
		"the least level":         {math.MinInt, 0, 1, api.ErrArg},
		"the greatest level":      {math.MaxInt, 0, 1, api.ErrArg},
		"level ahead of times":    {21, 1, 0, api.ErrArg},
		"no time":                 {0, 2, 2, api.ErrTime},
		"times that fall":         {0, 2, 1, api.ErrTime},
		"too early":               {0, -api.MaxTime - 1, 0, api.ErrTime},
		"too late":                {0, 0, api.MaxTime + 2, api.ErrTime},
		"all too late":            {0, api.MaxTime + 1, api.MaxTime + 2, api.ErrTime},
		"all too early":           {0, -api.MaxTime - 2, -api.MaxTime - 1, api.ErrTime},
		"the least int":           {0, math.MinInt, 0, api.ErrTime},
		"the greatest int":        {0, 0, math.MaxInt, api.ErrTime},
		"from end to end":         {0, math.MinInt, math.MaxInt, api.ErrTime},
		"from end to end, around": {0, math.MaxInt, math.MinInt, api.ErrTime},
	}
}

func TestP1703AddRefuses(t *testing.T) {
	for name, c := range wrongBlocks() {
		for _, m := range []api.Manifest{some(), {Next: 1, Log: 1}} {
			x, id, errno := Add(m, c.level, c.from, c.to)
			refusedBy(t, "P1703", name, x, id, errno, c.want)
		}
		x, id, errno := Add(rising(api.MaxBlocks), c.level, c.from, c.to)
		refusedBy(t, "P1703", name+", and no room", x, id, errno, api.ErrLong)
		x, id, errno = Add(most(), c.level, c.from, c.to)
		refusedBy(t, "P1703", name+", and no Id", x, id, errno, api.ErrArg)
	}
	full, id, errno := Add(rising(api.MaxBlocks-1), 0, 0, 1)
	check(t, "P1703", "the last that can be", errno, api.OK)
	check(t, "P1703", "the last that can be: Id", id, api.MaxBlocks)
	full, id, errno = Add(full, 0, 0, 1)
	refusedBy(t, "P1703", "one more", full, id, errno, api.ErrLong)

	high := api.Manifest{Next: 1<<40 - 1, Log: 1}
	high, id, errno = Add(high, 0, 0, 1)
	check(t, "P1703", "the last Id", errno, api.OK)
	check(t, "P1703", "the last Id", id, 1<<40-1)
	check(t, "P1703", "the last Next", high.Next, 1<<40)
	high, id, errno = Add(high, 0, 0, 1)
	refusedBy(t, "P1703", "no further Id", high, id, errno, api.ErrArg)
	fullAndHigh := rising(api.MaxBlocks)
	fullAndHigh.Next = 1 << 40
	fullAndHigh, id, errno = Add(fullAndHigh, 0, 0, 1)
	refusedBy(t, "P1703", "no room, no further Id", fullAndHigh, id, errno, api.ErrLong)
}

func TestP1703Swap(t *testing.T) {
	for _, ids := range [][]int{{2}, {3}, {5}, {8}, {2, 3}, {8, 2}, {2, 8}, {3, 5, 2}, {8, 5, 3}, {2, 3, 5, 8}, {5, 8, 3, 2}} {
		m, id, errno := Swap(some(), ids, 6, -7, 70)
		name := fmt.Sprint(ids)
		check(t, "P1703", name, errno, api.OK)
		check(t, "P1703", name+": Id", id, 9)
		want := api.Manifest{Next: 10, Log: 3, Low: -4}
		for _, x := range some().Blocks {
			if !slices.Contains(ids, x.Id) {
				want.Blocks = append(want.Blocks, x)
			}
		}
		want.Blocks = append(want.Blocks, api.Ref{Id: 9, Level: 6, From: -7, To: 70})
		check(t, "P1703", name, shown(m), shown(want))
	}
	m, id, errno := Swap(rising(api.MaxBlocks), []int{100}, 1, 0, 1)
	check(t, "P1703", "as many as can be", errno, api.OK)
	check(t, "P1703", "as many as can be: Id", id, api.MaxBlocks+1)
	check(t, "P1703", "as many as can be", len(m.Blocks), api.MaxBlocks)
	m, _, errno = Swap(rising(api.MaxBlocks), numbers(api.MaxBlocks), 1, 0, 1)
	check(t, "P1703", "all of as many as can be", errno, api.OK)
	check(t, "P1703", "all of as many as can be", shown(m), shown(api.Manifest{Next: api.MaxBlocks + 2, Log: 1, Blocks: []api.Ref{{Id: api.MaxBlocks + 1, Level: 1, To: 1}}}))
}

// numbers is the numbers from 1 up to n.
func numbers(n int) []int {
	var out []int
	for i := range n {
		out = append(out, i+1)
	}
	return out
}

func TestP1703SwapRefuses(t *testing.T) {
	for i, c := range []struct {
		ids  []int
		want api.Errno
	}{
		{nil, api.ErrNone}, {[]int{}, api.ErrNone}, {[]int{1}, api.ErrNone}, {[]int{4}, api.ErrNone}, {[]int{6}, api.ErrNone}, {[]int{9}, api.ErrNone}, {[]int{10}, api.ErrNone}, {[]int{0}, api.ErrNone}, {[]int{-2}, api.ErrNone},
		{[]int{math.MinInt}, api.ErrNone}, {[]int{math.MaxInt}, api.ErrNone}, {[]int{1<<32 + 2}, api.ErrNone},
		{[]int{2, 4}, api.ErrNone}, {[]int{4, 2}, api.ErrNone}, {[]int{2, 3, 5, 8, 9}, api.ErrNone}, {[]int{7, 2, 3}, api.ErrNone},
		{[]int{4, 4}, api.ErrNone}, {[]int{2, 2, 4}, api.ErrNone}, {[]int{4, 2, 2}, api.ErrNone}, {[]int{2, 4, 2}, api.ErrNone}, {[]int{4, 4, 2}, api.ErrNone},
		{[]int{2, 2}, api.ErrArg}, {[]int{8, 8}, api.ErrArg}, {[]int{2, 3, 2}, api.ErrArg}, {[]int{8, 3, 5, 8}, api.ErrArg}, {[]int{2, 2, 2}, api.ErrArg}, {[]int{2, 3, 5, 8, 5}, api.ErrArg}, {[]int{2, 2, 3, 3, 5, 5, 8, 8}, api.ErrArg},
		{slices.Repeat([]int{3}, 1000), api.ErrArg}, {append(slices.Repeat([]int{3}, 1000), 1), api.ErrNone},
	} {
		m, id, errno := Swap(some(), c.ids, 6, -7, 70)
		refusedBy(t, "P1703", strconv.Itoa(i), m, id, errno, c.want)
		for name, w := range wrongBlocks() {
			m, id, errno := Swap(some(), c.ids, w.level, w.from, w.to)
			refusedBy(t, "P1703", strconv.Itoa(i)+", and "+name, m, id, errno, c.want)
		}
	}
	m, id, errno := Swap(api.Manifest{Next: 3, Log: 1}, []int{1}, 0, 0, 1)
	refusedBy(t, "P1703", "no blocks", m, id, errno, api.ErrNone)
	m, id, errno = Swap(api.Manifest{Next: 3, Log: 1}, nil, 0, 0, 1)
	refusedBy(t, "P1703", "no blocks, no ids", m, id, errno, api.ErrNone)
}

func TestP1703SwapRefusesWhatWouldBe(t *testing.T) {
	for name, c := range wrongBlocks() {
		for _, ids := range [][]int{{2}, {8, 3}, {2, 3, 5, 8}} {
			m, id, errno := Swap(some(), ids, c.level, c.from, c.to)
			refusedBy(t, "P1703", name, m, id, errno, c.want)
		}
		m, id, errno := Swap(rising(api.MaxBlocks), []int{1}, c.level, c.from, c.to)
		refusedBy(t, "P1703", name+", of as many as can be", m, id, errno, c.want)
	}
	m, id, errno := Swap(most(), []int{1<<40 - 1}, 0, 0, 1)
	refusedBy(t, "P1703", "no further Id", m, id, errno, api.ErrArg)
	m, id, errno = Swap(most(), []int{1}, 0, 0, 1)
	refusedBy(t, "P1703", "no further Id, and no block", m, id, errno, api.ErrNone)
}

func TestP1703Pick(t *testing.T) {
	for _, c := range []struct {
		levels, want []int
	}{
		{[]int{0, 0, 1, 0, 0}, []int{1, 3, 7, 9}},
		{nil, nil},
		{[]int{0, 0, 0}, nil},
		{[]int{0, 0, 0, 1, 1, 1, 2, 2, 2}, nil},
		{[]int{0, 0, 0, 0}, []int{1, 3, 5, 7}},
		{[]int{0, 0, 0, 0, 0}, []int{1, 3, 5, 7}},
		{[]int{0, 0, 0, 0, 0, 0, 0, 0, 0}, []int{1, 3, 5, 7}},
		{[]int{1, 1, 1, 1, 0, 0, 0, 0}, []int{9, 11, 13, 15}},
		{[]int{1, 1, 1, 1, 0, 0, 0}, []int{1, 3, 5, 7}},
		{[]int{2, 2, 2, 2, 2, 1, 1, 1, 1}, []int{11, 13, 15, 17}},
		{[]int{1, 1, 1, 1, 2, 2, 2, 2, 2}, []int{1, 3, 5, 7}},
		{[]int{20, 20, 20, 20}, []int{1, 3, 5, 7}},
		{[]int{20, 3, 20, 3, 20, 3, 20}, []int{1, 5, 9, 13}},
		{[]int{19, 20, 19, 20, 20, 19, 20, 19}, []int{1, 5, 11, 15}},
		{[]int{5, 4, 3, 2, 1, 0}, nil},
		{[]int{7, 0, 7, 0, 7, 0, 7}, []int{1, 5, 9, 13}},
	} {
		checkList(t, "P1703", fmt.Sprint(c.levels), Pick(leveled(c.levels...)), c.want)
	}
	checkList(t, "P1703", "as many as can be", Pick(rising(api.MaxBlocks)), []int{1, 22, 43, 64})
}

// plainPick is Pick by trying level after level.
func plainPick(m api.Manifest) []int {
	if plainCheck(m) != api.OK {
		return nil
	}
	for level := 0; level <= 20; level++ {
		var ids []int
		for _, x := range m.Blocks {
			if x.Level == level && len(ids) < 4 {
				ids = append(ids, x.Id)
			}
		}
		if len(ids) == 4 {
			return ids
		}
	}
	return nil
}

func TestP1703PickOfAnyManifest(t *testing.T) {
	dice := rand.New(rand.NewSource(1703))
	picked, none := 0, 0
	for range 20000 {
		var levels []int
		for range dice.Intn(20) {
			levels = append(levels, dice.Intn(6)*4)
		}
		m := leveled(levels...)
		if dice.Intn(4) == 0 {
			turn(dice, &m)
		}
		got := Pick(m)
		checkList(t, "P1703", shown(m), got, plainPick(m))
		if len(got) > 0 {
			picked++
		} else {
			none++
		}
	}
	check(t, "P1703", "both come often", picked > 1000 && none > 1000, true)
}

// TestP1703Plays holds Add and Swap, as they are called one after the other, against a plain list.
func TestP1703Plays(t *testing.T) {
	dice := rand.New(rand.NewSource(17))
	counts := map[api.Errno]int{}
	for range 300 {
		m := api.Manifest{Next: 1, Log: 2, Low: 3}
		plain := m
		for range 100 {
			level, from := dice.Intn(30)-4, far(dice)
			to := from + dice.Intn(5)
			var ids []int
			for range dice.Intn(4) {
				ids = append(ids, 1+dice.Intn(m.Next))
			}
			swap := dice.Intn(3) == 0
			want, errno := plainStep(plain, swap, ids, api.Ref{Id: plain.Next, Level: level, From: from, To: to})
			counts[errno]++
			var got api.Manifest
			var id int
			var told api.Errno
			if swap {
				got, id, told = Swap(m, ids, level, from, to)
			} else {
				got, id, told = Add(m, level, from, to)
			}
			if errno != api.OK {
				refusedBy(t, "P1703", "a play", got, id, told, errno)
				continue
			}
			check(t, "P1703", "a play", told, api.OK)
			check(t, "P1703", "a play: Id", id, plain.Next)
			check(t, "P1703", "a play", shown(got), shown(want))
			m, plain = got, want
		}
	}
	for _, errno := range []api.Errno{api.OK, api.ErrArg, api.ErrNone, api.ErrTime} {
		check(t, "P1703", fmt.Sprintf("%v has come often", errno), counts[errno] > 500, true)
	}
}

// plainStep is Add or Swap by the chapter's words.
func plainStep(m api.Manifest, swap bool, ids []int, x api.Ref) (api.Manifest, api.Errno) {
	out := api.Manifest{Next: m.Next + 1, Log: m.Log, Low: m.Low}
	has := map[int]bool{}
	for _, each := range m.Blocks {
		has[each.Id] = true
		if !swap || !slices.Contains(ids, each.Id) {
			out.Blocks = append(out.Blocks, each)
		}
	}
	if swap {
		if len(ids) == 0 || slices.ContainsFunc(ids, func(id int) bool { return !has[id] }) {
			return api.Manifest{}, api.ErrNone
		}
		for i, id := range ids {
			if slices.Contains(ids[:i], id) {
				return api.Manifest{}, api.ErrArg
			}
		}
	}
	out.Blocks = append(out.Blocks, x)
	return out, plainCheck(out)
}

func TestChapter17Examples(t *testing.T) {
	checkList(t, "example", "0 0 1 0 0", Pick(leveled(0, 0, 1, 0, 0)), []int{1, 3, 7, 9})
}
