package db

import (
	"fmt"
	"math"
	"math/rand"
	"slices"
	"testing"

	"lysimeter/api"
	"lysimeter/disk"
	"lysimeter/merge"
)

// laid lays a block of level 0 down, as a flush would that has these samples of one series.
func laid(b *DB, l []api.Sample) {
	b.commit(b.added(b.left(), []api.Series{{Labels: of("a", "a"), Samples: l}}))
}

// badly is samples that pack badly, but for the first ten: so many, and the times of those ten are the same in all.
func badly(r *rand.Rand, count int) []api.Sample {
	l := make([]api.Sample, count)
	for i := range l {
		l[i] = api.Sample{T: i, V: r.Int() - r.Int()}
		if i >= 10 {
			l[i].T = l[i-1].T + 1 + r.Intn(1<<20)
		}
	}
	return l
}

// levels is the levels of all blocks, the oldest first.
func levels(b *DB) []int {
	var out []int
	for _, id := range b.byAge() {
		out = append(out, b.level(id))
	}
	return out
}

// TestTooLong puts blocks together that make more than one file holds: the first three of four fit, and the other one moves up alone, so that small ones behind it are put together still.
func TestTooLong(t *testing.T) {
	r := rand.New(rand.NewSource(20))
	d := disk.New(api.MaxQuota)
	b := opened(t, "P2002", d, api.Config{})
	var want [][]api.Sample
	for range 4 {
		l := badly(r, 280_000)
		want = append(want, l)
		laid(b, l)
	}
	all(t, b.Compact())
	check(t, "P2002", "three fit", fmt.Sprint(levels(b)), "[1 0]")
	for i := range 20 {
		own := []api.Sample{{T: want[0][i].T, V: -i}}
		want = append(want, own)
		laid(b, own)
		all(t, b.Compact())
	}
	check(t, "P2002", "small ones behind them", fmt.Sprint(levels(b)), "[2 2 1 0]")
	b = opened(t, "P2005", d, api.Config{})
	check(t, "P2005", "what was put together", slices.Equal(b.samples.Samples(of("a", "a")), merge.Samples(want)), true)
}

// TestP2002Hold: samples that pack well as they are written may pack badly with those in between them. However many a head is to hold, what is flushed goes into one file.
func TestP2002Hold(t *testing.T) {
	r := rand.New(rand.NewSource(21))
	b := opened(t, "P2002", disk.New(api.MaxQuota), api.Config{Window: api.MaxTime, Hold: math.MaxInt})
	const series, batches, step = 50, 7000, 1 << 44
	for i := range batches {
		from, v := r.Intn(step), r.Int()-r.Int()
		rows := make([]api.Row, api.MaxBatch)
		for at := range rows {
			rows[at] = row(string(rune('A'+i%series)), from+at*step, v)
		}
		if errno := b.Write(rows); errno != api.OK {
			t.Fatalf("P2002: batch %d: %v", i, errno)
		}
	}
	all(t, b.Flush())
}
