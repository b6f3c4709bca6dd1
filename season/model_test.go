package season

import (
	"math/big"
	"math/rand"
	"slices"
	"testing"

	"lysimeter/api"
)

// plainCast is the cast in another way: seasons are laid one behind the other until the point is there.
func plainCast(l []int, season, ahead int) (int, api.Errno) {
	if season < 1 || season > api.MaxPoints || ahead < 1 || ahead > api.MaxPoints || len(l) < season {
		return 0, api.ErrArg
	}
	l = slices.Clone(l)
	at := len(l) + ahead
	for len(l) < at {
		l = append(l, l[len(l)-season])
	}
	return l[at-1], api.OK
}

// plainMiss is the sum in another way: by casts of the points ahead of each, and numbers of any size.
func plainMiss(l []int, season, last int) (int, api.Errno) {
	sum := new(big.Int)
	if last < 1 || last > len(l) {
		return 0, api.ErrArg
	}
	for i := range last {
		at := len(l) - 1 - i
		cast, errno := plainCast(l[:at], season, 1)
		if errno != api.OK {
			return 0, errno
		}
		miss := new(big.Int).Sub(big.NewInt(int64(l[at])), big.NewInt(int64(cast)))
		sum.Add(sum, miss.Abs(miss))
	}
	if !sum.IsInt64() {
		return api.Most, api.OK
	}
	return int(sum.Int64()), api.OK
}

// anyOf is one of the numbers.
func anyOf(dice *rand.Rand, l ...int) int {
	return l[dice.Intn(len(l))]
}

// anyPoints is up to 20 points, all of them small, or fixed-point numbers, or any.
func anyPoints(dice *rand.Rand) []int {
	out := make([]int, dice.Intn(21))
	kind := dice.Intn(3)
	for i := range out {
		out[i] = []int{dice.Intn(40) - 20, dice.Intn(100) * api.One, int(dice.Uint64())}[kind]
		if dice.Intn(20) == 0 {
			out[i] = anyOf(dice, 0, api.Least, api.Most, -1)
		}
	}
	return out
}

func TestP2201AgainstModel(t *testing.T) {
	dice := rand.New(rand.NewSource(2201))
	for range 50_000 {
		l := anyPoints(dice)
		season, ahead := dice.Intn(23)-1, anyOf(dice, dice.Intn(60)-2, dice.Intn(9), 1+dice.Intn(api.MaxPoints+2))
		want, errno := plainCast(l, season, ahead)
		if errno == api.OK {
			checkCast(t, "any points", l, season, ahead, want)
		} else {
			checkNoCast(t, "any points", l, season, ahead)
		}
		if t.Failed() {
			t.Fatal(l, season, ahead)
		}
	}
}

func TestP2202AgainstModel(t *testing.T) {
	dice := rand.New(rand.NewSource(2202))
	cut, told := 0, 0
	for range 50_000 {
		l := anyPoints(dice)
		season, last := dice.Intn(12)-1, dice.Intn(14)-1
		want, errno := plainMiss(l, season, last)
		if errno == api.OK {
			checkMiss(t, "any points", l, season, last, want)
		} else {
			checkNoMiss(t, "any points", l, season, last)
		}
		if t.Failed() {
			t.Fatal(l, season, last)
		}
		if want == api.Most {
			cut++
		} else if want > 0 {
			told++
		}
	}
	if cut < 1000 || told < 1000 {
		t.Error("P2202: hardly any sums: ", cut, told)
	}
}

// TestP2202ByCast holds Miss against Cast itself.
func TestP2202ByCast(t *testing.T) {
	dice := rand.New(rand.NewSource(22021))
	for range 5_000 {
		l := make([]int, 2+dice.Intn(30))
		for i := range l {
			l[i] = dice.Intn(1000) - 500
		}
		season := 1 + dice.Intn(len(l)-1)
		last := 1 + dice.Intn(len(l)-season)
		want := 0
		for i := len(l) - last; i < len(l); i++ {
			cast, errno := Cast(l[:i], season, 1)
			check(t, "P2202", "the error of Cast", errno, api.OK)
			want += max(l[i]-cast, cast-l[i])
		}
		checkMiss(t, "by Cast", l, season, last, want)
	}
}

func TestP2203SameAgain(t *testing.T) {
	l := []int{1, 2, 4, 9}
	for range 20 {
		checkCast(t, "again", l, 2, 2, 9)
		checkMiss(t, "again", l, 2, 2, 10)
		checkNoCast(t, "an error leaves nothing behind", l, 5, 1)
		checkNoMiss(t, "an error leaves nothing behind", l, 2, 3)
		checkCast(t, "other points", []int{5}, 1, 1, 5)
		checkMiss(t, "other points", []int{5, 6}, 1, 1, 1)
	}
}

// spare is what stands in the room behind a list.
const spare = 3

func TestP2203ArgumentsStay(t *testing.T) {
	dice := rand.New(rand.NewSource(2203))
	for range 5_000 {
		l := append(anyPoints(dice), 1, 2, 3)
		was := slices.Clone(l)
		season, n := dice.Intn(12)-1, dice.Intn(12)-1
		Cast(l[:len(l)-spare], season, n)
		Miss(l[:len(l)-spare], season, n)
		checkList(t, "P2203", "the points and their room", l, was)
	}
}

// TestP2203RoomCountsForNothing has the same points ahead of other ones.
func TestP2203RoomCountsForNothing(t *testing.T) {
	for _, room := range []int{0, 5, api.Most} {
		l := []int{1, 2, 4, 9, room, room}
		checkCast(t, "ahead of other points", l[:4], 3, 2, 4)
		checkMiss(t, "ahead of other points", l[:4], 3, 1, 8)
	}
}
