package manifest

import (
	"bytes"
	"fmt"
	"math"
	"math/rand"
	"slices"
	"strconv"
	"testing"

	"lysimeter/api"
)

// plainPut is a number as varint.Put has it, by that chapter's words.
func plainPut(n int) []byte {
	var b []byte
	left := uint64(n)
	for left > 127 {
		b = append(b, byte(left%128+128))
		left /= 128
	}
	return append(b, byte(left))
}

// plainSigned is a number as varint.Signed has it.
func plainSigned(n int) []byte {
	if n < 0 {
		return plainPut(-2*n - 1)
	}
	return plainPut(2 * n)
}

// plainSum is the bytes with the sum of all of them behind, bit by bit.
func plainSum(b []byte) []byte {
	sum := uint32(4294967295)
	for _, x := range b {
		sum ^= uint32(x)
		for range 8 {
			if sum%2 == 1 {
				sum = sum>>1 ^ 2197175160
			} else {
				sum >>= 1
			}
		}
	}
	sum = ^sum
	return append(bytes.Clone(b), byte(sum), byte(sum>>8), byte(sum>>16), byte(sum>>24))
}

// body is the bytes of a manifest ahead of the sum, whether it can be or not, with a count of its own.
func body(mark string, m api.Manifest, count int) []byte {
	b := slices.Concat([]byte(mark), plainPut(m.Next), plainPut(m.Log), plainSigned(m.Low), plainPut(count))
	for _, x := range m.Blocks {
		b = slices.Concat(b, plainPut(x.Id), plainPut(x.Level), plainSigned(x.From), plainSigned(x.To))
	}
	return b
}

// plainPack is the bytes of a manifest, whether it can be or not.
func plainPack(m api.Manifest) []byte {
	return plainSum(body("LYSM", m, len(m.Blocks)))
}

// packedWell is the bytes of a manifest that can be.
func packedWell(t *testing.T, name string, m api.Manifest) []byte {
	t.Helper()
	b, errno := Pack(m)
	if errno != api.OK {
		t.Fatalf("P1702: %s: Pack: %v", name, errno)
	}
	return b
}

// taken checks that the bytes are those of the manifest.
func taken(t *testing.T, name string, b []byte, m api.Manifest) {
	t.Helper()
	got, errno := Unpack(b)
	check(t, "P1702", name+": Unpack", errno, api.OK)
	check(t, "P1702", name+": Unpack", shown(got), shown(m))
}

// refused checks that the bytes are those of no manifest.
func refused(t *testing.T, name string, b []byte) {
	t.Helper()
	m, errno := Unpack(b)
	refusedBy(t, "P1702", name, m, 0, errno, api.ErrByte)
}

// good are manifests that can be, by what is odd about them.
func good() map[string]api.Manifest {
	out := map[string]api.Manifest{
		"no blocks": {Next: 1, Log: 1}, "an empty list": {Next: 1, Log: 1, Blocks: []api.Ref{}}, "no blocks, far": {Next: 1 << 40, Log: 1 << 40, Low: api.MaxTime + 1},
		"some": some(), "the least": least(), "the most": most(), "levels": leveled(0, 0, 1, 0, 0),
	}
	for _, n := range []int{1, 127, 128, 129, api.MaxBlocks - 1, api.MaxBlocks} {
		out[strconv.Itoa(n)+" blocks"] = rising(n)
	}
	for _, n := range []int{127, 128, 129, 16383, 16384, 1<<32 - 1, 1 << 32, 1<<40 - 1} {
		name := strconv.Itoa(n)
		out["Next "+name] = api.Manifest{Next: n, Log: 1}
		out["Log "+name] = api.Manifest{Next: 1, Log: n}
		out["Id "+name] = api.Manifest{Next: 1 << 40, Log: 1, Blocks: []api.Ref{{Id: n, To: 1}}}
	}
	for _, n := range []int{-1, 63, 64, -64, -65, 8191, 8192, -8192, -8193, 1 << 31, 1 << 32, api.MaxTime - 1, -api.MaxTime + 1} {
		name := strconv.Itoa(n)
		out["Low "+name] = api.Manifest{Next: 1, Log: 1, Low: n}
		out["From "+name] = api.Manifest{Next: 2, Log: 1, Blocks: []api.Ref{{Id: 1, From: n, To: api.MaxTime + 1}}}
		out["To "+name] = api.Manifest{Next: 2, Log: 1, Blocks: []api.Ref{{Id: 1, From: -api.MaxTime, To: n}}}
	}
	return out
}

func TestP1702Bytes(t *testing.T) {
	m := api.Manifest{Next: 300, Log: 2, Low: -3, Blocks: []api.Ref{{Id: 7, Level: 1, From: -1, To: 64}, {Id: 299, Level: 20, From: 4, To: 5}}}
	want := plainSum([]byte{'L', 'Y', 'S', 'M', 172, 2, 2, 5, 2, 7, 1, 1, 128, 1, 171, 2, 20, 8, 10})
	checkList(t, "P1702", "two blocks", packedWell(t, "two blocks", m), want)
	taken(t, "two blocks", want, m)
	empty := plainSum([]byte{'L', 'Y', 'S', 'M', 1, 1, 0, 0})
	checkList(t, "P1702", "none", packedWell(t, "none", api.Manifest{Next: 1, Log: 1}), empty)
	taken(t, "none", empty, api.Manifest{Next: 1, Log: 1})
}

func TestP1702PackAndUnpack(t *testing.T) {
	for name, m := range good() {
		b := packedWell(t, name, m)
		checkList(t, "P1702", name, b, plainPack(m))
		taken(t, name, b, m)
	}
}

func TestP1702PackAndUnpackOfAnyManifest(t *testing.T) {
	dice := rand.New(rand.NewSource(1702))
	for range 5000 {
		m := anyManifest(dice)
		b := packedWell(t, "any", m)
		checkList(t, "P1702", "any", b, plainPack(m))
		taken(t, "any", b, m)
	}
}

// The bytes of manifests that Pack refuses are no bytes for Unpack, though all else about them is right.
func TestP1702UnpackRefusesWhatPackDoes(t *testing.T) {
	for _, all := range bad() {
		for name, m := range all {
			refused(t, name, plainPack(m))
		}
	}
	dice := rand.New(rand.NewSource(171))
	yes, no := 0, 0
	for range 20000 {
		m := anyManifest(dice)
		for range 1 + dice.Intn(3) {
			turn(dice, &m)
		}
		if plainCheck(m) == api.OK {
			taken(t, "turned", plainPack(m), m)
			yes++
		} else {
			refused(t, "turned", plainPack(m))
			no++
		}
	}
	check(t, "P1702", "both come often", yes > 1000 && no > 1000, true)
}

func TestP1702UnpackRefusesCutAndLonger(t *testing.T) {
	refused(t, "nil", nil)
	refused(t, "no bytes", []byte{})
	for name, m := range map[string]api.Manifest{"none": {Next: 1, Log: 1}, "some": some(), "the least": least(), "the most": most(), "many": rising(20)} {
		b := packedWell(t, name, m)
		own := b[:len(b)-4]
		for i := range b {
			refused(t, name+", cut at "+strconv.Itoa(i), b[:i])
			refused(t, name+", without its beginning "+strconv.Itoa(i), b[i+1:])
			if i < len(own) {
				refused(t, name+", cut at "+strconv.Itoa(i)+", with the sum", plainSum(own[:i]))
				refused(t, name+", without its beginning "+strconv.Itoa(i)+", with the sum", plainSum(own[i+1:]))
			}
		}
		for _, behind := range [][]byte{{0}, {1}, {255}, {0, 0}, {0, 0, 0, 0}, b, make([]byte, 1<<20)} {
			refused(t, name+", and more behind it", slices.Concat(b, behind))
			refused(t, name+", and more behind it, with the sum", plainSum(slices.Concat(own, behind)))
			refused(t, name+", and more behind it, with both sums", plainSum(slices.Concat(b, behind)))
		}
	}
}

func TestP1702UnpackRefusesEachSpoiltBit(t *testing.T) {
	for name, m := range map[string]api.Manifest{"none": {Next: 1, Log: 1}, "some": some(), "the least": least(), "the most": most()} {
		b := packedWell(t, name, m)
		for i := range 8 * len(b) {
			spoilt := bytes.Clone(b)
			spoilt[i/8] ^= 1 << (i % 8)
			refused(t, fmt.Sprintf("%s, bit %d", name, i), spoilt)
		}
		turned := bytes.Clone(b)
		slices.Reverse(turned[len(b)-4:])
		refused(t, name+", the sum's highest first", turned)
		flipped := bytes.Clone(b)
		for i := range 4 {
			flipped[len(b)-4+i] ^= 255
		}
		refused(t, name+", the sum not turned at the end", flipped)
		refused(t, name+", a sum of 0", append(bytes.Clone(b[:len(b)-4]), 0, 0, 0, 0))
		refused(t, name+", no sum", b[:len(b)-4])
	}
}

func TestP1702UnpackRefusesForms(t *testing.T) {
	few := len(some().Blocks)
	none := api.Manifest{Next: 1, Log: 1}
	for name, b := range map[string][]byte{
		"no mark":                 body("", some(), few),
		"a mark in small letters": body("lysm", some(), few),
		"the mark of blocks":      body("LYS1", some(), few),
		"a mark that is short":    body("LYS", some(), few),
		"a mark twice":            body("LYSMLYSM", some(), few),
		"one block too few":       body("LYSM", some(), few-1),
		"one block too many":      body("LYSM", some(), few+1),
		"no count of blocks":      body("LYSM", some(), 0),
		"-1 blocks":               body("LYSM", some(), -1),
		"-1 blocks alone":         body("LYSM", none, -1),
		"the least count alone":   body("LYSM", none, math.MinInt),
		"the greatest count":      body("LYSM", some(), math.MaxInt),
		"2^32 too many":           body("LYSM", some(), few+1<<32),
		"2^63 too many":           body("LYSM", some(), few|math.MinInt),
		"Next in more bytes":      []byte("LYSM\x81\x00\x01\x00\x00"),
		"Log in more bytes":       []byte("LYSM\x01\x81\x00\x00\x00"),
		"Low in more bytes":       []byte("LYSM\x01\x01\x80\x00\x00"),
		"the count in more bytes": []byte("LYSM\x01\x01\x00\x80\x00"),
		"more than 64 bits":       []byte("LYSM\x01\x01\x00\xff\xff\xff\xff\xff\xff\xff\xff\xff\x02"),
		"no end of Next":          []byte("LYSM\xff\xff"),
		"the mark alone":          []byte("LYSM"),
		"nothing":                 nil,
		"Id in more bytes":        []byte("LYSM\x02\x01\x00\x01\x81\x00\x00\x00\x02"),
		"Level in more bytes":     []byte("LYSM\x02\x01\x00\x01\x01\x80\x00\x00\x02"),
		"From in more bytes":      []byte("LYSM\x02\x01\x00\x01\x01\x00\x80\x00\x02"),
		"To in more bytes":        []byte("LYSM\x02\x01\x00\x01\x01\x00\x00\x82\x00"),
	} {
		refused(t, name, plainSum(b))
		refused(t, name+", without the sum", b)
	}
	taken(t, "as it should be", plainSum([]byte("LYSM\x02\x01\x00\x01\x01\x00\x00\x02")), api.Manifest{Next: 2, Log: 1, Blocks: []api.Ref{{Id: 1, To: 1}}})
}

// mended checks that bytes, with their right sum, are taken only if Pack tells them, and tells whether they are.
func mended(t *testing.T, own []byte) bool {
	t.Helper()
	b := plainSum(own)
	m, errno := Unpack(b)
	if errno == api.OK {
		check(t, "P1702", "what Unpack took can be", plainCheck(m), api.OK)
		checkList(t, "P1702", "what Unpack took", plainPack(m), b)
		return true
	}
	refusedBy(t, "P1702", fmt.Sprint(b), m, 0, errno, api.ErrByte)
	return false
}

// TestP1702UnpackOfEachOtherByte puts each byte in each place, with the right sum.
func TestP1702UnpackOfEachOtherByte(t *testing.T) {
	for name, m := range map[string]api.Manifest{"none": {Next: 1, Log: 1}, "some": some(), "the least": least(), "the most": most()} {
		b := packedWell(t, name, m)
		own := b[:len(b)-4]
		count := 0
		for i := range own {
			for c := range 256 {
				other := bytes.Clone(own)
				other[i] = byte(c)
				if mended(t, other) {
					count++
				}
			}
		}
		check(t, "P1702", name+": at least itself at each place", count >= len(own), true)
	}
}

// TestP1702UnpackTakesPacksBytesAlone goes over all short rows of some bytes behind the mark, with their right sum.
func TestP1702UnpackTakesPacksBytesAlone(t *testing.T) {
	count := 0
	var grow func(b []byte, left int)
	grow = func(b []byte, left int) {
		if mended(t, b) {
			count++
		}
		if left == 0 {
			return
		}
		for _, c := range []byte{0, 1, 2, 3, 20, 128} {
			grow(append(b[:len(b):len(b)], c), left-1)
		}
	}
	grow([]byte("LYSM"), 6)
	grow([]byte("LYSM\x03\x01\x01\x01"), 6)
	check(t, "P1702", "some are taken", count > 100, true)
}

// TestP1702UnpackOfSpoiltBytes turns, takes away and doubles bytes, and mends the sum.
func TestP1702UnpackOfSpoiltBytes(t *testing.T) {
	dice := rand.New(rand.NewSource(172))
	yes, no := 0, 0
	for range 50000 {
		b := packedWell(t, "any", anyManifest(dice))
		own := b[:len(b)-4]
		for range 1 + dice.Intn(2) {
			at := dice.Intn(len(own))
			switch dice.Intn(4) {
			case 0:
				own[at] ^= 1 << dice.Intn(8)
			case 1:
				own[at] = byte(dice.Intn(4))
			case 2:
				own = slices.Delete(own, at, at+1)
			default:
				own = slices.Insert(own, at, own[at])
			}
		}
		if mended(t, own) {
			yes++
		} else {
			no++
		}
	}
	check(t, "P1702", "some are taken, more are not", yes > 1000 && no > 1000, true)
}

// spoil clears a list with its spare room.
func spoil[T any](l []T) {
	clear(l[:cap(l)])
}

func TestP1704AnswersAreNewMemory(t *testing.T) {
	m := some()
	wanted := packedWell(t, "some", m)
	spoil(packedWell(t, "some", m))
	checkList(t, "P1704", "Pack again", packedWell(t, "some", m), wanted)
	b := bytes.Clone(wanted)
	got, _ := Unpack(b)
	spoil(got.Blocks)
	checkList(t, "P1704", "the bytes", b, wanted)
	taken(t, "Unpack again", b, m)
	more, _, _ := Add(m, 1, 0, 1)
	wantMore := shown(more)
	spoil(more.Blocks)
	check(t, "P1704", "Add", shown(m), shown(some()))
	more, _, _ = Add(m, 1, 0, 1)
	check(t, "P1704", "Add again", shown(more), wantMore)
	for _, ids := range [][]int{{2}, {8}, {2, 3}, {2, 3, 5, 8}} {
		given := slices.Clone(ids)
		fewer, _, _ := Swap(m, given, 1, 0, 1)
		want := shown(fewer)
		spoil(fewer.Blocks)
		check(t, "P1704", "Swap", shown(m), shown(some()))
		checkList(t, "P1704", "Swap: ids", given, ids)
		fewer, _, _ = Swap(m, given, 1, 0, 1)
		check(t, "P1704", "Swap again", shown(fewer), want)
	}
	five := leveled(0, 0, 1, 0, 0)
	was := shown(five)
	spoil(Pick(five))
	check(t, "P1704", "Pick", shown(five), was)
	checkList(t, "P1704", "Pick again", Pick(five), []int{1, 3, 7, 9})
}

func TestP1704NothingIsKept(t *testing.T) {
	m := some()
	b := packedWell(t, "some", m)
	more, _, _ := Add(m, 1, 0, 1)
	fewer, _, _ := Swap(m, []int{8}, 1, 0, 1)
	wantMore, wantFewer := shown(more), shown(fewer)
	spoil(m.Blocks)
	checkList(t, "P1704", "Pack", b, packedWell(t, "some", some()))
	check(t, "P1704", "Add", shown(more), wantMore)
	check(t, "P1704", "Swap", shown(fewer), wantFewer)
	got, _ := Unpack(b)
	spoil(b)
	check(t, "P1704", "Unpack", shown(got), shown(some()))
}

func TestP1704ArgumentsStay(t *testing.T) {
	for _, m := range []api.Manifest{some(), leveled(0, 0, 0, 0, 0), rising(api.MaxBlocks), but(func(m *api.Manifest) { m.Blocks[3].Level = 50 }), but(func(m *api.Manifest) { m.Low = math.MinInt })} {
		room := append(slices.Clone(m.Blocks), slices.Repeat([]api.Ref{{Id: 77, Level: 77, From: 77, To: 77}}, 9)...)
		was := slices.Clone(room)
		m.Blocks = room[:len(m.Blocks)]
		ids := []int{m.Blocks[2].Id, m.Blocks[0].Id, 66, 66, 66}
		for _, end := range []int{0, 1, 2, 3} {
			Check(m)
			Pack(m)
			Pick(m)
			Add(m, 1, 0, 1)
			Add(m, 99, 0, 1)
			Swap(m, ids[:end], 1, 0, 1)
			Swap(m, ids[:end], 99, 0, 1)
			checkList(t, "P1704", "the blocks", room, was)
			checkList(t, "P1704", "the ids", ids, []int{was[2].Id, was[0].Id, 66, 66, 66})
		}
	}
	b := packedWell(t, "some", some())
	room := append(bytes.Clone(b), 77, 77, 77, 77, 77, 77, 77, 77)
	for _, end := range []int{len(b), len(b) - 1, 4, 0} {
		Unpack(room[:end])
		checkList(t, "P1704", "the bytes", room, append(bytes.Clone(b), 77, 77, 77, 77, 77, 77, 77, 77))
	}
}

func TestP1704SameAgain(t *testing.T) {
	want := packedWell(t, "some", some())
	for range 20 {
		checkList(t, "P1704", "Pack", packedWell(t, "some", some()), want)
		Pack(api.Manifest{})
		Unpack(want[:len(want)-1])
		Add(some(), 77, 0, 1)
		Swap(some(), []int{2, 3}, 0, 0, 1)
		taken(t, "again", want, some())
		_, id, _ := Add(some(), 0, 0, 1)
		check(t, "P1704", "Add", id, 9)
	}
}

// FuzzUnpack seeks bytes that Unpack takes, the sum being mended, and Pack does not tell.
func FuzzUnpack(f *testing.F) {
	for _, m := range []api.Manifest{{Next: 1, Log: 1}, some(), least(), most()} {
		b, _ := Pack(m)
		f.Add(b[:len(b)-4])
	}
	f.Fuzz(func(t *testing.T, own []byte) {
		mended(t, own)
	})
}
