package frame

import (
	"bytes"
	"hash/crc32"
	"math"
	"slices"
	"strconv"
	"testing"

	"lysimeter/api"
)

func check[T comparable](t *testing.T, promise, name string, got, want T) {
	t.Helper()
	if got != want {
		t.Errorf("%s: %s: %#v, want %#v", promise, name, got, want)
	}
}

func checkBytes(t *testing.T, promise, name string, got, want []byte) {
	t.Helper()
	if !bytes.Equal(got, want) {
		t.Errorf("%s: %s: %v, want %v", promise, name, got, want)
	}
}

func checkRecords(t *testing.T, promise, name string, got, want []api.Record) {
	t.Helper()
	check(t, promise, name+": how many", len(got), len(want))
	for i := range min(len(got), len(want)) {
		check(t, promise, name+": kind "+strconv.Itoa(i), got[i].Kind, want[i].Kind)
		checkBytes(t, promise, name+": bytes "+strconv.Itoa(i), got[i].Bytes, want[i].Bytes)
	}
}

// refused checks that no frame stands at the beginning of b, neither for Get nor for All.
func refused(t *testing.T, name string, b []byte) {
	t.Helper()
	kind, body, length, errno := Get(b)
	check(t, "P902", name, errno, api.ErrByte)
	check(t, "P902", name+": kind", kind, 0)
	check(t, "P902", name+": bytes", len(body), 0)
	check(t, "P902", name+": length", length, 0)
	l, place := All(b)
	check(t, "P902", name+": frames", len(l), 0)
	check(t, "P902", name+": place", place, 0)
}

// plainSum is the chapter's words, bit by bit.
func plainSum(b []byte) int {
	sum := 4294967295
	for _, x := range b {
		sum ^= int(x)
		for range 8 {
			if sum%2 == 1 {
				sum = sum/2 ^ 2197175160
			} else {
				sum /= 2
			}
		}
	}
	return 4294967295 - sum
}

func four(n int) []byte {
	return []byte{byte(n % 256), byte(n / 256 % 256), byte(n / 65536 % 256), byte(n / 16777216 % 256)}
}

// plainPut is a second way to a frame, of any length.
func plainPut(kind int, b []byte) []byte {
	ahead := slices.Concat([]byte{byte(kind)}, four(len(b)))
	return slices.Concat(ahead, four(plainSum(slices.Concat(ahead, b))), b)
}

// wild are n bytes of all kinds.
func wild(n int) []byte {
	out := make([]byte, 0, n)
	x := uint64(n) + 1
	for range n {
		x = x*6364136223846793005 + 1442695040888963407
		out = append(out, byte(x>>56))
	}
	return out
}

func bodies() [][]byte {
	out := [][]byte{nil, {0}, {255}, {0, 0, 0, 0}, []byte("abc"), []byte("123456789"), bytes.Repeat([]byte{255}, 300)}
	for _, n := range []int{1, 2, 3, 4, 5, 8, 9, 10, 127, 128, 255, 256, 257, 511, 512, 1000, 65535, 65536, 65537} {
		out = append(out, wild(n))
	}
	return out
}

func mustPut(t *testing.T, kind int, b []byte) []byte {
	t.Helper()
	out, errno := Put(kind, b)
	check(t, "P902", "put", errno, api.OK)
	return out
}

func TestP901Sum(t *testing.T) {
	check(t, "P901", "no bytes", Sum(nil), 0)
	check(t, "P901", "an empty list", Sum([]byte{}), 0)
	check(t, "P901", "the document's", Sum([]byte("123456789")), 3808858755)
	check(t, "P901", "32 zeros", Sum(make([]byte, 32)), 0x8a9136aa)
	check(t, "P901", "32 times 255", Sum(bytes.Repeat([]byte{255}, 32)), 0x62a8ab43)
	castagnoli := crc32.MakeTable(crc32.Castagnoli)
	for i := range 256 {
		b := []byte{byte(i)}
		check(t, "P901", "the byte "+strconv.Itoa(i), Sum(b), plainSum(b))
	}
	for _, b := range bodies() {
		name := strconv.Itoa(len(b)) + " bytes"
		check(t, "P901", name, Sum(b), plainSum(b))
		check(t, "P901", name+", by the library", Sum(b), int(crc32.Checksum(b, castagnoli)))
	}
}

func TestP901SumBounds(t *testing.T) {
	highest := 0
	for i := range 500 {
		sum := Sum(wild(i))
		if sum < 0 || sum > math.MaxUint32 {
			t.Errorf("P901: %d bytes: %d has more than 32 bits", i, sum)
		}
		highest = max(highest, sum)
	}
	if highest <= math.MaxInt32 {
		t.Errorf("P901: no sum has its highest bit: %d", highest)
	}
}

func TestP902Put(t *testing.T) {
	b, errno := Put(7, []byte("abc"))
	check(t, "P902", "abc", errno, api.OK)
	sum := plainSum([]byte{7, 3, 0, 0, 0, 'a', 'b', 'c'})
	checkBytes(t, "P902", "abc", b, slices.Concat([]byte{7, 3, 0, 0, 0}, four(sum), []byte("abc")))
	for _, body := range bodies() {
		for _, kind := range []int{0, 1, 127, 128, 254, 255} {
			b, errno := Put(kind, body)
			name := strconv.Itoa(len(body)) + " bytes of kind " + strconv.Itoa(kind)
			check(t, "P902", name, errno, api.OK)
			checkBytes(t, "P902", name, b, plainPut(kind, body))
		}
	}
}

func TestP902PutWrong(t *testing.T) {
	most, more := make([]byte, api.MaxFrame), make([]byte, api.MaxFrame+1)
	for _, c := range []struct {
		name string
		kind int
		b    []byte
		want api.Errno
	}{
		{"the least kind", 0, nil, api.OK},
		{"the greatest kind", 255, nil, api.OK},
		{"below 0", -1, nil, api.ErrArg},
		{"above 255", 256, nil, api.ErrArg},
		{"the least int", math.MinInt, nil, api.ErrArg},
		{"the greatest int", math.MaxInt, nil, api.ErrArg},
		{"a low byte that would do", 1<<32 + 7, nil, api.ErrArg},
		{"as many as may be", 1, most, api.OK},
		{"one too many", 1, more, api.ErrLong},
		{"far too many", 255, make([]byte, 3*api.MaxFrame), api.ErrLong},
		{"the kind is looked at first", 256, more, api.ErrArg},
		{"the kind is looked at first, below 0 too", -1, more, api.ErrArg},
	} {
		b, errno := Put(c.kind, c.b)
		check(t, "P902", c.name, errno, c.want)
		if c.want != api.OK {
			check(t, "P902", c.name+": bytes", len(b), 0)
		} else {
			check(t, "P902", c.name+": bytes", len(b), len(c.b)+9)
		}
	}
}

func TestP902Get(t *testing.T) {
	for i, body := range bodies() {
		kind := i * 11 % 256
		frame := mustPut(t, kind, body)
		for _, behind := range [][]byte{nil, {0}, {1, 2}, wild(100), frame} {
			name := strconv.Itoa(len(body)) + " bytes, behind them " + strconv.Itoa(len(behind))
			gotKind, gotBody, length, errno := Get(slices.Concat(frame, behind))
			check(t, "P902", name, errno, api.OK)
			check(t, "P902", name+": kind", gotKind, kind)
			checkBytes(t, "P902", name, gotBody, body)
			check(t, "P902", name+": length", length, len(body)+9)
		}
	}
	for kind := range 256 {
		got, _, _, errno := Get(mustPut(t, kind, nil))
		check(t, "P902", "no bytes of a kind", errno, api.OK)
		check(t, "P902", "no bytes of a kind: kind", got, kind)
	}
}

func TestP902GetLongest(t *testing.T) {
	body := wild(api.MaxFrame)
	kind, got, length, errno := Get(mustPut(t, 255, body))
	check(t, "P902", "the longest", errno, api.OK)
	check(t, "P902", "the longest: kind", kind, 255)
	check(t, "P902", "the longest: length", length, api.MaxFrame+9)
	check(t, "P902", "the longest: bytes", bytes.Equal(got, body), true)
	refused(t, "longer than Put takes, with a sum that is right", plainPut(255, wild(api.MaxFrame+1)))
}

func TestP902GetWrong(t *testing.T) {
	refused(t, "no bytes", nil)
	refused(t, "zeros", make([]byte, 100))
	for _, body := range [][]byte{nil, {0}, []byte("abc"), wild(40)} {
		frame := mustPut(t, 9, body)
		for i := range frame {
			refused(t, "cut at "+strconv.Itoa(i), frame[:i])
			for bit := range 8 {
				spoilt := bytes.Clone(frame)
				spoilt[i] ^= 1 << bit
				name := "spoilt at " + strconv.Itoa(i) + ", bit " + strconv.Itoa(bit)
				refused(t, name, spoilt)
				refused(t, name+", with bytes behind", slices.Concat(spoilt, wild(300)))
			}
		}
		refused(t, "a byte ahead", slices.Concat([]byte{0}, frame))
	}
}

func TestP902GetLengths(t *testing.T) {
	for _, length := range []int{1, 2, 255, 256, api.MaxFrame, api.MaxFrame + 1, math.MaxInt32, math.MaxInt32 + 1, math.MaxUint32 - 8, math.MaxUint32} {
		ahead := slices.Concat([]byte{1}, four(length))
		b := slices.Concat(ahead, four(plainSum(ahead)))
		refused(t, "a length without its bytes: "+strconv.Itoa(length), b)
		refused(t, "a length with some bytes: "+strconv.Itoa(length), slices.Concat(b, make([]byte, length%256)))
	}
	b := plainPut(3, []byte("abcd"))
	sumOfBody := slices.Concat(b[:5], four(plainSum(b[9:])), b[9:])
	refused(t, "the sum of the bytes alone", sumOfBody)
	turned := slices.Concat(b[:5], []byte{b[8], b[7], b[6], b[5]}, b[9:])
	refused(t, "the sum's highest byte first", turned)
}

func TestP902All(t *testing.T) {
	var all []byte
	var want []api.Record
	for i, body := range bodies() {
		all = append(all, mustPut(t, i, body)...)
		want = append(want, api.Record{Kind: i, Bytes: body})
		l, place := All(all)
		checkRecords(t, "P902", strconv.Itoa(i+1)+" frames", l, want)
		check(t, "P902", strconv.Itoa(i+1)+" frames: place", place, len(all))
		for _, behind := range [][]byte{{0}, {5}, wild(8), wild(9), wild(200)} {
			l, place := All(slices.Concat(all, behind))
			checkRecords(t, "P902", "none behind them", l, want)
			check(t, "P902", "none behind them: place", place, len(all))
		}
	}
	l, place := All(nil)
	check(t, "P902", "no bytes", len(l), 0)
	check(t, "P902", "no bytes: place", place, 0)
}

// Wherever three frames are cut or spoilt, those ahead of that place are told, and no other.
func TestP902AllWrong(t *testing.T) {
	records := []api.Record{{Kind: 7, Bytes: []byte("abc")}, {Kind: 0}, {Kind: 255, Bytes: wild(30)}}
	var all []byte
	var begins []int
	for _, r := range records {
		begins = append(begins, len(all))
		all = append(all, mustPut(t, r.Kind, r.Bytes)...)
	}
	for i := range all {
		whole := 0
		for whole+1 < len(begins) && begins[whole+1] <= i {
			whole++
		}
		spoilt := bytes.Clone(all)
		spoilt[i] ^= 16
		for name, b := range map[string][]byte{"cut at ": all[:i], "spoilt at ": spoilt} {
			l, place := All(b)
			checkRecords(t, "P902", name+strconv.Itoa(i), l, records[:whole])
			check(t, "P902", name+strconv.Itoa(i)+": place", place, begins[whole])
		}
	}
}

func TestP902AllIsGetAgainAndAgain(t *testing.T) {
	b := slices.Concat(plainPut(1, nil), plainPut(1, []byte{0}), plainPut(2, plainPut(3, []byte("x"))), plainPut(4, wild(api.MaxFrame+1)), plainPut(5, nil))
	var want []api.Record
	at := 0
	for {
		kind, body, length, errno := Get(b[at:])
		if errno != api.OK {
			break
		}
		want = append(want, api.Record{Kind: kind, Bytes: body})
		at += length
	}
	l, place := All(b)
	check(t, "P902", "a frame in a frame is bytes", len(l), 3)
	checkRecords(t, "P902", "as Get tells them", l, want)
	check(t, "P902", "as Get tells them: place", place, at)
}

func TestP902ManyFrames(t *testing.T) {
	b := bytes.Repeat(plainPut(1, nil), 100000)
	l, place := All(b)
	check(t, "P902", "many", len(l), 100000)
	check(t, "P902", "many: place", place, len(b))
}

func TestP903Again(t *testing.T) {
	first := mustPut(t, 3, []byte("abc"))
	mustPut(t, 4, wild(1000))
	Put(-1, nil)
	Get(wild(50))
	All(wild(50))
	checkBytes(t, "P903", "Put again", mustPut(t, 3, []byte("abc")), first)
	for range 3 {
		kind, body, length, errno := Get(first)
		check(t, "P903", "Get again", errno, api.OK)
		check(t, "P903", "Get again: kind", kind, 3)
		checkBytes(t, "P903", "Get again", body, []byte("abc"))
		check(t, "P903", "Get again: length", length, 12)
		check(t, "P903", "Sum again", Sum([]byte("123456789")), 3808858755)
	}
}

// roomy is b, with spare room behind it that is filled with 77.
func roomy(b []byte) []byte {
	out := append(bytes.Clone(b), bytes.Repeat([]byte{77}, 50)...)
	return out[:len(b)]
}

func TestP903ArgumentsAreNotChanged(t *testing.T) {
	body := wild(40)
	given := roomy(body)
	Sum(given)
	frame := mustPut(t, 200, given)
	checkBytes(t, "P903", "what Put was given", given, body)
	checkBytes(t, "P903", "the room behind it", given[40:90], bytes.Repeat([]byte{77}, 50))
	both := slices.Concat(frame, frame)
	given = roomy(both)
	_, part, _, _ := Get(given)
	l, _ := All(given)
	checkBytes(t, "P903", "what Get and All were given", given, both)
	for _, x := range [][]byte{part, l[0].Bytes, l[1].Bytes} {
		clear(x[:cap(x)])
	}
	checkBytes(t, "P903", "what Get and All were given, when what they told is written over", given, both)
	checkBytes(t, "P903", "the room behind that", given[len(both):len(both)+50], bytes.Repeat([]byte{77}, 50))
}

func TestP903NewMemory(t *testing.T) {
	body := wild(40)
	frame := mustPut(t, 200, body)
	clear(body)
	checkBytes(t, "P903", "Put's, when the bytes are written over", frame, plainPut(200, wild(40)))

	both := slices.Concat(frame, frame)
	_, got, _, _ := Get(both)
	l, _ := All(both)
	clear(both)
	checkBytes(t, "P903", "Get's, when the frame is written over", got, wild(40))
	checkBytes(t, "P903", "All's, when the frames are written over", l[0].Bytes, wild(40))
	first := l[0].Bytes
	clear(first[:cap(first)])
	checkBytes(t, "P903", "All's second, when the first is written over", l[1].Bytes, wild(40))

	again := mustPut(t, 200, wild(40))
	clear(again[:cap(again)])
	checkBytes(t, "P903", "Put's, when another of Put's is written over", mustPut(t, 200, wild(40)), frame)
}

func FuzzP902(f *testing.F) {
	f.Add(plainPut(7, []byte("abc")))
	f.Add(slices.Concat(plainPut(0, nil), []byte{5}))
	f.Fuzz(func(t *testing.T, b []byte) {
		l, place := All(b)
		var again []byte
		for _, r := range l {
			again = append(again, mustPut(t, r.Kind, r.Bytes)...)
		}
		checkBytes(t, "P902", "the frames, put again", again, b[:place])
		refused(t, "behind the frames", b[place:])
	})
}
