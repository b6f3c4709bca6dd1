package match

import (
	"encoding/hex"
	"math"
	"math/rand"
	"regexp"
	"slices"
	"strings"
	"testing"

	"lysimeter/api"
)

func check[T comparable](t *testing.T, promise, name string, got, want T) {
	t.Helper()
	if got != want {
		t.Errorf("%s: %q: %#v, want %#v", promise, name, got, want)
	}
}

func checkMatches(t *testing.T, promise, name string, got, want []api.Match) {
	t.Helper()
	if !slices.Equal(got, want) {
		t.Errorf("%s: %q: %#v, want %#v", promise, name, got, want)
	}
}

// of is labels out of names and values by turns.
func of(s ...string) []api.Label {
	var out []api.Label
	for pair := range slices.Chunk(s, 2) {
		out = append(out, api.Label{Name: pair[0], Value: pair[1]})
	}
	return out
}

func one(kind int, name, value string) []api.Match {
	return []api.Match{{Kind: kind, Name: name, Value: value}}
}

func many(n int) []api.Match {
	return slices.Repeat(one(api.MHas, "a", ""), n)
}

const oneQuoted = `(?:[ !#-\[\]-~]|\\(?:[01][0-9a-f]|22|5c|7f|[89a-f][0-9a-f]))`

var (
	nameForm   = regexp.MustCompile(`^[a-zA-Z_][a-zA-Z0-9_]{0,63}$`)
	matchForm  = regexp.MustCompile(`^([a-zA-Z_][a-zA-Z0-9_]*)(?:(=|!=|\^=)"(` + oneQuoted + `*)")?(?:,|$)`)
	hiddenForm = regexp.MustCompile(`\\..`)
)

// plainCheck is a second way to what Check tells: matcher by matcher, kind by kind.
func plainCheck(l []api.Match) api.Errno {
	if len(l) > 8 {
		return api.ErrLong
	}
	for _, m := range l {
		if !nameForm.MatchString(m.Name) {
			return api.ErrLabel
		}
		switch m.Kind {
		case 1, 2, 3:
			if len(m.Value) > 64 {
				return api.ErrLabel
			}
		case 4:
			if m.Value != "" {
				return api.ErrLabel
			}
		default:
			return api.ErrLabel
		}
	}
	return api.OK
}

// plainFits is a second way to what Fits tells, of labels of which each name is there once: by a map.
func plainFits(l []api.Match, of []api.Label) bool {
	values := map[string]string{}
	for _, x := range of {
		values[x.Name] = x.Value
	}
	fit := plainCheck(l) == api.OK
	for _, m := range l {
		value, there := values[m.Name]
		switch m.Kind {
		case 1:
			fit = fit && value == m.Value
		case 2:
			fit = fit && value != m.Value
		case 3:
			fit = fit && len(value) >= len(m.Value) && value[:min(len(m.Value), len(value))] == m.Value
		case 4:
			fit = fit && there
		}
	}
	return fit
}

// plainText is a second way to what Text tells: byte by byte.
func plainText(l []api.Match) string {
	if plainCheck(l) != api.OK {
		return ""
	}
	if len(l) == 0 {
		return "*"
	}
	text := ""
	for _, m := range l {
		text += "," + m.Name
		if m.Kind == 4 {
			continue
		}
		text += []string{"", "=", "!=", "^="}[m.Kind] + "\""
		for _, b := range []byte(m.Value) {
			if b < 32 || b > 126 || b == 34 || b == 92 {
				text += "\\" + hex.EncodeToString([]byte{b})
			} else {
				text += string(rune(b))
			}
		}
		text += "\""
	}
	return text[1:]
}

// plainParse is a second way to what Parse tells: an expression, matcher by matcher; false: none.
func plainParse(s string) ([]api.Match, bool) {
	if s == "*" {
		return nil, true
	}
	var out []api.Match
	for rest := s; ; {
		found := matchForm.FindStringSubmatch(rest)
		if found == nil {
			return nil, false
		}
		value := hiddenForm.ReplaceAllStringFunc(found[3], func(x string) string {
			b, _ := hex.DecodeString(x[1:])
			return string(b)
		})
		kind := map[string]int{"=": 1, "!=": 2, "^=": 3, "": 4}[found[2]]
		out = append(out, api.Match{Kind: kind, Name: found[1], Value: value})
		rest = rest[len(found[0]):]
		if !strings.HasSuffix(found[0], ",") {
			return out, rest == "" && plainCheck(out) == api.OK
		}
	}
}

// parsed checks what Parse tells of a text of these matchers.
func parsed(t *testing.T, s string, want []api.Match) {
	t.Helper()
	got, errno := Parse(s)
	check(t, "P1202", "Parse of "+s, errno, api.OK)
	checkMatches(t, "P1202", "Parse of "+s, got, want)
}

// refused checks that Parse tells that s is no text.
func refused(t *testing.T, s string) {
	t.Helper()
	got, errno := Parse(s)
	check(t, "P1202", "Parse of "+s, errno, api.ErrSyntax)
	checkMatches(t, "P1202", "Parse of "+s, got, nil)
}

// parsedEitherWay checks that Parse tells what the second way does.
func parsedEitherWay(t *testing.T, s string) {
	t.Helper()
	if want, ok := plainParse(s); ok {
		parsed(t, s, want)
	} else {
		refused(t, s)
	}
}

func anyValue(dice *rand.Rand) string {
	pieces := []string{"a", "a", "1", " ", "~", "\"", "\\", "\x00", "\x1f", "\x7f", "\x80", "\xff", "\xc3", "\u00e9", "\U0001f600", "*", ",", "=", "!=", "^="}
	value := ""
	for range dice.Intn(4) {
		value += pieces[dice.Intn(len(pieces))]
	}
	return value
}

// anyMatches is matchers of few names, nearly all of which Check takes.
func anyMatches(dice *rand.Rand) []api.Match {
	names := []string{"a", "b", "B", "_", "a1"}
	var out []api.Match
	for range dice.Intn(5) {
		m := api.Match{Kind: 1 + dice.Intn(4), Name: names[dice.Intn(len(names))], Value: anyValue(dice)}
		if m.Kind == api.MHas && dice.Intn(20) > 0 {
			m.Value = ""
		}
		if dice.Intn(40) == 0 {
			m.Kind = 5 * dice.Intn(2)
		}
		out = append(out, m)
	}
	return out
}

func TestP1201CheckCounts(t *testing.T) {
	for n := range 20 {
		want := api.OK
		if n > 8 {
			want = api.ErrLong
		}
		check(t, "P1201", "many", Check(many(n)), want)
	}
	check(t, "P1201", "empty", Check([]api.Match{}), api.OK)
	check(t, "P1201", "too many ahead of what is wrong with them", Check(make([]api.Match, 9)), api.ErrLong)
	check(t, "P1201", "as many as can be, all wrong", Check(make([]api.Match, 8)), api.ErrLabel)
	check(t, "P1201", "very many", Check(many(1000000)), api.ErrLong)
}

func TestP1201CheckKinds(t *testing.T) {
	for kind := -300; kind <= 300; kind++ {
		want := api.ErrLabel
		if kind >= 1 && kind <= 4 {
			want = api.OK
		}
		check(t, "P1201", "a kind", Check(one(kind, "a", "")), want)
		check(t, "P1201", "a kind, behind a good one", Check(append(one(api.MEqual, "a", "x"), one(kind, "a", "")...)), want)
		check(t, "P1201", "a kind, ahead of a good one", Check(append(one(kind, "a", ""), one(api.MEqual, "a", "x")...)), want)
	}
	for _, kind := range []int{math.MinInt, math.MaxInt, 1<<32 + 1, 1<<8 + 1, -1 << 32, -(1 << 32) + 1} {
		check(t, "P1201", "a great kind", Check(one(kind, "a", "")), api.ErrLabel)
		check(t, "P1201", "a great kind", Fits(one(kind, "a", ""), of("a", "1")), false)
		check(t, "P1201", "a great kind", Text(one(kind, "a", "")), "")
	}
}

func TestP1201CheckNames(t *testing.T) {
	names := []string{"", "1", "1a", "a-b", "a b", "\u00e9", "a\u00e9", "\uff41", "\xff", "a\xc3", "a=", "a\"", "a\x00", "*", "a,b", "{a", "a}",
		"a=\"1\",b", "a", "z", "A", "Z", "_", "_1", "a0", strings.Repeat("x", 64), strings.Repeat("x", 65), strings.Repeat("\u00e9", 32)}
	for x := range 256 {
		names = append(names, string([]byte{byte(x)}), string([]byte{'a', byte(x)}), string([]byte{byte(x), 'b'}))
	}
	for _, name := range names {
		for kind := 1; kind <= 4; kind++ {
			l := one(kind, name, "")
			check(t, "P1201", "the name "+name, Check(l), plainCheck(l))
			check(t, "P1201", "the name "+name, Fits(l, of(name, "")), plainFits(l, of(name, "")))
			check(t, "P1202", "the name "+name, Text(l), plainText(l))
			parsedEitherWay(t, name+[]string{"", `="x"`, `!="x"`, `^="x"`, ""}[kind])
		}
	}
}

func TestP1201CheckValues(t *testing.T) {
	for _, value := range []string{"", "x", "\x00", "\xff", strings.Repeat("x", 64), strings.Repeat("\x00", 64), strings.Repeat("\u00e9", 32)} {
		for kind := api.MEqual; kind <= api.MPrefix; kind++ {
			check(t, "P1201", "a value", Check(one(kind, "a", value)), api.OK)
		}
	}
	for _, value := range []string{strings.Repeat("x", 65), strings.Repeat("\u00e9", 33), strings.Repeat("\u20ac", 22), strings.Repeat("x", 1000000)} {
		for kind := api.MEqual; kind <= api.MHas; kind++ {
			check(t, "P1201", "a value that is too long", Check(one(kind, "a", value)), api.ErrLabel)
			check(t, "P1201", "a value that is too long", Fits(one(kind, "a", value), of("a", value)), false)
			check(t, "P1202", "a value that is too long", Text(one(kind, "a", value)), "")
		}
		check(t, "P1201", "a value that is too long, told by MNot", Fits(one(api.MNot, "a", value), of("a", "x")), false)
	}
	check(t, "P1201", "MHas without a value", Check(one(api.MHas, "a", "")), api.OK)
	check(t, "P1201", "MHas with a value", Check(one(api.MHas, "a", "x")), api.ErrLabel)
	check(t, "P1201", "MHas with a zero byte", Check(one(api.MHas, "a", "\x00")), api.ErrLabel)
	check(t, "P1201", "MHas with a value does not fit", Fits(one(api.MHas, "a", "x"), of("a", "x")), false)
}

func TestP1201FitsOne(t *testing.T) {
	l := of("host", "a1", "job", "api")
	for _, c := range []struct {
		kind        int
		name, value string
		want        bool
	}{
		{api.MEqual, "job", "api", true},
		{api.MEqual, "job", "ap", false},
		{api.MEqual, "job", "apis", false},
		{api.MEqual, "job", "API", false},
		{api.MEqual, "job", "", false},
		{api.MEqual, "host", "api", false},
		{api.MEqual, "none", "", true},
		{api.MEqual, "none", "api", false},
		{api.MEqual, "Job", "api", false},
		{api.MEqual, "jo", "", true},
		{api.MNot, "job", "api", false},
		{api.MNot, "job", "ap", true},
		{api.MNot, "job", "apis", true},
		{api.MNot, "job", "", true},
		{api.MNot, "none", "", false},
		{api.MNot, "none", "x", true},
		{api.MPrefix, "job", "", true},
		{api.MPrefix, "job", "a", true},
		{api.MPrefix, "job", "api", true},
		{api.MPrefix, "job", "apis", false},
		{api.MPrefix, "job", "pi", false},
		{api.MPrefix, "job", "A", false},
		{api.MPrefix, "none", "", true},
		{api.MPrefix, "none", "a", false},
		{api.MHas, "job", "", true},
		{api.MHas, "host", "", true},
		{api.MHas, "none", "", false},
		{api.MHas, "jo", "", false},
		{api.MHas, "jobs", "", false},
	} {
		m := one(c.kind, c.name, c.value)
		check(t, "P1201", Text(m), Fits(m, l), c.want)
		check(t, "P1201", Text(m)+", twice", Fits(slices.Repeat(m, 2), l), c.want)
	}
	check(t, "P1201", "the chapter's example", Fits(one(api.MNot, "job", "x"), of("host", "a")), true)
}

func TestP1201FitsEvery(t *testing.T) {
	l := of("host", "a1", "job", "api")
	good := []api.Match{{Kind: api.MEqual, Name: "job", Value: "api"}, {Kind: api.MNot, Name: "job", Value: "x"}, {Kind: api.MPrefix, Name: "host", Value: "a"}, {Kind: api.MHas, Name: "host"}}
	bad := []api.Match{{Kind: api.MEqual, Name: "job", Value: "x"}, {Kind: api.MNot, Name: "job", Value: "api"}, {Kind: api.MPrefix, Name: "host", Value: "b"}, {Kind: api.MHas, Name: "none"}, {Kind: 5, Name: "host"}, {}}
	check(t, "P1201", "all fit", Fits(good, l), true)
	check(t, "P1201", "eight fit", Fits(slices.Repeat(good, 2), l), true)
	check(t, "P1201", "nine would fit", Fits(append(slices.Repeat(good, 2), good[0]), l), false)
	for _, m := range bad {
		for at := range len(good) + 1 {
			check(t, "P1201", "all but one fit", Fits(slices.Insert(slices.Clone(good), at, m), l), false)
		}
	}
	for _, labels := range [][]api.Label{nil, {}, l, of("", ""), slices.Repeat(l, 100)} {
		check(t, "P1201", "nil fits", Fits(nil, labels), true)
		check(t, "P1201", "no matchers fit", Fits([]api.Match{}, labels), true)
	}
}

func TestP1201FitsOddLabels(t *testing.T) {
	for _, empty := range [][]api.Label{nil, {}} {
		check(t, "P1201", "no labels: MEqual", Fits(one(api.MEqual, "a", ""), empty), true)
		check(t, "P1201", "no labels: MEqual of a value", Fits(one(api.MEqual, "a", "1"), empty), false)
		check(t, "P1201", "no labels: MNot", Fits(one(api.MNot, "a", ""), empty), false)
		check(t, "P1201", "no labels: MNot of a value", Fits(one(api.MNot, "a", "1"), empty), true)
		check(t, "P1201", "no labels: MPrefix", Fits(one(api.MPrefix, "a", ""), empty), true)
		check(t, "P1201", "no labels: MHas", Fits(one(api.MHas, "a", ""), empty), false)
	}
	check(t, "P1201", "a label without a value is there", Fits(one(api.MHas, "a", ""), of("a", "")), true)
	check(t, "P1201", "a label without a value", Fits(one(api.MEqual, "a", ""), of("a", "")), true)
	check(t, "P1201", "labels that are not sorted", Fits(one(api.MEqual, "b", "2"), of("c", "3", "b", "2", "a", "1")), true)
	twice := of("b", "0", "a", "1", "a", "2")
	check(t, "P1201", "a name twice: the first one", Fits(one(api.MEqual, "a", "1"), twice), true)
	check(t, "P1201", "a name twice: the second one", Fits(one(api.MEqual, "a", "2"), twice), false)
	check(t, "P1201", "a name twice: not the second one", Fits(one(api.MNot, "a", "2"), twice), true)
	check(t, "P1201", "a name twice: the first one is empty", Fits(one(api.MEqual, "a", ""), of("a", "", "a", "2")), true)
	lots := append(slices.Repeat(of("x", "0"), 100000), of("a", "1")...)
	check(t, "P1201", "far more labels than a series has", Fits(one(api.MEqual, "a", "1"), lots), true)
	long := strings.Repeat("y", 1000)
	check(t, "P1201", "a longer value than a label has", Fits(one(api.MPrefix, "a", long[:64]), of("a", long)), true)
	check(t, "P1201", "names of which one is a beginning", Fits(one(api.MEqual, "ab", "2"), of("a", "1", "ab", "2", "abc", "3")), true)
}

func TestP1201Random(t *testing.T) {
	dice := rand.New(rand.NewSource(121))
	fit := 0
	for range 20000 {
		var l []api.Label
		for _, name := range []string{"a", "b", "B", "_", "a1"} {
			if value := anyValue(dice); value != "" {
				l = append(l, api.Label{Name: name, Value: value})
			}
		}
		m := anyMatches(dice)
		check(t, "P1201", "Check", Check(m), plainCheck(m))
		check(t, "P1201", "Fits", Fits(m, l), plainFits(m, l))
		if Fits(m, l) {
			fit++
		}
	}
	check(t, "P1201", "some fit, some do not", fit > 2000 && fit < 18000, true)
}

func TestP1202Text(t *testing.T) {
	for _, c := range []struct {
		want string
		l    []api.Match
	}{
		{`*`, nil},
		{`job="api",host^="a"`, []api.Match{{Kind: api.MEqual, Name: "job", Value: "api"}, {Kind: api.MPrefix, Name: "host", Value: "a"}}},
		{`a`, one(api.MHas, "a", "")},
		{`a=""`, one(api.MEqual, "a", "")},
		{`a!=""`, one(api.MNot, "a", "")},
		{`a^=""`, one(api.MPrefix, "a", "")},
		{`a="*"`, one(api.MEqual, "a", "*")},
		{`a!="x"`, one(api.MNot, "a", "x")},
		{`a="b=\221\22,c"`, one(api.MEqual, "a", `b="1",c`)},
		{`a="{v=\22\22}"`, one(api.MEqual, "a", `{v=""}`)},
		{`a="{v="`, one(api.MEqual, "a", `{v=`)},
		{`a="}"`, one(api.MEqual, "a", `}`)},
		{`a^="\5c22"`, one(api.MPrefix, "a", `\22`)},
		{`a="\1f ~\7f\80\ff"`, one(api.MEqual, "a", "\x1f ~\x7f\x80\xff")},
		{`a!="\c3\a9"`, one(api.MNot, "a", "\u00e9")},
		{`b,a,a="1",a="1"`, []api.Match{{Kind: api.MHas, Name: "b"}, {Kind: api.MHas, Name: "a"}, {Kind: api.MEqual, Name: "a", Value: "1"}, {Kind: api.MEqual, Name: "a", Value: "1"}}},
		{`v="v",v`, []api.Match{{Kind: api.MEqual, Name: "v", Value: "v"}, {Kind: api.MHas, Name: "v"}}},
		{`a,a,a,a,a,a,a,a`, many(8)},
	} {
		check(t, "P1202", "Text", Text(c.l), c.want)
		parsed(t, c.want, c.l)
	}
	for _, l := range [][]api.Match{many(9), {{}}, one(0, "a", ""), one(5, "a", ""), one(api.MHas, "a", "x"), one(api.MEqual, "", "x"), one(api.MEqual, "1", "x"), append(many(1), api.Match{Kind: api.MHas})} {
		check(t, "P1202", "Text of what Check does not take", Text(l), "")
	}
	check(t, "P1202", "Text of an empty list", Text([]api.Match{}), "*")
}

func TestP1202EveryByte(t *testing.T) {
	for x := range 256 {
		for _, value := range []string{string([]byte{byte(x)}), string([]byte{'a', byte(x)}), string([]byte{byte(x), 'a'}), string([]byte{0xc3, byte(x), 0xa9})} {
			for kind := api.MEqual; kind <= api.MPrefix; kind++ {
				l := one(kind, "name", value)
				check(t, "P1202", "Text of one byte", Text(l), plainText(l))
				parsed(t, plainText(l), l)
				parsedEitherWay(t, `name="`+value+`"`)
			}
		}
		for _, s := range []string{`a="1",b^="\00"`, `a`, `*`, `a,b!=""`} {
			for at := range len(s) + 1 {
				parsedEitherWay(t, s[:at]+string([]byte{byte(x)})+s[at:])
			}
			for at := range len(s) {
				parsedEitherWay(t, s[:at]+string([]byte{byte(x)})+s[at+1:])
			}
		}
	}
}

func TestP1202EveryPairOfDigits(t *testing.T) {
	for x := range 256 {
		for y := range 256 {
			parsedEitherWay(t, `a^="`+string([]byte{'\\', byte(x), byte(y)})+`"`)
		}
	}
}

func TestP1202ParseRefuses(t *testing.T) {
	for _, s := range []string{
		"", ",", ",,", "a,", ",a", "a,,b", "*,a", "a,*", "**", "* ", " *", "*=\"\"", " ", " a", "a ", "a, b", "a ,b", "\x00", "1", "1=\"x\"", "a-b", "\u00e9", "a\u00e9=\"1\"",
		`a=`, `a!`, `a^`, `a!=`, `a^=`, `a="`, `a!="`, `a^="`, `a="x`, `a=x`, `a=x"`, `a"x"`, `a"`, `"a"`, `"`, `""`, `="x"`, `!="x"`, `^="x"`, `a=="x"`, `a!"x"`, `a^"x"`, `a=!"x"`, `a=^"x"`, `a!!="x"`, `a^^="x"`, `a!^="x"`, `a^!="x"`, `a=~"x"`, `a~="x"`, `a<"x"`,
		`a = "x"`, `a ="x"`, `a= "x"`, `a=" x`, `a="x" `, `a="x"b`, `a="x"b="y"`, `a="x",`, `a="x",,b`, `a="x";b`, `a="x"""`, `a="x""`, `a="x"=`, `a="x"="y"`, `a="x"!="y"`, `a=="x"`, `a='x'`, "a=`x`",
		`{a="x"}`, `{a}`, `{}`, `{*}`, `{a="x"`, `a="x"}`, `a,{b`, `a}`, `v}`, `a="x"},{v="y"`, `a="",1`, `a="",`, `a="",b-`,
		`a="\41"`, `a="\20"`, `a="\7e"`, `a="\2"`, `a="\"`, `a="\zz"`, `a="\2`, `a="\`, `a="\C3"`, `a="\5C"`, `a="\\"`, `a="\""`, `a="\n"`, `a="\x00"`, `a="\+1"`,
		"a=\"\u00e9\"", "a=\"\x7f\"", "a=\"\n\"", "a=\"\xff\"", "a\n", "a=\"x\"\n", "*\n",
		strings.Repeat("x", 65), strings.Repeat("x", 65) + `="1"`, `a="` + strings.Repeat("x", 65) + `"`, `a="` + strings.Repeat(`\00`, 65) + `"`,
		"a,a,a,a,a,a,a,a,a", "a,a,a,a,a,a,a,a,", `a,a,a,a,a,a,a,a="1",a`,
	} {
		refused(t, s)
	}
}

func TestP1202ParseEdges(t *testing.T) {
	long := strings.Repeat("x", 64)
	parsed(t, long, one(api.MHas, long, ""))
	parsed(t, long+`="`+long+`"`, one(api.MEqual, long, long))
	parsed(t, `a!="`+strings.Repeat(`\00`, 64)+`"`, one(api.MNot, "a", strings.Repeat("\x00", 64)))
	parsed(t, "a,a,a,a,a,a,a,a", many(8))
	full := slices.Repeat(one(api.MPrefix, long, strings.Repeat("\xff", 64)), 8)
	parsed(t, plainText(full), full)
	refused(t, plainText(full)+",a")
	refused(t, "a"+strings.Repeat(",a", 1000000))
	refused(t, strings.Repeat("a", 1000000))
	refused(t, strings.Repeat("=", 1000000))
	refused(t, `a="`+strings.Repeat(`\00`, 1000000)+`"`)
	refused(t, `a="`+strings.Repeat(`"`, 1000000)+`"`)
}

// spoil changes a byte of s, or takes one away, or puts one in.
func spoil(s string, dice *rand.Rand) string {
	const bytes = "*!^=,\"\\0123456789abcdefABCDEF_ ~{}\x00\x7f\xff\xc3"
	at := dice.Intn(len(s))
	x := bytes[dice.Intn(len(bytes))]
	switch dice.Intn(3) {
	case 0:
		return s[:at] + string([]byte{x}) + s[at+1:]
	case 1:
		return s[:at] + s[at+1:]
	}
	return s[:at] + string([]byte{x}) + s[at:]
}

func TestP1202Random(t *testing.T) {
	dice := rand.New(rand.NewSource(122))
	for range 10000 {
		l := anyMatches(dice)
		s := plainText(l)
		check(t, "P1202", "Text", Text(l), s)
		if s != "" {
			parsed(t, s, l)
			parsedEitherWay(t, spoil(s, dice))
		}
	}
}

func TestP1203SameAgain(t *testing.T) {
	l := []api.Match{{Kind: api.MHas, Name: "b"}, {Kind: api.MEqual, Name: "a", Value: "\x00"}}
	for range 3 {
		check(t, "P1203", "Check", Check(l), api.OK)
		check(t, "P1203", "Fits", Fits(l, of("b", "1", "a", "\x00")), true)
		check(t, "P1203", "Fits", Fits(l, of("a", "\x00")), false)
		check(t, "P1203", "Text", Text(l), `b,a="\00"`)
		parsed(t, `b,a="\00"`, l)
		refused(t, `b,a="\0"`)
		check(t, "P1203", "Check of what can't be", Check(make([]api.Match, 1)), api.ErrLabel)
		check(t, "P1203", "Text of what can't be", Text(make([]api.Match, 1)), "")
	}
}

func TestP1203ArgumentsStay(t *testing.T) {
	matches := []api.Match{{Kind: api.MHas, Name: "c"}, {Kind: api.MEqual, Name: "a", Value: "1"}, {Kind: api.MNot, Name: "b", Value: "2"}, {Kind: 9, Name: "spare", Value: "room"}}
	labels := of("c", "3", "a", "1", "b", "3", "spare", "room")
	matchesBefore, labelsBefore := slices.Clone(matches), slices.Clone(labels)
	for n := range len(matches) + 1 {
		Check(matches[:n])
		Fits(matches[:n], labels[:n])
		Text(matches[:n])
	}
	checkMatches(t, "P1203", "matchers", matches, matchesBefore)
	check(t, "P1203", "labels", slices.Equal(labels, labelsBefore), true)
}

func TestP1203NewMemory(t *testing.T) {
	const s = `b,a="1"`
	want := []api.Match{{Kind: api.MHas, Name: "b"}, {Kind: api.MEqual, Name: "a", Value: "1"}}
	first, _ := Parse(s)
	second, _ := Parse(s)
	first[0].Name = "turned"
	_ = append(first[:1], api.Match{Kind: 9})
	checkMatches(t, "P1203", "the other answer", second, want)
	parsed(t, s, want)
}
