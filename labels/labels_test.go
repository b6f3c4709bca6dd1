package labels

import (
	"encoding/hex"
	"math/rand"
	"regexp"
	"slices"
	"sort"
	"strings"
	"testing"

	"lysimeter/api"
)

func check[T comparable](t *testing.T, promise, name string, got, want T) {
	t.Helper()
	if got != want {
		t.Errorf("%s: %s: %#v, want %#v", promise, name, got, want)
	}
}

func checkLabels(t *testing.T, promise, name string, got, want []api.Label) {
	t.Helper()
	if !slices.Equal(got, want) {
		t.Errorf("%s: %s: %q, want %q", promise, name, got, want)
	}
}

// of is labels out of names and values by turns.
func of(s ...string) []api.Label {
	var out []api.Label
	for pair := range slices.Chunk(s, 2) {
		out = append(out, api.Label{Name: pair[0], Value: pair[1]})
	}
	return out
}

// many is n labels of rising names.
func many(n int) []api.Label {
	var out []api.Label
	for i := range n {
		out = append(out, api.Label{Name: "n" + string(rune('a'+i)), Value: "v"})
	}
	return out
}

func mixed(l []api.Label, dice *rand.Rand) []api.Label {
	out := slices.Clone(l)
	dice.Shuffle(len(out), func(i, j int) { out[i], out[j] = out[j], out[i] })
	return out
}

// anyLabels is labels of few names, so that some are there twice, and of any values.
func anyLabels(dice *rand.Rand) []api.Label {
	names := []string{"a", "b", "B", "_", "a1", "aa", "Z9", "job", "j"}
	var out []api.Label
	for range 1 + dice.Intn(4) {
		out = append(out, api.Label{Name: names[dice.Intn(len(names))], Value: anyValue(dice)})
	}
	return out
}

func anyValue(dice *rand.Rand) string {
	pieces := []string{"a", "1", " ", "~", "\"", "\\", "\x00", "\x1f", "\x7f", "\x80", "\xff", "\xc3", "\u00e9", "\u20ac", "\U0001f600", "{", "}", ",", "=", "="}
	value := ""
	for range 1 + dice.Intn(6) {
		value += pieces[dice.Intn(len(pieces))]
	}
	return value
}

// plainMake is a second way to what Make tells: by a sort of the library, and a look at neighbours.
func plainMake(l []api.Label) []api.Label {
	out := slices.Clone(l)
	sort.SliceStable(out, func(i, j int) bool { return out[i].Name < out[j].Name })
	for i, x := range out {
		if !nameForm.MatchString(x.Name) || len(x.Value) < 1 || len(x.Value) > 64 || i > 0 && out[i-1].Name == x.Name {
			return nil
		}
	}
	if len(out) > 16 {
		return nil
	}
	return out
}

// plainText is a second way to what Text tells: byte by byte.
func plainText(l []api.Label) string {
	var parts []string
	for _, x := range plainMake(l) {
		text := x.Name + "=\""
		for _, b := range []byte(x.Value) {
			if b < 32 || b > 126 || b == 34 || b == 92 {
				text += "\\" + hex.EncodeToString([]byte{b})
			} else {
				text += string(rune(b))
			}
		}
		parts = append(parts, text+"\"")
	}
	if len(parts) == 0 {
		return ""
	}
	return "{" + strings.Join(parts, ",") + "}"
}

const (
	oneQuoted = `(?:[ !#-\[\]-~]|\\(?:[01][0-9a-f]|22|5c|7f|[89a-f][0-9a-f]))`
	oneLabel  = `([a-zA-Z_][a-zA-Z0-9_]*)="(` + oneQuoted + `+)"`
)

var (
	nameForm   = regexp.MustCompile(`^[a-zA-Z_][a-zA-Z0-9_]{0,63}$`)
	labelForm  = regexp.MustCompile(oneLabel)
	textForm   = regexp.MustCompile(`^\{` + oneLabel + `(?:,` + oneLabel + `)*\}$`)
	hiddenForm = regexp.MustCompile(`\\..`)
)

// plainParse is a second way to what Parse tells: the form of a text as one expression.
func plainParse(s string) []api.Label {
	if !textForm.MatchString(s) {
		return nil
	}
	var out []api.Label
	for _, found := range labelForm.FindAllStringSubmatch(s, -1) {
		value := hiddenForm.ReplaceAllStringFunc(found[2], func(x string) string {
			b, _ := hex.DecodeString(x[1:])
			return string(b)
		})
		if len(out) > 0 && out[len(out)-1].Name >= found[1] || len(found[1]) > 64 || len(value) > 64 {
			return nil
		}
		out = append(out, api.Label{Name: found[1], Value: value})
	}
	if len(out) > 16 {
		return nil
	}
	return out
}

// made checks what Make tells of l; no labels: ErrLabel.
func made(t *testing.T, name string, l, want []api.Label) {
	t.Helper()
	wanted := api.OK
	if len(want) == 0 {
		wanted = api.ErrLabel
	}
	got, errno := Make(l)
	check(t, "P1101", name, errno, wanted)
	checkLabels(t, "P1101", name, got, want)
}

// parsed checks what Parse tells of s; no labels: ErrSyntax.
func parsed(t *testing.T, s string, want []api.Label) {
	t.Helper()
	wanted := api.OK
	if len(want) == 0 {
		wanted = api.ErrSyntax
	}
	got, errno := Parse(s)
	check(t, "P1102", "Parse of "+s, errno, wanted)
	checkLabels(t, "P1102", "Parse of "+s, got, want)
}

func TestP1101MakeSorts(t *testing.T) {
	made(t, "the chapter's example", of("b", "2", "a", "1"), of("a", "1", "b", "2"))
	made(t, "one", of("a", "1"), of("a", "1"))
	made(t, "as bytes", of("aa", "1", "_", "2", "a", "3", "B", "4", "a1", "5", "a_", "6", "aB", "7"),
		of("B", "4", "_", "2", "a", "3", "a1", "5", "aB", "7", "a_", "6", "aa", "1"))
	dice := rand.New(rand.NewSource(11))
	for n := 1; n <= api.MaxLabels; n++ {
		for range 20 {
			made(t, "many", mixed(many(n), dice), many(n))
		}
	}
	for range 3000 {
		l := anyLabels(dice)
		made(t, "random", l, plainMake(l))
	}
}

func TestP1101MakeCounts(t *testing.T) {
	made(t, "nil", nil, nil)
	made(t, "empty", []api.Label{}, nil)
	made(t, "as many as can be", many(16), many(16))
	made(t, "one too many", many(17), nil)
	made(t, "very many", slices.Repeat(many(16), 10000), nil)
	made(t, "a name twice, side by side", of("a", "1", "a", "2"), nil)
	made(t, "a label twice", of("a", "1", "a", "1"), nil)
	made(t, "a name twice, apart", of("a", "1", "b", "1", "a", "2"), nil)
	made(t, "a name twice, the greatest", of("c", "1", "b", "1", "a", "2", "c", "3"), nil)
	made(t, "a name twice, in the middle", of("c", "1", "b", "1", "a", "2", "b", "3"), nil)
	made(t, "names that are beginnings", of("ab", "1", "a", "1"), of("a", "1", "ab", "1"))
	made(t, "names of other cases", of("a", "1", "A", "1"), of("A", "1", "a", "1"))
	made(t, "one value twice", of("a", "1", "b", "1"), of("a", "1", "b", "1"))
}

func TestP1101MakeNames(t *testing.T) {
	for x := range 256 {
		for _, place := range []struct{ ahead, behind string }{{"", ""}, {"a", ""}, {"", "b"}, {"a", "b"}} {
			name := place.ahead + string([]byte{byte(x)}) + place.behind
			l := of(name, "v")
			made(t, name, l, plainMake(l))
			made(t, name+" behind a good one", append(of("good", "v"), l...), plainMake(append(of("good", "v"), l...)))
		}
	}
	for _, name := range []string{"", "1", "1a", "a-b", "a b", "\u00e9", "a\u00e9", "\u0101", "a\u0161", "\uff41", "\xff", "a\xc3", "a=", "a\"", "a\x00", strings.Repeat("x", 65), strings.Repeat("\u00e9", 32)} {
		made(t, name, of(name, "v"), nil)
	}
	for _, name := range []string{"a", "z", "A", "Z", "_", "_1", "__", "a0", "a9", "a_A0", strings.Repeat("x", 64)} {
		made(t, name, of(name, "v"), of(name, "v"))
	}
}

func TestP1101MakeValues(t *testing.T) {
	for x := range 256 {
		value := string([]byte{byte(x)})
		made(t, "a value of one byte", of("a", value), of("a", value))
	}
	for _, value := range []string{strings.Repeat("\x00", 64), strings.Repeat("\u00e9", 32), strings.Repeat("x", 64)} {
		made(t, value, of("a", value), of("a", value))
		made(t, value+"x", of("a", value+"x"), nil)
	}
	made(t, "an empty value", of("a", ""), nil)
	made(t, "an empty value behind a good one", of("a", "1", "b", ""), nil)
	made(t, "an empty value ahead of a good one", of("b", "", "a", "1"), nil)
	made(t, "22 runes of 66 bytes", of("a", strings.Repeat("\u20ac", 22)), nil)
}

func TestP1102Text(t *testing.T) {
	for _, c := range []struct {
		l    []api.Label
		want string
	}{
		{of("a", "1"), `{a="1"}`},
		{of("b", "2", "a", "1"), `{a="1",b="2"}`},
		{of("c", "3", "a", "1", "b", "2"), `{a="1",b="2",c="3"}`},
		{of("a", "x\"\\\x00\x7f\u00e9~ "), `{a="x\22\5c\00\7f\c3\a9~ "}`},
		{of("a", "\x1f \x7e\x7f\x80\xff"), `{a="\1f ~\7f\80\ff"}`},
		{of("a", "\xc3x\xa9"), `{a="\c3x\a9"}`},
		{of("a", "\ufffd\U0001f600"), `{a="\ef\bf\bd\f0\9f\98\80"}`},
		{of("a", "{b=1,}"), `{a="{b=1,}"}`},
		{of("a", `\41`), `{a="\5c41"}`},
		{nil, ""},
		{of("a", ""), ""},
		{of("a", "1", "a", "2"), ""},
		{of("1", "1"), ""},
		{many(17), ""},
	} {
		check(t, "P1102", "Text", Text(c.l), c.want)
		if c.want != "" {
			parsed(t, c.want, plainMake(c.l))
		}
	}
}

func TestP1102EveryByte(t *testing.T) {
	for x := range 256 {
		for _, value := range []string{string([]byte{byte(x)}), string([]byte{'a', byte(x)}), string([]byte{byte(x), 'a'}), string([]byte{0xc3, byte(x), 0xa9})} {
			l := of("name", value)
			check(t, "P1102", "Text of one byte", Text(l), plainText(l))
			parsed(t, plainText(l), l)
			parsed(t, `{name="`+value+`"}`, plainParse(`{name="`+value+`"}`))
		}
	}
}

func TestP1102EveryPairOfDigits(t *testing.T) {
	for x := range 256 {
		for y := range 256 {
			s := `{a="` + string([]byte{'\\', byte(x), byte(y)}) + `"}`
			parsed(t, s, plainParse(s))
		}
	}
}

func TestP1102ParseRefuses(t *testing.T) {
	for _, s := range []string{
		"", "{", "}", "{}", "{,}", "a=\"1\"", `{a="1"`, `a="1"}`, `{a=1}`, `{a="1}`, `{a=1"}`, `{a}`, `{="1"}`, `{a=""}`, `{""}`,
		`{b="1",a="2"}`, `{a="1",a="2"}`, `{a="1",a="1"}`, `{a="1",}`, `{,a="1"}`, `{a="1",,b="2"}`, `{a="1"b="2"}`, `{a="1";b="2"}`,
		`{a="1"} `, ` {a="1"}`, `{ a="1"}`, `{a ="1"}`, `{a= "1"}`, `{a="1" }`, `{a="1", b="2"}`, `{a="1"}}`, `{{a="1"}`, `{a="1"}{b="2"}`,
		`{a="\41"}`, `{a="\20"}`, `{a="\7e"}`, `{a="\2"}`, `{a="\"}`, `{a="\zz"}`, `{a="\2`, `{a="\`, `{a="\C3"}`, `{a="\c3\A9"}`, `{a="\5C"}`, `{a="\22`,
		`{a="\g0"}`, `{a="\0g"}`, `{a="\2"2"}`, `{a="\\"}`, `{a="\""}`, `{a="\n"}`, `{a="\x00"}`, `{a="\+1"}`, `{a="\-1"}`, `{a="\ 1"}`, `{a="\1 "}`, `{a="\0`,
		"{a=\"\u00e9\"}", "{a=\"\\\u00e9\"}", "{a=\"\\c\u00e9\"}", "{a=\"\x7f\"}", "{a=\"\n\"}", "{a=\"\xff\"}", "{\u00e9=\"1\"}", "{1=\"1\"}", `{a-b="1"}`,
		`{a=="1"}`, `{a!="1"}`, `{a="1"=}`, `{a="1",b}`, `{a="1",b=}`, `{a="1",b="}`, `{a="1","b"}`, `{a='1'}`, "{a=`1`}", "\x00", "*", `a`,
		`{` + strings.Repeat("x", 65) + `="1"}`, `{a="` + strings.Repeat("x", 65) + `"}`, `{a="` + strings.Repeat(`\00`, 65) + `"}`,
	} {
		parsed(t, s, nil)
	}
}

func TestP1102ParseEdges(t *testing.T) {
	long := strings.Repeat("x", 64)
	parsed(t, `{`+long+`="`+long+`"}`, of(long, long))
	parsed(t, `{a="`+strings.Repeat(`\00`, 64)+`"}`, of("a", strings.Repeat("\x00", 64)))
	parsed(t, plainText(many(16)), many(16))
	parsed(t, strings.TrimSuffix(plainText(many(16)), "}")+`,z="1"}`, nil)
	parsed(t, "{"+strings.Repeat(`a="1",`, 1000000)+`b="1"}`, nil)
	parsed(t, `{a="`+strings.Repeat(`\00`, 1000000)+`"}`, nil)
	parsed(t, strings.Repeat("{", 1000000), nil)
}

func TestP1102Random(t *testing.T) {
	dice := rand.New(rand.NewSource(12))
	for range 3000 {
		l := anyLabels(dice)
		s := plainText(l)
		check(t, "P1102", "Text", Text(l), s)
		if s != "" {
			parsed(t, s, plainMake(l))
			spoilt := spoil(s, dice)
			parsed(t, spoilt, plainParse(spoilt))
		}
	}
}

// spoil changes a byte of s, or takes one away, or puts one in.
func spoil(s string, dice *rand.Rand) string {
	const bytes = "{}=,\"\\0123456789abcdefABCDEF_ ~\x00\x7f\xff\xc3"
	at := dice.Intn(len(s))
	x := bytes[dice.Intn(len(bytes))]
	switch dice.Intn(3) {
	case 0:
		return s[:at] + string([]byte{x}) + s[at+1:]
	case 1:
		return s[:at] + s[at+1:]
	}
	return s[:at] + string([]byte{x}) + s[at:]
}

func TestP1103Cmp(t *testing.T) {
	for _, c := range []struct {
		name string
		a, b []api.Label
		want int
	}{
		{"the same", of("a", "1"), of("a", "1"), 0},
		{"values", of("a", "1"), of("a", "2"), -1},
		{"names ahead of values", of("b", "1"), of("a", "2"), 1},
		{"a name ahead of a later value", of("a", "2", "b", "1"), of("a", "2", "a", "9"), 1},
		{"a value ahead of a later name", of("a", "2", "a", "1"), of("a", "1", "b", "1"), 1},
		{"a beginning", of("a", "1"), of("a", "1", "b", "1"), -1},
		{"shorter, but greater", of("b", "1"), of("a", "1", "c", "1"), 1},
		{"nothing and something", nil, of("a", "1"), -1},
		{"nothing and an empty label", nil, of("", ""), -1},
		{"nothing and nothing", nil, nil, 0},
		{"nil and empty", nil, []api.Label{}, 0},
		{"a name that is a beginning", of("a", "9"), of("ab", "1"), -1},
		{"a value that is a beginning", of("a", "x", "b", "9"), of("a", "xy", "b", "1"), -1},
		{"great and small letters", of("B", "1"), of("a", "1"), -1},
		{"as bytes", of("a", "z"), of("a", "\u00e9"), -1},
		{"bytes that are no runes", of("a", "\xff"), of("a", "\U0001f600"), 1},
		{"a name and a value, set apart otherwise", of("ab", "c"), of("a", "bc"), 1},
		{"as they stand: not sorted", of("b", "1", "a", "1"), of("a", "1", "b", "1"), 1},
		{"as they stand: labels that Make does not take", of("", "", "", ""), of("", "", "", "1"), -1},
		{"far more than Make takes", slices.Repeat(of("a", "1"), 100), slices.Repeat(of("a", "1"), 101), -1},
		{"far more than one", of("a", "1"), slices.Repeat(of("a", "1"), 101), -1},
	} {
		check(t, "P1103", c.name, Cmp(c.a, c.b), c.want)
		check(t, "P1103", c.name+", turned round", Cmp(c.b, c.a), -c.want)
		check(t, "P1103", c.name+", with itself", Cmp(c.a, c.a), 0)
	}
}

func TestP1104SameAgain(t *testing.T) {
	l := of("b", "\x00", "a", "1")
	for range 3 {
		made(t, "again", l, of("a", "1", "b", "\x00"))
		check(t, "P1104", "Text", Text(l), `{a="1",b="\00"}`)
		parsed(t, `{a="1",b="\00"}`, of("a", "1", "b", "\x00"))
		parsed(t, `{a="1",b="\0"}`, nil)
		made(t, "none", nil, nil)
		check(t, "P1104", "Cmp", Cmp(l, nil), 1)
	}
}

func TestP1104ArgumentsStay(t *testing.T) {
	whole := of("c", "3", "a", "1", "b", "2", "spare", "room", "spare", "room")
	before := slices.Clone(whole)
	l := whole[:3]
	other := whole[1:3]
	Make(l)
	Text(l)
	Cmp(l, other)
	Make(whole)
	checkLabels(t, "P1104", "arguments", whole, before)
}

func TestP1104NewMemory(t *testing.T) {
	l := of("a", "1", "b", "2") // in order already, so that nothing has to be moved
	first, _ := Make(l)
	second, _ := Make(l)
	first[0].Value = "turned"
	_ = append(first[:1], api.Label{Name: "z"})
	checkLabels(t, "P1104", "Make's argument", l, of("a", "1", "b", "2"))
	checkLabels(t, "P1104", "Make's other answer", second, of("a", "1", "b", "2"))
	l[0].Name = "turned"
	checkLabels(t, "P1104", "Make's answer", second, of("a", "1", "b", "2"))

	third, _ := Parse(`{a="1",b="2"}`)
	third[0].Value = "turned"
	parsed(t, `{a="1",b="2"}`, of("a", "1", "b", "2"))
}
