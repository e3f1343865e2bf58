package url

import (
	"math"
	"regexp"
	"slices"
	"strings"
	"testing"
	"unsafe"

	"glazier/api"
	"glazier/mark"
)

const top = api.MaxOrigin

// The bytes that a scheme may begin with, and those that it may have behind, written out;
// the rest of the 256 are none.
const (
	firsts = "ABCDEFGHIJKLMNOPQRSTUVWXYZabcdefghijklmnopqrstuvwxyz"
	laters = firsts + "0123456789+-."
)

// sign is a byte and its origin; a text as signs is the model of the tests.
type sign struct {
	b      byte
	origin int
}

// signs tells the bytes of s with their origins, asked one by one.
func signs(s api.Str) []sign {
	var out []sign
	for i := range len(s.Text) {
		out = append(out, sign{s.Text[i], mark.At(s, i)})
	}
	return out
}

// told tells the one labelled text of these signs that is as told.
func told(l []sign) api.Str {
	var s api.Str
	for i, c := range l {
		s.Text += string([]byte{c.b})
		if i == 0 || l[i-1].origin != c.origin {
			s.Runs = append(s.Runs, api.Run{Origin: c.origin})
		}
		s.Runs[len(s.Runs)-1].Len++
	}
	return s
}

// modelReady takes signs off, one by one, as long as one may go.
func modelReady(s api.Str) []sign {
	l := signs(s)
	for len(l) > 0 && l[0].b < 0x21 {
		l = l[1:]
	}
	for len(l) > 0 && l[len(l)-1].b < 0x21 {
		l = l[:len(l)-1]
	}
	return slices.DeleteFunc(l, func(c sign) bool { return c.b == 9 || c.b == 10 || c.b == 13 })
}

// schemes are what an address that is ready and has a scheme begins with.
var schemes = regexp.MustCompile(`^[A-Za-z][A-Za-z0-9+\-.]*:`)

// modelScheme tells how many signs a scheme and its colon are, 0 of none; and the scheme.
func modelScheme(s api.Str) (int, []sign) {
	l := modelReady(s)
	size := len(schemes.FindString(told(l).Text))
	if size == 0 {
		return 0, nil
	}
	name := slices.Clone(l[:size-1])
	for i := range name {
		if at := strings.IndexByte(firsts[:26], name[i].b); at >= 0 {
			name[i].b = firsts[26+at]
		}
	}
	return size, name
}

func modelRest(s api.Str) []sign {
	size, _ := modelScheme(s)
	return modelReady(s)[size:]
}

// modelParts puts sign by sign into one of three parts, and goes to a later part at the
// signs that part.
func modelParts(s api.Str) [3][]sign {
	var out [3][]sign
	part := 0
	for _, c := range modelRest(s) {
		switch {
		case c.b == '#' && part < 2:
			part = 2
		case c.b == '?' && part < 1:
			part = 1
		default:
			out[part] = append(out[part], c)
		}
	}
	return out
}

// str writes a labelled text: lens and origins by turns.
func str(text string, pairs ...int) api.Str {
	s := api.Str{Text: text}
	for i := 0; i+1 < len(pairs); i += 2 {
		s.Runs = append(s.Runs, api.Run{Len: pairs[i], Origin: pairs[i+1]})
	}
	return s
}

// alike holds two texts against each other field by field.
func alike(a, b api.Str) bool {
	return a.Text == b.Text && slices.Equal(a.Runs, b.Runs)
}

// allBytes are the 256 bytes, rising.
func allBytes() string {
	var all []byte
	for b := range 256 {
		all = append(all, byte(b))
	}
	return string(all)
}

// textsOf tells all texts of up to n bytes of an alphabet.
func textsOf(n int, alphabet string) []string {
	out := []string{""}
	for from := 0; n > 0; n-- {
		to := len(out)
		for _, text := range out[from:to] {
			for i := range len(alphabet) {
				out = append(out, text+alphabet[i:i+1])
			}
		}
		from = to
	}
	return out
}

// someTexts are texts of all kinds.
func someTexts() []string {
	return []string{
		"", " ", "\t", "\x00", ":", "::", "a", "a:", ":a", "a:b", "A:B", "a:b:c", "aB:cD", " ja\tvascript:x", "JaVaScRiPt:X", "j\na\rv\ta:x", "a\t:\tb", "\ta\n:\r",
		"http://a.b/c?d=e&f#g", "HTTPS://A/?B#C", "mailto:a@b", "//a/b", "/a", "a/b:c", "a b:c", "a\x00b:c", "a\x0bb:c", "a\x0c:b", "a: b ", "a:\x00b\x00", "\x1fa:b\x1f", "\x20a:b\x20", "!a:b!", "\x7fa:b\x7f",
		"1:a", "+:a", "-:a", ".:a", "a1:b", "a+:b", "a-:b", "a.:b", "1a:b", "+a:b", "a1+-.z:b", "a_:b", "a%3A:b", "@:a", "[:a", "`:a", "{:a", "a/:b", "a@:b", "a[:b", "a`:b", "a{:b", "a*:b", "a,:b", "\xc3\xa9:a", "a\xc3\xa9:b", "a\xff:b",
		"#", "?", "##", "??", "#?", "?#", "a#b", "a?b", "a#b#c", "a?b?c", "a#b?c", "a?b#c", "a?b#c?d#e", "#a", "?a", "a#", "a?", "?#a", "#?a", "a#?", "a?#", "a:?b#c", "a:#b?c", "a:b?c#d", "a#:b", "a?:b", "#a:b", "?a:b", "a?b:c#d:e", "a:b?c:d",
		"a?\tb\n#\rc", " a ? b # c ", "a#\x00", "a?\x01#\x02", allBytes(),
	}
}

// labels are runs of all kinds, as told for some texts and not for others.
func labels() [][]api.Run {
	return [][]api.Run{
		nil, {},
		{{Len: 1, Origin: 0}},
		{{Len: 3, Origin: 2}},
		{{Len: 1, Origin: 4}, {Len: 1, Origin: 9}, {Len: 1, Origin: 2}},
		{{Len: 1, Origin: 0}, {Len: 1, Origin: 1}, {Len: 1, Origin: 0}, {Len: 1, Origin: 1}, {Len: 1, Origin: 0}},
		{{Len: 2, Origin: 0}, {Len: 2, Origin: 7}, {Len: 3, Origin: 1}},
		{{Len: 1, Origin: 3}, {Len: 1, Origin: 3}, {Len: 2, Origin: 3}},
		{{Len: math.MaxInt, Origin: 0}},
		{{Len: math.MaxInt, Origin: 5}, {Len: math.MaxInt, Origin: 6}},
		{{Len: math.MinInt, Origin: 8}, {Len: 1, Origin: -1}, {Len: 0, Origin: 8}, {Len: 1, Origin: math.MinInt}},
		{{Len: 1, Origin: top + 1}, {Len: 1, Origin: math.MaxInt}, {Len: 1, Origin: 0}},
		{{Len: 1, Origin: top}, {Len: -1, Origin: 0}, {Len: 2, Origin: top - 1}},
	}
}

// someStrs tells each of someTexts with each of labels.
func someStrs() []api.Str {
	var out []api.Str
	for _, text := range someTexts() {
		for _, runs := range labels() {
			out = append(out, api.Str{Text: text, Runs: slices.Clone(runs)})
		}
	}
	return out
}

// manyStrs tells someStrs, and all short texts of the bytes that matter, with labels by turns.
func manyStrs() []api.Str {
	all, out := labels(), someStrs()
	for i, text := range append(textsOf(5, "aZ1:\t ?#"), textsOf(4, "a:\x00\n\r+-./")...) {
		out = append(out, api.Str{Text: text, Runs: all[i%len(all)]})
	}
	return out
}

// named is one of the calls, its answers that are texts as a list.
type named struct {
	name string
	call func(s api.Str) []api.Str
}

// calls are all calls of the package.
func calls() []named {
	return []named{
		{"Ready", func(s api.Str) []api.Str { return []api.Str{Ready(s)} }},
		{"Rest", func(s api.Str) []api.Str { return []api.Str{Rest(s)} }},
		{"Scheme", func(s api.Str) []api.Str {
			name, _ := Scheme(s)
			return []api.Str{name}
		}},
		{"Parts", func(s api.Str) []api.Str {
			path, query, behind := Parts(s)
			return []api.Str{path, query, behind}
		}},
	}
}

// check holds the answers of one call against what is wanted.
func check(t *testing.T, name string, call func(s api.Str) api.Str, cases [][2]api.Str) {
	t.Helper()
	for _, c := range cases {
		if got := call(c[0]); !alike(got, c[1]) {
			t.Errorf("%s(%#v) = %#v, want %#v", name, c[0], got, c[1])
		}
	}
}

// checkTexts does so for texts of one origin.
func checkTexts(t *testing.T, name string, call func(s api.Str) api.Str, cases [][2]string) {
	t.Helper()
	for _, c := range cases {
		check(t, name, call, [][2]api.Str{{mark.Of(c[0], 1), mark.Of(c[1], 1)}})
	}
}

// checkScheme holds the scheme of s against what is wanted; one without bytes is none.
func checkScheme(t *testing.T, s api.Str, want api.Str) {
	t.Helper()
	if got, ok := Scheme(s); !alike(got, want) || ok != (want.Text != "") {
		t.Errorf("Scheme(%#v) = %#v, %v, want %#v", s, got, ok, want)
	}
}

// checkParts holds the parts of s against what is wanted.
func checkParts(t *testing.T, s api.Str, want [3]api.Str) {
	t.Helper()
	path, query, behind := Parts(s)
	if !alike(path, want[0]) || !alike(query, want[1]) || !alike(behind, want[2]) {
		t.Errorf("Parts(%#v) = %#v, %#v, %#v, want %#v", s, path, query, behind, want)
	}
}

func TestReady(t *testing.T) { // P6.1
	checkTexts(t, "Ready", Ready, [][2]string{
		{"", ""},
		{" ", ""},
		{"\x00\x01\t\n\r\x1f\x20", ""},
		{"a", "a"},
		{"Http://A/b?c#d", "Http://A/b?c#d"}, // letters stay as they are
		{" a ", "a"},
		{" \x00\x1f\x0b a \x0c\x01 ", "a"},
		{" a b ", "a b"}, // those between stay, but for three
		{"a\x00b\x01c\x08d\x0be\x0cf\x0eg\x1fh\x20i", "a\x00b\x01c\x08d\x0be\x0cf\x0eg\x1fh\x20i"},
		{"a\tb\nc\rd", "abcd"},
		{"\ta\t\tb\r\nc\n", "abc"},
		{"a \t b", "a  b"},
		{"!\ta\t!", "!a!"},
		{"\x21a\x21", "\x21a\x21"},
		{"\x7f\x80a\xa0\xff", "\x7f\x80a\xa0\xff"},
		{"\xc2\xa0a\xc2\xa0", "\xc2\xa0a\xc2\xa0"},
		{"%20a%09", "%20a%09"},
	})
	check(t, "Ready", Ready, [][2]api.Str{
		{str(" a\tb ", 1, 5, 1, 1, 1, 6, 1, 2, 1, 7), str("ab", 1, 1, 1, 2)},
		{str("a\tb", 1, 1, 1, 9, 1, 1), str("ab", 2, 1)}, // one run
		{str(" \t\n", 1, 0, 1, 1, 1, 2), str("")},
		{str("\r\na", 1, 8, 1, 9, 1, 0), str("a", 1, 0)},
	})
}

func TestReadyOfAllBytes(t *testing.T) { // P6.1
	for i := range 256 {
		one := string([]byte{byte(i)})
		ends, between := one, one
		if i <= 0x20 {
			ends = ""
		}
		if i == 9 || i == 10 || i == 13 {
			between = ""
		}
		checkTexts(t, "Ready", Ready, [][2]string{
			{one, ends}, {one + "a", ends + "a"}, {"a" + one, "a" + ends},
			{one + one + "a" + one + one, ends + ends + "a" + ends + ends}, {"a" + one + "b" + one + one + "c", "a" + between + "b" + between + between + "c"},
		})
	}
}

func TestScheme(t *testing.T) { // P6.1
	cases := [][2]string{
		{" ja\tvascript:x", "javascript"}, // the chapter's example
		{"http://a/b", "http"}, {"mailto:a@b", "mailto"}, {"a:", "a"}, {"z:", "z"}, {"a::", "a"},
		{"HTTP://A", "http"}, {"JaVaScRiPt:X", "javascript"}, {"A:", "a"}, {"Z:", "z"}, {"AZ:", "az"},
		{"a:b:c", "a"}, {"ab:c:d", "ab"}, {"a:1:", "a"}, {"a:/:b", "a"},
		{"a1:b", "a1"}, {"a+:b", "a+"}, {"a-:b", "a-"}, {"a.:b", "a."}, {"a09:b", "a09"}, {"a+1-B.z:b", "a+1-b.z"}, {"a-.+:b", "a-.+"},
		{"\x00\x1f a:b", "a"}, {"a\t:b", "a"}, {"a\n\r:b", "a"}, {"\ta\tb\nc\rd\t:", "abcd"}, {"\ta:\t", "a"}, {" A\tB\t:\tC ", "ab"},
		{"a:b\x00\xff ", "a"}, {"a:\x00", "a"},
	}
	for _, c := range cases {
		checkScheme(t, mark.Of(c[0], 1), mark.Of(c[1], 1))
	}
	checkScheme(t, str(" Ja\tvA:x", 1, 9, 1, 1, 1, 2, 1, 9, 1, 2, 1, 3, 2, 0), str("java", 1, 1, 2, 2, 1, 3))
	checkScheme(t, str("a\tb:c", 1, 1, 1, 5, 1, 1, 2, 7), str("ab", 2, 1)) // the colon's origin does not matter
	checkScheme(t, str("AbC:", 1, 3, 1, 0, 1, top, 1, 4), str("abc", 1, 3, 1, 0, 1, top))
}

func TestSchemeOfNone(t *testing.T) { // P6.1
	for _, text := range []string{
		"", " ", "\t\n", "a", "abc", "http", "HTTP", "a1+-.", "//a", "/a:b", "?a:b", "#a:b", // no colon, or not next
		":", "::", ":a", ":a:b", " :a", "\t:a", "\x00:a", // a colon first
		"1:a", "9:a", "+:a", "-:a", ".:a", "1a:b", "0a:b", "+a:b", "-a:b", ".a:b", " 1a:b", // what may be later alone
		"a b:c", "a :b", "a/b:c", "a?b:c", "a#b:c", "a@b:c", "a%b:c", "a_b:c", "a*b:c", "a~b:c", "a!:b", "a\x00:b", "a\x00b:c", "a\x0b:b", "a\x0c:b", "a\x1f:b", "a\x7f:b",
		"@:a", "[:a", "`:a", "{:a", "a@:b", "a[:b", "a`:b", "a{:b", "a/:b", "a,:b", "a*:b", // beside A and Z, a and z, 0 and 9, + - .
		"\xc3\xa9:a", "a\xc3\xa9:b", "\xff:a", "a\xff:b", "\xe1:a", "\xe2\x84\xaa:a", "a\xc1:b",
		"a%3Ab", "a&colon;b", "a\xef\xbc\x9ab", "a;b", "!a:b",
	} {
		checkScheme(t, mark.Of(text, 1), api.Str{})
	}
	if got, ok := Scheme(str("", 3, 3)); ok || got.Text != "" || len(got.Runs) > 0 {
		t.Errorf("Scheme of no bytes = %#v, %v", got, ok)
	}
}

func TestSchemeOfAllBytes(t *testing.T) { // P6.1
	for i := range 256 {
		one := string([]byte{byte(i)})
		first, later, alone := "", "", ""
		if strings.Contains(firsts, one) {
			first = strings.ToLower(one)
		}
		if i == ':' {
			alone = "a"
		}
		switch {
		case i == ':' || i == 9 || i == 10 || i == 13: // an end ahead, or left out
			later = "a"
		case strings.Contains(laters, one):
			later = "a" + strings.ToLower(one)
		}
		checkScheme(t, mark.Of(one+":x", 2), mark.Of(first, 2))
		checkScheme(t, mark.Of("a"+one+":x", 2), mark.Of(later, 2))
		checkScheme(t, mark.Of("A"+one, 2), mark.Of(alone, 2))
	}
}

func TestRest(t *testing.T) { // P6.1
	checkTexts(t, "Rest", Rest, [][2]string{
		{"", ""}, {" ", ""}, {"a:", ""}, {" a: ", ""}, {"A\t:\n", ""},
		{"a:b", "b"}, {"http://a/b?c#d", "//a/b?c#d"}, {" ja\tvascript:x", "x"}, {"MAILTO:A@B", "A@B"},
		{"a:b:c", "b:c"}, {"a::", ":"}, {"a:b:", "b:"}, {"a:1:2", "1:2"}, // the first colon alone
		{"a: b ", " b"}, {"a:\x00b\x00", "\x00b"}, {"a: \t b", "  b"}, // not made ready anew
		{"a:\tb\nc\r", "bc"}, {"\ta\t:\t", ""},
		{"a", "a"}, {"Abc", "Abc"}, {" A\tb ", "Ab"}, {"//A/b?c#d", "//A/b?c#d"}, {"?a:b", "?a:b"}, {"#a:b", "#a:b"}, // no scheme: all, ready
		{":", ":"}, {":a", ":a"}, {" :a:b ", ":a:b"}, {"1:a", "1:a"}, {"+A:b", "+A:b"}, {"-:a", "-:a"}, {".:a", ".:a"}, {"a b:c", "a b:c"}, {"a/b:c", "a/b:c"}, {"a\x00:b", "a\x00:b"}, {"\xff:a", "\xff:a"},
	})
	check(t, "Rest", Rest, [][2]api.Str{
		{str("a:bc", 1, 1, 1, 2, 1, 3, 1, 4), str("bc", 1, 3, 1, 4)},
		{str(" a:\tb\tc ", 4, 9, 1, 2, 1, 9, 1, 2, 1, 9), str("bc", 2, 2)},
		{str(" /\ta:b", 1, 9, 1, 1, 1, 9, 2, 2, 1, 0), str("/a:b", 1, 1, 2, 2, 1, 0)},
		{str("a:", 1, 1, 1, 2), str("")},
		{str(":a", 1, 0, 1, 7), str(":a", 1, 0, 1, 7)},
	})
}

func TestParts(t *testing.T) { // P6.1
	cases := [][4]string{
		{"", "", "", ""}, {"a:", "", "", ""}, {"a", "a", "", ""}, {"a:b", "b", "", ""},
		{"http://a/b?c=d&e#f", "//a/b", "c=d&e", "f"}, {"//a/b?c=d&e#f", "//a/b", "c=d&e", "f"}, // with and without a scheme
		{"a?b#c", "a", "b", "c"}, {"a#b?c", "a", "", "b?c"}, // either order
		{"a?b", "a", "b", ""}, {"a#b", "a", "", "b"}, {"a:b?c", "b", "c", ""}, {"a:b#c", "b", "", "c"}, // alone
		{"a?b?c", "a", "b?c", ""}, {"a#b#c", "a", "", "b#c"}, {"a?b?c#d#e", "a", "b?c", "d#e"}, {"a?b#c?d#e?f", "a", "b", "c?d#e?f"}, {"a#b?c#d", "a", "", "b?c#d"}, // twice
		{"??", "", "?", ""}, {"##", "", "", "#"}, {"?#", "", "", ""}, {"#?", "", "", "?"}, {"?", "", "", ""}, {"#", "", "", ""}, {"?#?#", "", "", "?#"},
		{"?a", "", "a", ""}, {"#a", "", "", "a"}, {"a?", "a", "", ""}, {"a#", "a", "", ""}, {"a?#", "a", "", ""}, {"a#?", "a", "", "?"}, {"?a#", "", "a", ""}, {"?#a", "", "", "a"}, {"#a?", "", "", "a?"}, // first and last
		{"a:?b#c", "", "b", "c"}, {"a:#b?c", "", "", "b?c"}, {"a:?", "", "", ""}, {"a:#", "", "", ""},
		{"a?b:c", "a", "b:c", ""}, {"a#b:c", "a", "", "b:c"}, {"?a:b", "", "a:b", ""}, {"#a:b", "", "", "a:b"}, {"a:b?c:d#e:f", "b", "c:d", "e:f"}, {"a:b:c?d", "b:c", "d", ""},
		{" A:B\t?C\n#D\r", "B", "C", "D"}, {"a?\tb", "a", "b", ""}, {"a: b ? c # d ", " b ", " c ", " d"}, {"?\x00#\x00a", "", "\x00", "\x00a"}, // parts are not made ready anew
		{"A%3Fb%23c", "A%3Fb%23c", "", ""}, {"a&b", "a&b", "", ""},
	}
	for _, c := range cases {
		checkParts(t, mark.Of(c[0], 3), [3]api.Str{mark.Of(c[1], 3), mark.Of(c[2], 3), mark.Of(c[3], 3)})
	}
	checkParts(t, str("a:b?c#d", 1, 1, 1, 2, 1, 3, 1, 4, 1, 5, 1, 6, 1, 7), [3]api.Str{str("b", 1, 3), str("c", 1, 5), str("d", 1, 7)})
	checkParts(t, str("ab?cd#ef", 1, 1, 3, 2, 3, 0, 1, top), [3]api.Str{str("ab", 1, 1, 1, 2), str("cd", 1, 2, 1, 0), str("ef", 1, 0, 1, top)})
	checkParts(t, str("a\tb?c\td", 1, 1, 1, 9, 1, 1, 1, 0, 1, 2, 1, 9, 1, 3), [3]api.Str{str("ab", 2, 1), str("cd", 1, 2, 1, 3), {}})
}

func TestCallsAgainstModel(t *testing.T) { // P6.1
	for _, s := range manyStrs() {
		check(t, "Ready", Ready, [][2]api.Str{{s, told(modelReady(s))}})
		check(t, "Rest", Rest, [][2]api.Str{{s, told(modelRest(s))}})
		_, name := modelScheme(s)
		checkScheme(t, s, told(name))
		parts := modelParts(s)
		checkParts(t, s, [3]api.Str{told(parts[0]), told(parts[1]), told(parts[2])})
		if t.Failed() {
			return
		}
	}
}

func TestTextsNotAsTold(t *testing.T) { // P6.1, and P5 of DOC.md
	check(t, "Ready", Ready, [][2]api.Str{
		{str(" a "), str("a", 1, top)},
		{str(" ab ", 2, 0), str("ab", 1, 0, 1, top)},
		{str("a\tb", 9, 2), str("ab", 2, 2)},
		{str("a\tb", 1, 3, 0, 9, -2, 8, 2, 3), str("ab", 2, 3)},
		{str(" a", math.MaxInt, -1, math.MaxInt, 4), str("a", 1, 0)},
		{str("a", 1, top+1), str("a", 1, top)},
		{str("", 3, 3, 0, 1), str("")},
	})
	check(t, "Rest", Rest, [][2]api.Str{
		{str("a:b"), str("b", 1, top)},
		{str("a:b", 2, 0), str("b", 1, top)},
		{str("a:b", 1, 5, 0, 6, 9, math.MinInt), str("b", 1, 0)},
		{str("ab", 1, -7, -1, 3, 4, 0), str("ab", 2, 0)},
	})
	checkScheme(t, str("A:b"), str("a", 1, top))
	checkScheme(t, str("AB:c", 1, 2, -9, 9, 1, math.MaxInt), str("ab", 1, 2, 1, top))
	checkScheme(t, str("a\tb:c", 1, 2, 1, 5, 1, 2, 1, 2, 9, 9), str("ab", 2, 2))
	checkScheme(t, str("a", 2, 2), api.Str{})
	checkParts(t, str("a?b#c"), [3]api.Str{str("a", 1, top), str("b", 1, top), str("c", 1, top)})
	checkParts(t, str("a?b#c", 1, -1, 0, 5, 2, 3), [3]api.Str{str("a", 1, 0), str("b", 1, 3), str("c", 1, top)})
	checkParts(t, str("a:b", math.MaxInt, 6, math.MaxInt, 7), [3]api.Str{str("b", 1, 6), {}, {}})
}

func TestReadyChangesNoScheme(t *testing.T) { // P6.2
	for _, s := range manyStrs() {
		ready := Ready(s)
		before, was := Scheme(s)
		after, is := Scheme(ready)
		if was != is || !alike(before, after) {
			t.Fatalf("%#v has the scheme %#v, %v; ready, it has %#v, %v", s, before, was, after, is)
		}
		if !alike(Ready(ready), ready) {
			t.Fatalf("%#v, made ready twice, is %#v", s, Ready(ready))
		}
	}
}

func TestReadyAddsNothing(t *testing.T) { // P6.2
	for _, s := range manyStrs() {
		left := signs(s)
		for _, c := range signs(Ready(s)) {
			at := slices.Index(left, c)
			if at < 0 {
				t.Fatalf("Ready(%#v) = %#v has more than was", s, Ready(s))
			}
			left = left[at+1:]
		}
	}
}

func TestCallsTakeAddressesMadeReady(t *testing.T) { // P6.1: each tells of an address what it tells of it, ready
	for _, c := range calls() {
		for _, s := range manyStrs() {
			if got, want := c.call(s), c.call(Ready(s)); !slices.EqualFunc(got, want, alike) {
				t.Fatalf("%s(%#v) = %#v, ready: %#v", c.name, s, got, want)
			}
		}
	}
}

func TestArgumentsAreNotChanged(t *testing.T) { // P6.3
	for _, c := range calls() {
		for _, s := range someStrs() {
			before := slices.Clone(s.Runs)
			c.call(s)
			if !slices.Equal(s.Runs, before) {
				t.Fatalf("%s changed runs from %v to %v", c.name, before, s.Runs)
			}
		}
		own := []api.Run{{Len: 1, Origin: 2}, {Len: 7, Origin: 7}}
		c.call(api.Str{Text: " A\tb:c?d#e ", Runs: own[:1]}) // an append in place would write to own[1]
		if own[0] != (api.Run{Len: 1, Origin: 2}) || own[1] != (api.Run{Len: 7, Origin: 7}) {
			t.Errorf("%s changed memory behind the runs: %v", c.name, own)
		}
	}
}

func TestAnswersAreNewMemory(t *testing.T) { // P6.3
	for _, c := range calls() {
		for _, s := range someStrs() {
			before, first := slices.Clone(s.Runs), c.call(s)
			var want []api.Str
			for _, one := range first {
				want = append(want, mark.Fix(one))
			}
			second := c.call(s)
			for i := range first {
				scribble(first[i].Runs)
				// Those behind, and those of another call, must be as they were.
				if !slices.EqualFunc(first[i+1:], want[i+1:], alike) || !slices.EqualFunc(second, want, alike) {
					t.Fatalf("%s(%#v): two answers share runs", c.name, s)
				}
			}
			if !slices.Equal(s.Runs, before) || !slices.EqualFunc(c.call(s), want, alike) {
				t.Fatalf("%s(%#v): an answer shares runs with the argument", c.name, s)
			}
			texts := append([]api.Str{s}, append(first, second...)...)
			for i, one := range texts {
				for _, other := range texts[i+1:] {
					if shares(one.Text, other.Text) {
						t.Fatalf("%s(%#v): answers share bytes", c.name, s)
					}
				}
			}
		}
	}
}

// scribble writes over all that a list can reach.
func scribble(runs []api.Run) {
	runs = runs[:cap(runs)]
	for i := range runs {
		runs[i] = api.Run{Len: -9, Origin: -9}
	}
}

// shares tells whether two texts have bytes of one memory.
func shares(a, b string) bool {
	if a == "" || b == "" {
		return false
	}
	p, q := uintptr(unsafe.Pointer(unsafe.StringData(a))), uintptr(unsafe.Pointer(unsafe.StringData(b)))
	return p < q+uintptr(len(b)) && q < p+uintptr(len(a))
}

func TestAnswersAreAsTold(t *testing.T) { // P5 of DOC.md
	for _, c := range calls() {
		for _, s := range someStrs() {
			got := c.call(s)
			for _, one := range got {
				if mark.Check(one) != api.OK {
					t.Fatalf("%s(%#v) = %#v is not as told", c.name, s, got)
				}
			}
			if !slices.EqualFunc(got, c.call(mark.Fix(s)), alike) {
				t.Fatalf("%s(%#v): taken otherwise than mark takes it", c.name, s)
			}
		}
	}
}

func TestAnswersHangOnArgumentsAlone(t *testing.T) { // P3 of DOC.md
	for _, c := range calls() {
		for _, s := range someStrs() {
			first := c.call(s)
			c.call(mark.Of(" b:c?d#e", 7))
			if second := c.call(s); !slices.EqualFunc(first, second, alike) {
				t.Fatalf("%s(%#v): %#v, then %#v", c.name, s, first, second)
			}
		}
	}
}

func TestLongTexts(t *testing.T) { // P1 of DOC.md: an end within bearable time
	const n = 1 << 16
	names, blanks := strings.Repeat("Ab", n), strings.Repeat(" \t", n)
	long := api.Str{Text: blanks + names + ":" + names + "?" + names + "#" + names + blanks}
	for i := range len(long.Text) {
		long.Runs = append(long.Runs, api.Run{Len: 1, Origin: i % 3})
	}
	name, ok := Scheme(long)
	if !ok || name.Text != strings.ToLower(names) || len(name.Runs) != 2*n || mark.Check(name) != api.OK {
		t.Errorf("Scheme has %d bytes and %d runs", len(name.Text), len(name.Runs))
	}
	if got := Ready(long); !alike(got, mark.Cut(long, len(blanks), len(long.Text)-len(blanks))) {
		t.Errorf("Ready has %d bytes and %d runs", len(got.Text), len(got.Runs))
	}
	path, query, behind := Parts(long)
	for _, part := range []api.Str{path, query, behind} {
		if part.Text != names || len(part.Runs) != 2*n || mark.Check(part) != api.OK {
			t.Errorf("a part has %d bytes and %d runs", len(part.Text), len(part.Runs))
		}
	}
	none := mark.Of(strings.Repeat("a", n)+"/:", 1)
	if got, ok := Scheme(none); ok || !alike(got, api.Str{}) || !alike(Rest(none), none) {
		t.Errorf("Scheme of none has %d bytes, %v", len(got.Text), ok)
	}
}
