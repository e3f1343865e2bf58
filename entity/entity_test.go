package entity

import (
	"math"
	"math/big"
	"regexp"
	"slices"
	"strconv"
	"strings"
	"testing"
	"unsafe"

	"glazier/api"
	"glazier/mark"
)

const top = api.MaxOrigin

// wrong is what stands for numbers without a rune: FFFD.
const wrong = "\xef\xbf\xbd"

// pairs are the six names, and what each stands for.
func pairs() [][2]string {
	return [][2]string{{"amp", "&"}, {"lt", "<"}, {"gt", ">"}, {"quot", "\""}, {"apos", "'"}, {"nbsp", "\xc2\xa0"}}
}

// others80 are what 80 to 9F stand for, as the chapter has them.
func others80() string {
	return "20AC, 81, 201A, 192, 201E, 2026, 2020, 2021, 2C6, 2030, 160, 2039, 152, 8D, 17D, 8F, 90, 2018, 2019, 201C, 201D, 2022, 2013, 2014, 2DC, 2122, 161, 203A, 153, 9D, 17E, 178"
}

// sign is a byte and its origin; a text as signs is the model of the tests.
type sign struct {
	b      byte
	origin int
}

// signs tells the bytes of s with their origins, as chapter 1 takes them.
func signs(s api.Str) []sign {
	var out []sign
	for _, r := range s.Runs {
		for n := 0; n < r.Len && len(out) < len(s.Text); n++ {
			out = append(out, sign{s.Text[len(out)], min(max(r.Origin, 0), top)})
		}
	}
	for len(out) < len(s.Text) {
		out = append(out, sign{s.Text[len(out)], top})
	}
	return out
}

// told tells the one labelled text of these signs that is as told.
func told(l []sign) api.Str {
	var text []byte
	var s api.Str
	for i, c := range l {
		text = append(text, c.b)
		if i == 0 || l[i-1].origin != c.origin {
			s.Runs = append(s.Runs, api.Run{Origin: c.origin})
		}
		s.Runs[len(s.Runs)-1].Len++
	}
	s.Text = string(text)
	return s
}

// modelNumber tells what a number of any size stands for; its bytes are put together bit
// by bit.
func modelNumber(n *big.Int) string {
	if n.Sign() <= 0 || n.Cmp(big.NewInt(0x10FFFF)) > 0 {
		return wrong
	}
	c := n.Int64()
	if c >= 0x80 && c <= 0x9F {
		c, _ = strconv.ParseInt(strings.Split(others80(), ", ")[c-0x80], 16, 64)
	}
	switch {
	case c >= 0xD800 && c <= 0xDFFF:
		return wrong
	case c < 0x80:
		return string([]byte{byte(c)})
	case c < 0x800:
		return string([]byte{0xC0 | byte(c>>6), 0x80 | byte(c&63)})
	case c < 0x10000:
		return string([]byte{0xE0 | byte(c>>12), 0x80 | byte(c>>6&63), 0x80 | byte(c&63)})
	}
	return string([]byte{0xF0 | byte(c>>18), 0x80 | byte(c>>12&63), 0x80 | byte(c>>6&63), 0x80 | byte(c&63)})
}

// references are what a text may begin with, written as a pattern.
var references = regexp.MustCompile(`^&(?:(amp|lt|gt|quot|apos|nbsp)|#([0-9]+)|#[xX]([0-9a-fA-F]+));`)

func modelTake(text string) (string, int) {
	found := references.FindStringSubmatch(text)
	if found == nil {
		return "", 0
	}
	for _, p := range pairs() {
		if found[1] == p[0] {
			return p[1], len(found[0])
		}
	}
	digits, base := found[2], 10
	if digits == "" {
		digits, base = found[3], 16
	}
	n, _ := new(big.Int).SetString(digits, base)
	return modelNumber(n), len(found[0])
}

func modelDecode(s api.Str) api.Str {
	var l []sign
	text := s.Text
	for in := signs(s); len(in) > 0; {
		part, size := modelTake(text)
		if size == 0 {
			l = append(l, in[0])
			in, text = in[1:], text[1:]
			continue
		}
		worst := 0
		for _, c := range in[:size] {
			worst = max(worst, c.origin)
		}
		for i := range len(part) {
			l = append(l, sign{part[i], worst})
		}
		in, text = in[size:], text[size:]
	}
	return told(l)
}

// str writes a labelled text: lens and origins by turns.
func str(text string, pairs ...int) api.Str {
	s := api.Str{Text: text}
	for i := 0; i+1 < len(pairs); i += 2 {
		s.Runs = append(s.Runs, api.Run{Len: pairs[i], Origin: pairs[i+1]})
	}
	return s
}

// alike holds two texts against each other field by field.
func alike(a, b api.Str) bool {
	return a.Text == b.Text && slices.Equal(a.Runs, b.Runs)
}

// beside tells all texts that have a byte more, a byte less, or a byte other than text.
func beside(text string) []string {
	var out []string
	for i := range len(text) + 1 {
		for b := range 256 {
			one := string([]byte{byte(b)})
			out = append(out, text[:i]+one+text[i:])
			if i < len(text) {
				out = append(out, text[:i]+one+text[i+1:])
			}
		}
		if i < len(text) {
			out = append(out, text[:i]+text[i+1:])
		}
	}
	return out
}

// allBytes are the 256 bytes, rising.
func allBytes() string {
	var all []byte
	for b := range 256 {
		all = append(all, byte(b))
	}
	return string(all)
}

// someReferences are references of all kinds, alone.
func someReferences() []string {
	return []string{
		"&amp;", "&lt;", "&gt;", "&quot;", "&apos;", "&nbsp;", "&#0;", "&#00;", "&#38;", "&#038;", "&#65;", "&#127;", "&#128;", "&#129;", "&#159;", "&#160;", "&#233;", "&#8364;", "&#128512;",
		"&#55295;", "&#55296;", "&#57343;", "&#57344;", "&#65533;", "&#1114111;", "&#1114112;", "&#x0;", "&#x26;", "&#X26;", "&#x7f;", "&#x7F;", "&#x80;", "&#X9f;", "&#xa0;", "&#xD7FF;", "&#xd800;", "&#XDfFf;", "&#xE000;", "&#x10FFFF;", "&#x110000;",
		"&#4294967361;", "&#18446744073709551681;", "&#x100000041;", "&#x10000000000000041;", "&#99999999999999999999999999;", "&#xffffffffffffffffffffffff;", "&#00000000000000000000000000065;", "&#x000000000000000000000000041;",
	}
}

// noReferences are texts that begin with none, and have none within.
func noReferences() []string {
	return []string{
		"", "a", " ", ";", "#", "#65;", "amp;", "amp", "x41;", "\x00", "\xff", "\xa0", "\xc2\xa0", "<a>", "&", "&;", "&&", "&a", "& ", "& amp;", "&amp", "&am;", "&ampp;", "&aamp;", "&amp ;", "&amp:", "&amp\x00;", "&AMP;", "&Amp;", "&amP;", "&LT;", "&Lt;", "&gT;", "&QUOT;", "&Apos;", "&NBSP;", "&Nbsp;",
		"&l;", "&t;", "&ltgt;", "&l t;", "&copy;", "&hellip;", "&eacute;", "&nbs;", "&sp;", "&quo;", "&apo;", "&aposs;", "&#", "&#;", "&#x", "&#x;", "&#X;", "&#xx41;", "&#Xx41;", "&##65;", "&#a;", "&#A;", "&#65", "&#x41", "&#X41 ;", "&#65 ;", "&# 65;", "& #65;", "&#x 41;", "&#6 5;",
		"&#-1;", "&#+1;", "&#x-1;", "&#x+1;", "&#1.0;", "&#1e1;", "&#4g;", "&#x4g;", "&#xg;", "&#0x41;", "&#6a;", "&#6_5;", "&#/;", "&#:;", "&#x@;", "&#xG;", "&#x`;", "&#x/;", "&#x:;", "&#\xd9\xa1;", "&#x\x00;", "&#\xb1;", "&#x\xc1;", "&x41;", "&65;", "\\&lt", "%26lt%3B",
	}
}

// someTexts are texts of all kinds.
func someTexts() []string {
	return slices.Concat(someReferences(), noReferences(), []string{
		"a", "a&lt;b", "&lt;&gt;", "&amp;lt;", "&amp;&amp;", "&amp;amp;amp;", "&&amp;", "&am&amp;p;", "&#&#65;", "&#3&#56;;", "&#x&#65;41;", "&#38;#38;", "&#38;lt;", "&#x26;#x41;", "&&&lt;;;", "&lt", "&lt&lt;", "&#65&#66;", "&lt;;", "a & b &amp; c", "&\x00&lt;\xff", allBytes(), allBytes() + "&#x80;" + allBytes(),
	})
}

// labels are runs of all kinds, as told for some texts and not for others.
func labels() [][]api.Run {
	return [][]api.Run{
		nil, {},
		{{Len: 1, Origin: 0}},
		{{Len: 1, Origin: 4}, {Len: 1, Origin: 9}, {Len: 1, Origin: 2}},
		{{Len: 1, Origin: 0}, {Len: 1, Origin: 1}, {Len: 1, Origin: 0}, {Len: 1, Origin: 1}, {Len: 1, Origin: 0}},
		{{Len: 4, Origin: 0}, {Len: 1, Origin: 7}, {Len: 9, Origin: 0}},
		{{Len: 5, Origin: 1}, {Len: 5, Origin: 0}, {Len: 5, Origin: 2}},
		{{Len: 1, Origin: 3}, {Len: 1, Origin: 3}, {Len: 2, Origin: 3}},
		{{Len: math.MaxInt, Origin: 0}},
		{{Len: math.MaxInt, Origin: 5}, {Len: math.MaxInt, Origin: 6}},
		{{Len: math.MinInt, Origin: 8}, {Len: 1, Origin: -1}, {Len: 0, Origin: 8}, {Len: 4, Origin: math.MinInt}},
		{{Len: 1, Origin: top + 1}, {Len: 1, Origin: math.MaxInt}, {Len: 9, Origin: 0}},
		{{Len: 1, Origin: top}, {Len: -1, Origin: 0}, {Len: 2, Origin: top - 1}},
	}
}

// someStrs tells each of someTexts with each of labels.
func someStrs() []api.Str {
	var out []api.Str
	for _, text := range someTexts() {
		for _, runs := range labels() {
			out = append(out, api.Str{Text: text, Runs: slices.Clone(runs)})
		}
	}
	return out
}

// manyTexts are texts put together of the parts that matter.
func manyTexts() []string {
	parts := []string{"&", "&", "#", "x", "X", ";", "amp", "lt", "nbsp", "4", "1", "a", "F", "g", "&amp;", "&#38;", " ", "\x00", "\xff"}
	texts := []string{""}
	for from, turn := 0, 0; turn < 4; turn++ {
		to := len(texts)
		for _, text := range texts[from:to] {
			for _, part := range parts {
				texts = append(texts, text+part)
			}
		}
		from = to
	}
	return texts
}

// checkTake holds Take of a text against what is wanted.
func checkTake(t *testing.T, text string, want string, size int) {
	t.Helper()
	if got, n := Take(text); got != want || n != size {
		t.Errorf("Take(%q) = %q, %d, want %q, %d", text, got, n, want, size)
	}
}

// checkDecode holds Decode of each first text against the second one.
func checkDecode(t *testing.T, cases [][2]api.Str) {
	t.Helper()
	for _, c := range cases {
		if got := Decode(c[0]); !alike(got, c[1]) {
			t.Errorf("Decode(%#v) = %#v, want %#v", c[0], got, c[1])
		}
	}
}

func TestNamed(t *testing.T) { // P8.1
	for _, p := range pairs() {
		if got := Named(p[0]); got != p[1] {
			t.Errorf("Named(%q) = %q, want %q", p[0], got, p[1])
		}
	}
	for _, name := range []string{
		"", " ", "&", ";", "#", "a", "am", "mp", "ampp", "aamp", "l", "t", "g", "ltgt", "qu", "quo", "uot", "ap", "apo", "nbs", "bsp", "sp",
		"AMP", "Amp", "amP", "LT", "Lt", "lT", "GT", "Gt", "QUOT", "Quot", "APOS", "Apos", "NBSP", "Nbsp", // as written alone
		"&amp;", "amp;", "&amp", " amp", "amp ", "amp\x00", "\tlt", "lt\n", "copy", "hellip", "eacute", "euro", "#38", "#x26", "38", "<", "\xff", "amp\xc2\xa0", "amp,lt", "amp lt",
	} {
		if got := Named(name); got != "" {
			t.Errorf("Named(%q) = %q", name, got)
		}
	}
}

func TestNamedBesideNames(t *testing.T) { // P8.1
	want := map[string]string{}
	for _, p := range pairs() {
		want[p[0]] = p[1]
	}
	for _, p := range pairs() {
		for _, name := range beside(p[0]) {
			if got := Named(name); got != want[name] {
				t.Errorf("Named(%q) = %q, want %q", name, got, want[name])
			}
		}
	}
}

func TestNumber(t *testing.T) { // P8.1
	for _, c := range []struct {
		n    int
		want string
	}{
		{1, "\x01"}, {9, "\t"}, {0x0D, "\r"}, {0x20, " "}, {0x26, "&"}, {0x41, "A"}, {0x7E, "~"}, {0x7F, "\x7f"},
		{0xA0, "\xc2\xa0"}, {0xA1, "\xc2\xa1"}, {0xE9, "\xc3\xa9"}, {0xFF, "\xc3\xbf"}, {0x178, "\xc5\xb8"}, {0x7FF, "\xdf\xbf"}, {0x800, "\xe0\xa0\x80"}, {0x20AC, "\xe2\x82\xac"},
		{0xD7FF, "\xed\x9f\xbf"}, {0xD800, wrong}, {0xD801, wrong}, {0xDBFF, wrong}, {0xDC00, wrong}, {0xDFFF, wrong}, {0xE000, "\xee\x80\x80"},
		{0xFFFC, "\xef\xbf\xbc"}, {0xFFFD, wrong}, {0xFFFE, "\xef\xbf\xbe"}, {0xFFFF, "\xef\xbf\xbf"}, {0x10000, "\xf0\x90\x80\x80"}, {0x1F600, "\xf0\x9f\x98\x80"},
		{0x10FFFE, "\xf4\x8f\xbf\xbe"}, {0x10FFFF, "\xf4\x8f\xbf\xbf"}, {0x110000, wrong}, {0x110001, wrong}, {0x110041, wrong}, {math.MaxInt32, wrong}, {1<<32 + 0x41, wrong}, {math.MaxInt, wrong},
		{0, wrong}, {-1, wrong}, {-0x41, wrong}, {-0x80, wrong}, {math.MinInt32, wrong}, {0x41 - 1<<32, wrong}, {math.MinInt, wrong},
	} {
		if got := Number(c.n); got != c.want {
			t.Errorf("Number(%x) = %q, want %q", c.n, got, c.want)
		}
	}
}

func TestNumberOf80To9F(t *testing.T) { // P8.1
	want := []string{
		"\xe2\x82\xac", "\xc2\x81", "\xe2\x80\x9a", "\xc6\x92", "\xe2\x80\x9e", "\xe2\x80\xa6", "\xe2\x80\xa0", "\xe2\x80\xa1",
		"\xcb\x86", "\xe2\x80\xb0", "\xc5\xa0", "\xe2\x80\xb9", "\xc5\x92", "\xc2\x8d", "\xc5\xbd", "\xc2\x8f",
		"\xc2\x90", "\xe2\x80\x98", "\xe2\x80\x99", "\xe2\x80\x9c", "\xe2\x80\x9d", "\xe2\x80\xa2", "\xe2\x80\x93", "\xe2\x80\x94",
		"\xcb\x9c", "\xe2\x84\xa2", "\xc5\xa1", "\xe2\x80\xba", "\xc5\x93", "\xc2\x9d", "\xc5\xbe", "\xc5\xb8",
	}
	if len(want) != 32 {
		t.Fatalf("%d are written out", len(want))
	}
	for i, w := range want {
		n := 0x80 + i
		if got := Number(n); got != w {
			t.Errorf("Number(%x) = %q, want %q", n, got, w)
		}
		for _, text := range []string{"&#" + strconv.Itoa(n) + ";", "&#x" + strconv.FormatInt(int64(n), 16) + ";", "&#X" + strings.ToUpper(strconv.FormatInt(int64(n), 16)) + ";"} {
			checkTake(t, text+"9", w, len(text))
			checkDecode(t, [][2]api.Str{{mark.Of(text, 2), mark.Of(w, 2)}})
		}
	}
}

func TestNumberOfAll(t *testing.T) { // P8.1
	for n := -300; n < 0x110200; n++ {
		if got, want := Number(n), modelNumber(big.NewInt(int64(n))); got != want {
			t.Fatalf("Number(%x) = %q, want %q", n, got, want)
		}
	}
}

func TestTakeOfNames(t *testing.T) { // P8.1
	for _, p := range pairs() {
		text := "&" + p[0] + ";"
		for _, more := range []string{"", ";", "a", text, "&lt;", "&", "\x00", "\xff", strings.Repeat(text, 9)} {
			checkTake(t, text+more, p[1], len(text))
		}
		for _, ahead := range []string{"a", " ", "&", ";", "\x00", "&#", "&a"} { // it begins with none
			checkTake(t, ahead+text, "", 0)
		}
		for _, none := range []string{
			"&" + p[0], "&" + p[0] + " ", "&" + p[0] + " ;", "&" + p[0] + ":", "&" + p[0] + "a;", "& " + p[0] + ";", "&&" + p[0] + ";", "&#" + p[0] + ";",
			"&" + strings.ToUpper(p[0]) + ";", "&" + strings.ToUpper(p[0][:1]) + p[0][1:] + ";", "&" + p[0][1:] + ";", "&" + p[0][:len(p[0])-1] + ";", p[0] + ";", "&" + p[0] + "\xef\xbc\x9b",
		} {
			checkTake(t, none, "", 0)
		}
	}
}

func TestTakeOfNumbers(t *testing.T) { // P8.1
	for _, c := range []struct {
		text string
		want string
	}{
		{"&#x80;", "\xe2\x82\xac"}, // the chapter's example
		{"&#1;", "\x01"}, {"&#9;", "\t"}, {"&#38;", "&"}, {"&#65;", "A"}, {"&#065;", "A"}, {"&#127;", "\x7f"}, {"&#160;", "\xc2\xa0"}, {"&#233;", "\xc3\xa9"}, {"&#8364;", "\xe2\x82\xac"}, {"&#128512;", "\xf0\x9f\x98\x80"}, {"&#1234567;", wrong}, {"&#567890;", "\xf2\x8a\xa9\x92"},
		{"&#x1;", "\x01"}, {"&#x26;", "&"}, {"&#X26;", "&"}, {"&#x41;", "A"}, {"&#X41;", "A"}, {"&#x041;", "A"}, {"&#x7f;", "\x7f"}, {"&#X7F;", "\x7f"}, {"&#xa0;", "\xc2\xa0"}, {"&#xA0;", "\xc2\xa0"}, {"&#xe9;", "\xc3\xa9"}, {"&#XE9;", "\xc3\xa9"},
		{"&#x20ac;", "\xe2\x82\xac"}, {"&#x20AC;", "\xe2\x82\xac"}, {"&#X20aC;", "\xe2\x82\xac"}, {"&#x1f600;", "\xf0\x9f\x98\x80"}, {"&#xabcde;", "\xf2\xab\xb3\x9e"}, {"&#xABCDE;", "\xf2\xab\xb3\x9e"}, {"&#xfAcE;", "\xef\xab\x8e"}, {"&#x2345;", "\xe2\x8d\x85"}, {"&#x6789;", "\xe6\x9e\x89"},
		{"&#0;", wrong}, {"&#x0;", wrong}, {"&#X0;", wrong}, {"&#000;", wrong},
		{"&#55295;", "\xed\x9f\xbf"}, {"&#55296;", wrong}, {"&#57343;", wrong}, {"&#57344;", "\xee\x80\x80"}, {"&#xD7FF;", "\xed\x9f\xbf"}, {"&#xD800;", wrong}, {"&#xdfff;", wrong}, {"&#xe000;", "\xee\x80\x80"},
		{"&#1114111;", "\xf4\x8f\xbf\xbf"}, {"&#1114112;", wrong}, {"&#x10FFFF;", "\xf4\x8f\xbf\xbf"}, {"&#x10ffff;", "\xf4\x8f\xbf\xbf"}, {"&#x110000;", wrong}, {"&#x110041;", wrong}, {"&#2147483713;", wrong},
	} {
		for _, more := range []string{"", ";", "0", "a", "&#65;", "\xff"} {
			checkTake(t, c.text+more, c.want, len(c.text))
		}
	}
}

func TestTakeOfManyDigits(t *testing.T) { // P8.1
	for _, bits := range []int{16, 31, 32, 33, 63, 64, 65, 128, 300, 4096} { // 65 and a number that wraps to nothing
		for _, low := range []int64{0, 1, 0x41, 0x80, 0x10FFFF} {
			n := new(big.Int).Add(new(big.Int).Lsh(big.NewInt(1), uint(bits)), big.NewInt(low))
			for _, text := range []string{"&#" + n.String() + ";", "&#x" + n.Text(16) + ";", "&#X" + strings.ToUpper(n.Text(16)) + ";"} {
				checkTake(t, text+"&lt;", modelNumber(n), len(text))
			}
		}
	}
	for _, zeros := range []int{1, 7, 8, 19, 20, 21, 64, 1000} {
		ahead := strings.Repeat("0", zeros)
		for _, c := range [][2]string{
			{"&#" + ahead + "65;", "A"}, {"&#x" + ahead + "41;", "A"}, {"&#X" + ahead + "4a;", "J"}, {"&#" + ahead + "128;", "\xe2\x82\xac"}, {"&#" + ahead + "1114111;", "\xf4\x8f\xbf\xbf"}, {"&#x" + ahead + "10FFFF;", "\xf4\x8f\xbf\xbf"},
			{"&#" + ahead + ";", wrong}, {"&#x" + ahead + ";", wrong}, {"&#" + ahead + "1114112;", wrong}, {"&#x" + ahead + "ffffffffffffffffffff;", wrong}, {"&#65" + ahead + ahead + ahead + ahead + ahead + ahead + ";", wrong},
		} {
			checkTake(t, c[0]+"1", c[1], len(c[0]))
		}
		checkTake(t, "&#"+ahead, "", 0)
		checkTake(t, "&#x"+ahead+"41", "", 0)
		checkTake(t, "&#"+ahead+"a;", "", 0)
		checkTake(t, "&"+ahead+"65;", "", 0)
	}
}

func TestTakeOfNone(t *testing.T) { // P8.1
	for _, text := range noReferences() {
		checkTake(t, text, "", 0)
	}
	for _, text := range someReferences() {
		for _, ahead := range []string{" ", "a", ";", "&", "#", "&#", "&#x", "\x00", "\xff"} {
			checkTake(t, ahead+text, "", 0)
		}
		for i := range len(text) { // neither a beginning nor an end of one
			checkTake(t, text[:i], "", 0)
			checkTake(t, text[i+1:], "", 0)
		}
	}
}

func TestTakeBesideReferences(t *testing.T) { // P8.1
	for _, text := range []string{"&amp;", "&lt;", "&gt;", "&quot;", "&apos;", "&nbsp;", "&#65;", "&#8364;", "&#x41;", "&#Xfe;", "&#0;", "&#x0;"} {
		for _, other := range beside(text) {
			want, size := modelTake(other)
			checkTake(t, other, want, size)
		}
	}
}

func TestTakeAgainstModel(t *testing.T) { // P8.1
	for _, text := range append(manyTexts(), someTexts()...) {
		want, size := modelTake(text)
		checkTake(t, text, want, size)
	}
	for a := range 256 { // all that may stand for digits
		for b := range 256 {
			for _, begin := range []string{"&#", "&#x", "&#X1"} {
				text := begin + string([]byte{byte(a), byte(b)}) + ";"
				want, size := modelTake(text)
				checkTake(t, text, want, size)
			}
		}
	}
}

func TestDecode(t *testing.T) { // P8.1
	checkDecode(t, [][2]api.Str{
		{str("&#x80;", 6, 0), str("\xe2\x82\xac", 3, 0)}, // the chapter's example
		{str(""), str("")},
		{str("", 4, 4), str("")},
		{str("&amp;", 5, 1), str("&", 1, 1)},
		{str("&lt;&gt;&quot;&apos;&nbsp;", 26, 1), str("<>\"'\xc2\xa0", 6, 1)},
		{str("a&lt;b", 6, 1), str("a<b", 3, 1)},
		{str("&lt;a&gt;", 9, 1), str("<a>", 3, 1)},
		{str("&#65;&#x42;&#X43;", 17, 1), str("ABC", 3, 1)},
		{str("&#0;", 4, 1), str(wrong, 3, 1)},
		{str("&#xD800;&#xDFFF;&#x110000;", 26, 1), str(wrong+wrong+wrong, 9, 1)},
		{str("&#x10FFFF;", 10, 3), str("\xf4\x8f\xbf\xbf", 4, 3)},
		{str("&#233;", 6, 3), str("\xc3\xa9", 2, 3)},
		{str("&#99999999999999999999;", 23, 1), str(wrong, 3, 1)},
		{str("&#000000000000000000000065;", 27, 1), str("A", 1, 1)},
		{str("&lt;;", 5, 1), str("<;", 2, 1)},
		{str("&lt", 3, 1), str("&lt", 3, 1)},
	})
}

func TestDecodeLeavesWhatIsNone(t *testing.T) { // P8.1
	for _, text := range noReferences() {
		for _, s := range []api.Str{mark.Of(text, 1), mark.Cat(mark.Of(text, 2), mark.Of("b", 1)), mark.Cat(mark.Of("b", 2), mark.Of(text, 1))} {
			if got := Decode(s); !alike(got, s) {
				t.Errorf("Decode(%#v) = %#v", s, got)
			}
		}
	}
}

func TestDecodeBesideWhatIsNone(t *testing.T) { // P8.1
	checkDecode(t, [][2]api.Str{
		{str("&&lt;", 1, 1, 4, 2), str("&<", 1, 1, 1, 2)}, // an & ahead
		{str("&&&lt;&", 7, 1), str("&&<&", 4, 1)},
		{str("&#&#65;", 2, 3, 5, 1), str("&#A", 2, 3, 1, 1)},
		{str("&#x&#65;", 8, 1), str("&#xA", 4, 1)},
		{str("&#65&#66;", 4, 1, 5, 2), str("&#65B", 4, 1, 1, 2)},
		{str("&lt&gt;", 7, 1), str("&lt>", 4, 1)},
		{str("&LT;&lt;", 8, 1), str("&LT;<", 5, 1)},
		{str("&lt;&l", 4, 1, 2, 2), str("<&l", 1, 1, 2, 2)},
		{str("&lt;&", 4, 1, 1, 2), str("<&", 1, 1, 1, 2)},
		{str("&#65;5;", 5, 0, 2, 1), str("A5;", 1, 0, 2, 1)},
		{str("&am&amp;p;", 10, 1), str("&am&p;", 6, 1)}, // one within what another one leaves
		{str("&#3&#56;;", 9, 1), str("&#38;", 5, 1)},
		{str("&l&#116;;", 9, 1), str("&lt;", 4, 1)},
	})
}

func TestDecodeDoesNotLookAgain(t *testing.T) { // P8.1: what a reference stands for begins none
	checkDecode(t, [][2]api.Str{
		{str("&amp;lt;", 8, 1), str("&lt;", 4, 1)},
		{str("&amp;lt;", 5, 5, 3, 1), str("&lt;", 1, 5, 3, 1)},
		{str("&amp;amp;", 9, 1), str("&amp;", 5, 1)},
		{str("&amp;amp;amp;", 13, 1), str("&amp;amp;", 9, 1)},
		{str("&#38;lt;", 8, 1), str("&lt;", 4, 1)},
		{str("&#x26;#x26;", 11, 1), str("&#x26;", 6, 1)},
		{str("&#38;&#35;&#54;&#53;&#59;", 25, 1), str("&#65;", 5, 1)},
		{str("&amp;&lt;", 9, 1), str("&<", 2, 1)},
		{str("&&#108;&#116;;", 14, 1), str("&lt;", 4, 1)},
		{str("&&amp;lt;", 9, 1), str("&&lt;", 5, 1)},
	})
}

func TestDecodeTellsTheWorstOrigin(t *testing.T) { // P8.1
	for _, text := range someReferences() {
		want, size := modelTake(text)
		if size != len(text) {
			t.Fatalf("%q is no reference", text)
		}
		for i := range len(text) { // each place in turn
			for _, origins := range [][2]int{{0, 1}, {1, 2}, {0, top}, {top - 1, top}} {
				one, worst := origins[0], origins[1]
				s := mark.Cat(mark.Of("a", one), mark.Of(text[:i], one), mark.Of(text[i:i+1], worst), mark.Of(text[i+1:], one), mark.Of("b", one))
				checkDecode(t, [][2]api.Str{{s, mark.Cat(mark.Of("a", one), mark.Of(want, worst), mark.Of("b", one))}})
				s = mark.Cat(mark.Of("a", worst), mark.Of(text, one), mark.Of("b", worst)) // not of what stands beside
				checkDecode(t, [][2]api.Str{{s, mark.Cat(mark.Of("a", worst), mark.Of(want, one), mark.Of("b", worst))}})
			}
		}
	}
	checkDecode(t, [][2]api.Str{
		{str("&lt;", 1, 3, 1, 1, 1, 2, 1, 0), str("<", 1, 3)},
		{str("&lt;", 1, 1, 1, 2, 1, 0, 1, 3), str("<", 1, 3)},
		{str("&lt;&gt;", 4, 9, 4, 0), str("<>", 1, 9, 1, 0)},
		{str("&lt;&gt;", 3, 0, 2, 2, 3, 0), str("<>", 2, 2)}, // one run
		{str("&lt;&gt;", 1, 1, 1, 2, 4, 1, 1, 2, 1, 1), str("<>", 2, 2)},
		{str("&nbsp;", 5, 0, 1, 4), str("\xc2\xa0", 2, 4)},
		{str("&#x80;&lt;", 1, 4, 5, 0, 4, 1), str("\xe2\x82\xac<", 3, 4, 1, 1)},
		{str("&lt;x", 2, 1, 1, 4, 2, 2), str("<x", 1, 4, 1, 2)},
		{str("&l", 1, 5, 1, 1), str("&l", 1, 5, 1, 1)}, // bytes that stay keep theirs
		{str("&l x;", 1, 5, 1, 1, 1, 3, 1, 0, 1, 9), str("&l x;", 1, 5, 1, 1, 1, 3, 1, 0, 1, 9)},
		{str("&&lt;", 1, 9, 1, 1, 1, 2, 2, 0), str("&<", 1, 9, 1, 2)},
	})
}

func TestDecodeAgainstModel(t *testing.T) { // P8.1
	all := labels()
	list := someStrs()
	for i, text := range manyTexts() {
		list = append(list, api.Str{Text: text, Runs: all[i%len(all)]})
	}
	for i, text := range beside("&lt;&#65;&#x4f;") {
		list = append(list, api.Str{Text: text, Runs: all[i%len(all)]})
	}
	for _, s := range list {
		got, want := Decode(s), modelDecode(s)
		if !alike(got, want) {
			t.Fatalf("Decode(%#v) = %#v, want %#v", s, got, want)
		}
		if mark.Check(got) != api.OK {
			t.Fatalf("Decode(%#v) = %#v is not as told", s, got)
		}
	}
}

func TestWithoutAmpersandNothingChanges(t *testing.T) { // P8.2
	for _, s := range someStrs() {
		s.Text = strings.ReplaceAll(s.Text, "&", "")
		if got := Decode(s); !alike(got, mark.Fix(s)) {
			t.Errorf("Decode(%#v) = %#v", s, got)
		}
		if part, size := Take(s.Text); part != "" || size != 0 {
			t.Errorf("Take(%q) = %q, %d", s.Text, part, size)
		}
	}
	for b := range 256 {
		if b == '&' {
			continue
		}
		for _, rest := range []string{"lt;", "amp;", "#65;", "#x41;", "#", ";"} {
			s := str(string([]byte{byte(b)})+rest, 1, b, 2, 1)
			if got := Decode(s); !alike(got, mark.Fix(s)) {
				t.Errorf("Decode(%#v) = %#v", s, got)
			}
		}
	}
}

func TestTextsNotAsTold(t *testing.T) { // P8.1, and P5 of DOC.md
	checkDecode(t, [][2]api.Str{
		{str("&lt;a"), str("<a", 2, top)},
		{str("&lt;a", 3, 0), str("<a", 2, top)},
		{str("&lt;a", 4, 0), str("<a", 1, 0, 1, top)},
		{str("&lt;a", 4, -9, 1, math.MaxInt), str("<a", 1, 0, 1, top)},
		{str("&lt;a", math.MaxInt, 3, math.MaxInt, 4), str("<a", 2, 3)},
		{str("&lt;a", 0, 7, -1, 8, 5, 2, 3, 9), str("<a", 2, 2)},
		{str("&lt;a", 2, 1, 2, 1, 1, 1), str("<a", 2, 1)},
		{str("&lt;a", 1, top+5, 9, 0), str("<a", 1, top, 1, 0)},
		{str("&l", 1, 0), str("&l", 1, 0, 1, top)},
		{str("", 5, 5), str("")},
		{str("", -1, 0), str("")},
		{str("", math.MaxInt, math.MinInt), str("")},
	})
	for _, s := range someStrs() {
		if got, want := Decode(s), Decode(mark.Fix(s)); !alike(got, want) {
			t.Fatalf("Decode(%#v) = %#v, and as taken %#v", s, got, want)
		}
	}
}

func TestArgumentsAreNotChanged(t *testing.T) { // P8.3
	for _, s := range someStrs() {
		before := slices.Clone(s.Runs)
		Decode(s)
		if !slices.Equal(s.Runs, before) {
			t.Fatalf("runs changed from %v to %v", before, s.Runs)
		}
	}
	own := []api.Run{{Len: 5, Origin: 0}, {Len: 7, Origin: 7}}
	s := api.Str{Text: "a&lt;b", Runs: own[:1]} // an append in place would write to own[1]
	checkDecode(t, [][2]api.Str{{s, str("a<b", 2, 0, 1, top)}})
	if own[0] != (api.Run{Len: 5, Origin: 0}) || own[1] != (api.Run{Len: 7, Origin: 7}) {
		t.Errorf("memory behind the runs changed: %v", own)
	}
}

func TestAnswersAreNewMemory(t *testing.T) { // P8.3
	for _, s := range someStrs() {
		before := slices.Clone(s.Runs)
		first, second := Decode(s), Decode(s)
		want := mark.Fix(second)
		runs := first.Runs[:cap(first.Runs)]
		for i := range runs {
			runs[i] = api.Run{Len: -9, Origin: -9}
		}
		if !alike(second, want) {
			t.Fatalf("Decode(%#v): two answers share runs", s)
		}
		if !slices.Equal(s.Runs, before) {
			t.Fatalf("Decode(%#v): an answer shares runs with the argument", s)
		}
		checkDecode(t, [][2]api.Str{{s, want}})
		if shares(first.Text, s.Text) || shares(first.Text, second.Text) {
			t.Fatalf("Decode(%#v): answers share bytes", s)
		}
	}
}

func TestTextsAreNewMemory(t *testing.T) { // P8.3
	for _, p := range pairs() {
		text := "&" + p[0] + ";"
		one, _ := Take(text)
		two, _ := Take(text)
		if shares(Named(p[0]), Named(p[0])) || shares(one, two) || shares(one, text) || shares(one, Named(p[0])) {
			t.Errorf("%q: answers share bytes", text)
		}
	}
	for _, text := range someReferences() {
		one, _ := Take(text)
		two, _ := Take(text)
		if shares(one, two) || shares(one, text) {
			t.Errorf("Take(%q): answers share bytes", text)
		}
	}
	for n := -1; n < 0x300; n++ {
		if shares(Number(n), Number(n)) {
			t.Errorf("Number(%x): answers share bytes", n)
		}
	}
}

// shares tells whether two texts have bytes of one memory.
func shares(a, b string) bool {
	if a == "" || b == "" {
		return false
	}
	p, q := uintptr(unsafe.Pointer(unsafe.StringData(a))), uintptr(unsafe.Pointer(unsafe.StringData(b)))
	return p < q+uintptr(len(b)) && q < p+uintptr(len(a))
}

func TestAnswersHangOnArgumentsAlone(t *testing.T) { // P3 of DOC.md
	for _, s := range someStrs() {
		want := Decode(s)
		part, size := Take(s.Text)
		Decode(mark.Of("&#x80;&amp;", 7))
		Take("&nbsp;")
		Number(0x91)
		Named("quot")
		checkDecode(t, [][2]api.Str{{s, want}})
		checkTake(t, s.Text, part, size)
	}
}

func TestLongTexts(t *testing.T) { // P1 of DOC.md: an end within bearable time
	const n = 1 << 18
	long := api.Str{Text: strings.Repeat("&amp;x", n)}
	for i := range len(long.Text) {
		long.Runs = append(long.Runs, api.Run{Len: 1, Origin: i % 3})
	}
	got := Decode(long) // an & of origin 2, an x of 2, by turns
	if !alike(got, mark.Of(strings.Repeat("&x", n), 2)) {
		t.Errorf("Decode has %d bytes and %d runs", len(got.Text), len(got.Runs))
	}
	for _, text := range []string{
		strings.Repeat("&", n), strings.Repeat("&#", n), strings.Repeat("&#x", n), strings.Repeat("&#9", n), strings.Repeat("&am", n),
		"&#" + strings.Repeat("9", n), "&#x" + strings.Repeat("f", n), "&#" + strings.Repeat("0", n) + "a;", "&" + strings.Repeat("amp", n), "&#" + strings.Repeat("a", n) + ";",
	} {
		if got := Decode(mark.Of(text, 1)); !alike(got, mark.Of(text, 1)) {
			t.Errorf("Decode of %q.. has %d bytes, want %d", text[:4], len(got.Text), len(text))
		}
		checkTake(t, text, "", 0)
	}
	checkTake(t, "&#"+strings.Repeat("9", n)+";", wrong, n+3)
	checkTake(t, "&#X"+strings.Repeat("0", n)+"41;", "A", n+6)
	checkTake(t, "&lt;"+strings.Repeat("&lt;", n), "<", 4)
	if got := Named(strings.Repeat("amp", n)); got != "" {
		t.Errorf("Named of a long text = %q", got)
	}
}
