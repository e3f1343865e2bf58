package escape

import (
	"html"
	"math"
	"slices"
	"strings"
	"testing"
	"unicode/utf8"
	"unsafe"

	"glazier/api"
	"glazier/entity"
	"glazier/mark"
)

const top = api.MaxOrigin

// sign is a byte and its origin; a text as signs is the model of the tests.
type sign struct {
	b      byte
	origin int
}

// signs tells the bytes of s with their origins, as chapter 1 takes them.
func signs(s api.Str) []sign {
	var out []sign
	for _, r := range s.Runs {
		for n := 0; n < r.Len && len(out) < len(s.Text); n++ {
			out = append(out, sign{s.Text[len(out)], min(max(r.Origin, 0), top)})
		}
	}
	for len(out) < len(s.Text) {
		out = append(out, sign{s.Text[len(out)], top})
	}
	return out
}

// signsOf tells the bytes of text, all of one origin.
func signsOf(text string, origin int) []sign {
	var out []sign
	for i := range len(text) {
		out = append(out, sign{text[i], origin})
	}
	return out
}

// told tells the one labelled text of these signs that is as told.
func told(l []sign) api.Str {
	var text []byte
	var s api.Str
	for i, c := range l {
		text = append(text, c.b)
		if i == 0 || l[i-1].origin != c.origin {
			s.Runs = append(s.Runs, api.Run{Origin: c.origin})
		}
		s.Runs[len(s.Runs)-1].Len++
	}
	s.Text = string(text)
	return s
}

// escaped is what is put for a byte in a text, and in a value.
func escaped(b byte, value bool) string {
	switch {
	case b == '&':
		return "&amp;"
	case b == '<':
		return "&lt;"
	case b == '>':
		return "&gt;"
	case b == '\r':
		return "&#13;"
	case b == '"' && value:
		return "&quot;"
	}
	return string([]byte{b})
}

// modelSigns tells s byte by byte as escaped tells each.
func modelSigns(s api.Str, value bool) []sign {
	var l []sign
	for _, c := range signs(s) {
		l = append(l, signsOf(escaped(c.b, value), c.origin)...)
	}
	return l
}

func modelWords(s api.Str) api.Str { return told(modelSigns(s, false)) }

func modelValue(s api.Str) api.Str { return told(modelSigns(s, true)) }

func modelQuoted(s api.Str) api.Str {
	return told(slices.Concat(signsOf(`"`, 0), modelSigns(s, true), signsOf(`"`, 0)))
}

func modelPair(name, value api.Str) api.Str {
	return told(slices.Concat(signsOf(" ", 0), signs(name), signsOf(`="`, 0), modelSigns(value, true), signsOf(`"`, 0)))
}

// modelRaw asks the library what is valid.
func modelRaw(s api.Str) bool {
	for i := range len(s.Text) {
		if b := s.Text[i]; b == '<' || b == '\r' || b == 0 {
			return false
		}
	}
	return utf8.ValidString(s.Text)
}

// str writes a labelled text: lens and origins by turns.
func str(text string, pairs ...int) api.Str {
	s := api.Str{Text: text}
	for i := 0; i+1 < len(pairs); i += 2 {
		s.Runs = append(s.Runs, api.Run{Len: pairs[i], Origin: pairs[i+1]})
	}
	return s
}

// alike holds two texts against each other field by field.
func alike(a, b api.Str) bool {
	return a.Text == b.Text && slices.Equal(a.Runs, b.Runs)
}

// allBytes are the 256 bytes, rising.
func allBytes() string {
	var all []byte
	for b := range 256 {
		all = append(all, byte(b))
	}
	return string(all)
}

// textsOf tells all texts of up to n bytes of an alphabet.
func textsOf(n int, alphabet string) []string {
	out := []string{""}
	for from := 0; n > 0; n-- {
		to := len(out)
		for _, text := range out[from:to] {
			for i := range len(alphabet) {
				out = append(out, text+alphabet[i:i+1])
			}
		}
		from = to
	}
	return out
}

// someTexts are texts of all kinds.
func someTexts() []string {
	return []string{
		"", "a", " ", "abc", "&", "<", ">", "\r", "\"", "'", "\n", "\t", "\x00", "\xff", "\x7f", "\x80", "=", "/", ";", "#",
		"a&", "&a", "a<", "<a", "a>", ">a", "a\r", "\ra", "a\"", "\"a", "a<b", "a&b", "a>b", "a\rb", "a\"b", "&&", "<<", ">>", "\r\r", "\"\"", "&<>\r\"", "\"\r><&", "<>", "\r\n", "\n\r", "\r\n\r\n",
		"<script>", "</p>", "<!-- -->", "<a b=\"c\">", "a=\"b\"", "a='b'", "&amp;", "&lt;", "&gt;", "&quot;", "&#13;", "&apos;", "&nbsp;", "&amp;lt;", "&amp;amp;", "&#60;", "&#x3c;", "&lt", "amp;", "&;", "&#;", "&#x0D;", "&\r;", "&<;", "&\"amp;",
		"\xc3\xa9", "\xe2\x82\xac<", "\xf0\x9f\x98\x80", "\xef\xbf\xbd", "\xc3", "\xe2\x82", "\xe2\x82<", "\xed\xa0\x80", "\xc0\xbc", "\xf4\x90\x80\x80", "a\xffb", "\x00<\x00", "\xbc\xbe\xa2\xa6\x8d", allBytes(), allBytes() + "&<>\r\"" + allBytes(),
	}
}

// labels are runs of all kinds, as told for some texts and not for others.
func labels() [][]api.Run {
	return [][]api.Run{
		nil, {},
		{{Len: 1, Origin: 0}},
		{{Len: 1, Origin: 4}, {Len: 1, Origin: 9}, {Len: 1, Origin: 2}},
		{{Len: 1, Origin: 0}, {Len: 1, Origin: 1}, {Len: 1, Origin: 0}, {Len: 1, Origin: 1}, {Len: 1, Origin: 0}},
		{{Len: 1, Origin: 1}, {Len: 1, Origin: 0}, {Len: 2, Origin: 2}, {Len: 1, Origin: 0}, {Len: 1, Origin: 1}},
		{{Len: 2, Origin: 0}, {Len: 2, Origin: 7}, {Len: 999, Origin: 1}},
		{{Len: 1, Origin: 3}, {Len: 1, Origin: 3}, {Len: 2, Origin: 3}},
		{{Len: math.MaxInt, Origin: 0}},
		{{Len: math.MaxInt, Origin: 5}, {Len: math.MaxInt, Origin: 6}},
		{{Len: math.MinInt, Origin: 8}, {Len: 1, Origin: -1}, {Len: 0, Origin: 8}, {Len: 1, Origin: math.MinInt}},
		{{Len: 1, Origin: top + 1}, {Len: 1, Origin: math.MaxInt}, {Len: 1, Origin: 0}},
		{{Len: 1, Origin: top}, {Len: -1, Origin: 0}, {Len: 2, Origin: top - 1}},
	}
}

// someStrs tells each of someTexts with each of labels.
func someStrs() []api.Str {
	var out []api.Str
	for _, text := range someTexts() {
		for _, runs := range labels() {
			out = append(out, api.Str{Text: text, Runs: slices.Clone(runs)})
		}
	}
	return out
}

// fewStrs tells a few of someStrs, for tests that take pairs.
func fewStrs() []api.Str {
	var out []api.Str
	for i, s := range someStrs() {
		if i%29 == 0 {
			out = append(out, s)
		}
	}
	return append(out, str(""), str("", 1, 1), str("a", 1, 0), str("a", 1, 1), str("a<b", 1, 0, 1, 1, 1, 0), str("a\"b", 3, 2), str("\"", 1, 0))
}

// named is one of the calls that tell a labelled text, of one or of two.
type named struct {
	name  string
	call  func(s api.Str) api.Str
	model func(s api.Str) api.Str
}

// calls are those calls; Pair stands among them with one of its texts told ahead.
func calls() []named {
	name, value := str("ti\"tle", 2, 0, 4, 1), str("a\"b", 1, 0, 2, 1)
	return []named{
		{"Words", Words, modelWords},
		{"Value", Value, modelValue},
		{"Quoted", Quoted, modelQuoted},
		{"Pair of a name", func(s api.Str) api.Str { return Pair(s, value) }, func(s api.Str) api.Str { return modelPair(s, value) }},
		{"Pair of a value", func(s api.Str) api.Str { return Pair(name, s) }, func(s api.Str) api.Str { return modelPair(name, s) }},
	}
}

// check holds the answers of one call against what is wanted.
func check(t *testing.T, name string, call func(s api.Str) api.Str, cases [][2]api.Str) {
	t.Helper()
	for _, c := range cases {
		if got := call(c[0]); !alike(got, c[1]) {
			t.Errorf("%s(%#v) = %#v, want %#v", name, c[0], got, c[1])
		}
	}
}

func TestWords(t *testing.T) { // P9.1
	check(t, "Words", Words, [][2]api.Str{
		{str("a<b", 3, 0), str("a&lt;b", 6, 0)}, // the chapter's example
		{str(""), str("")},
		{str("", 4, 4), str("")},
		{str("abc", 3, 1), str("abc", 3, 1)},
		{str("&", 1, 1), str("&amp;", 5, 1)},
		{str("<", 1, 1), str("&lt;", 4, 1)},
		{str(">", 1, 1), str("&gt;", 4, 1)},
		{str("\r", 1, 1), str("&#13;", 5, 1)},
		{str("\"", 1, 1), str("\"", 1, 1)}, // in words it stays
		{str("'", 1, 1), str("'", 1, 1)},
		{str("\n", 1, 1), str("\n", 1, 1)},
		{str("\xa0", 1, 1), str("\xa0", 1, 1)},
		{str("\xc2\xa0", 2, 1), str("\xc2\xa0", 2, 1)},
		{str("\x00\xff", 2, 1), str("\x00\xff", 2, 1)},
		{str("\r\n", 2, 1), str("&#13;\n", 6, 1)},
		{str("<a b=\"c&d\">\r</a>", 16, 0), str("&lt;a b=\"c&amp;d\"&gt;&#13;&lt;/a&gt;", 36, 0)},
		{str("&<>\r\"", 5, 3), str("&amp;&lt;&gt;&#13;\"", 19, 3)},
	})
}

func TestValue(t *testing.T) { // P9.1
	check(t, "Value", Value, [][2]api.Str{
		{str("a<b", 3, 0), str("a&lt;b", 6, 0)},
		{str(""), str("")},
		{str("", 4, 4), str("")},
		{str("abc", 3, 1), str("abc", 3, 1)},
		{str("&", 1, 1), str("&amp;", 5, 1)},
		{str("<", 1, 1), str("&lt;", 4, 1)},
		{str(">", 1, 1), str("&gt;", 4, 1)},
		{str("\r", 1, 1), str("&#13;", 5, 1)},
		{str("\"", 1, 1), str("&quot;", 6, 1)},
		{str("'", 1, 1), str("'", 1, 1)},
		{str("\"\"", 1, 1, 1, 2), str("&quot;&quot;", 6, 1, 6, 2)},
		{str("a\"b", 3, 1), str("a&quot;b", 8, 1)},
		{str("&<>\r\"", 5, 3), str("&amp;&lt;&gt;&#13;&quot;", 24, 3)},
	})
}

func TestQuoted(t *testing.T) { // P9.1
	check(t, "Quoted", Quoted, [][2]api.Str{
		{str(""), str("\"\"", 2, 0)},
		{str("", 4, 4), str("\"\"", 2, 0)},
		{str("abc", 3, 0), str("\"abc\"", 5, 0)},
		{str("abc", 3, 1), str("\"abc\"", 1, 0, 3, 1, 1, 0)}, // the quotes are trusted
		{str("abc", 3, top), str("\"abc\"", 1, 0, 3, top, 1, 0)},
		{str("abc", 1, 0, 1, 5, 1, 0), str("\"abc\"", 2, 0, 1, 5, 2, 0)},
		{str("abc", 1, 5, 1, 0, 1, 6), str("\"abc\"", 1, 0, 1, 5, 1, 0, 1, 6, 1, 0)},
		{str("\"", 1, 0), str("\"&quot;\"", 8, 0)},
		{str("\"", 1, 1), str("\"&quot;\"", 1, 0, 6, 1, 1, 0)},
		{str("\"a\"", 3, 1), str("\"&quot;a&quot;\"", 1, 0, 13, 1, 1, 0)},
		{str("'", 1, 1), str("\"'\"", 1, 0, 1, 1, 1, 0)},
		{str("&<>\r", 4, 1), str("\"&amp;&lt;&gt;&#13;\"", 1, 0, 18, 1, 1, 0)},
	})
}

func TestPair(t *testing.T) { // P9.1
	for _, c := range []struct{ name, value, want api.Str }{
		{str("title", 5, 0), str("a\"b", 3, 1), str(" title=\"a&quot;b\"", 8, 0, 8, 1, 1, 0)}, // DOC.md's first example
		{str("title", 5, 0), str("ab", 2, 0), str(" title=\"ab\"", 11, 0)},
		{str("title", 5, 2), str("ab", 2, 1), str(" title=\"ab\"", 1, 0, 5, 2, 2, 0, 2, 1, 1, 0)},
		{str("title", 5, 2), str("ab", 2, 0), str(" title=\"ab\"", 1, 0, 5, 2, 5, 0)},
		{str("title", 5, 1), str("ab", 2, 1), str(" title=\"ab\"", 1, 0, 5, 1, 2, 0, 2, 1, 1, 0)}, // of one origin, but = and " stand between
		{str("title", 5, 0), str(""), str(" title=\"\"", 9, 0)},
		{str("title", 5, 3), str(""), str(" title=\"\"", 1, 0, 5, 3, 3, 0)},
		{str(""), str("ab", 2, 1), str(" =\"ab\"", 3, 0, 2, 1, 1, 0)},
		{str(""), str(""), str(" =\"\"", 4, 0)},
		{str("", 3, 3), str("", 4, 4), str(" =\"\"", 4, 0)},
		{str("ab", 1, 1, 1, 0), str("cd", 1, 0, 1, 1), str(" ab=\"cd\"", 1, 0, 1, 1, 4, 0, 1, 1, 1, 0)},
		{str("<&>\r\"'= \x00\xff", 10, 1), str("", 0, 0), str(" <&>\r\"'= \x00\xff=\"\"", 1, 0, 10, 1, 3, 0)}, // a name is put as it is
		{str("&amp;", 5, 0), str("&amp;", 5, 1), str(" &amp;=\"&amp;amp;\"", 8, 0, 9, 1, 1, 0)},
		{str("a"), str("b"), str(" a=\"b\"", 1, 0, 1, top, 2, 0, 1, top, 1, 0)},
		{str("ab", 1, -4, 1, top+4), str("cd", 0, 9, 7, 2), str(" ab=\"cd\"", 2, 0, 1, top, 2, 0, 2, 2, 1, 0)},
	} {
		if got := Pair(c.name, c.value); !alike(got, c.want) {
			t.Errorf("Pair(%#v, %#v) = %#v, want %#v", c.name, c.value, got, c.want)
		}
	}
}

func TestPairOfAllBytes(t *testing.T) { // P9.1: a name's bytes as they are, a value's escaped
	for b := range 256 {
		one := string([]byte{byte(b)})
		got := Pair(str("n"+one+"m", 1, 0, 2, 3), str("v"+one+"w", 1, 0, 1, 4, 1, 0))
		put := escaped(byte(b), true)
		want := str(" n"+one+"m=\"v"+put+"w\"", 2, 0, 2, 3, 3, 0, len(put), 4, 2, 0)
		if !alike(got, want) {
			t.Errorf("Pair of byte %x = %#v, want %#v", b, got, want)
		}
	}
}

func TestPairAgainstModel(t *testing.T) { // P9.1
	for _, name := range fewStrs() {
		for _, value := range fewStrs() {
			got, want := Pair(name, value), modelPair(name, value)
			if !alike(got, want) {
				t.Fatalf("Pair(%#v, %#v) = %#v, want %#v", name, value, got, want)
			}
		}
	}
}

func TestAllBytes(t *testing.T) { // P9.1: alone, first, last, within, and beside one another
	for b := range 256 {
		one := string([]byte{byte(b)})
		for _, text := range []string{one, one + "a", "a" + one, "a" + one + "b", one + one, one + "a" + one, one + ";", one + "lt;", "&" + one, one + "&", "<" + one, one + "<", "\r" + one, one + "\r", "\"" + one, one + "\"", ">" + one, one + ">"} {
			for _, s := range []api.Str{mark.Of(text, 0), mark.Of(text, 1), str(text, 1, 1, 1, 2, 1, 3, 1, 4), str(text, 1, 0, 1, 7, 9, 0)} {
				for _, c := range calls() {
					check(t, c.name, c.call, [][2]api.Str{{s, c.model(s)}})
				}
			}
		}
	}
}

func TestOtherBytesStay(t *testing.T) { // P9.1
	for b := range 256 {
		one := string([]byte{byte(b)})
		if strings.Contains("&<>\r", one) {
			continue
		}
		s := str("a"+one+"b", 1, 1, 1, 2, 1, 1)
		check(t, "Words", Words, [][2]api.Str{{s, s}})
		if b != '"' {
			check(t, "Value", Value, [][2]api.Str{{s, s}})
		}
	}
}

func TestSideBySide(t *testing.T) { // P9.1
	for i, text := range textsOf(5, "&<>\r\"a") {
		runs := labels()[i%len(labels())]
		s := api.Str{Text: text, Runs: runs}
		for _, c := range calls() {
			check(t, c.name, c.call, [][2]api.Str{{s, c.model(s)}})
		}
	}
}

func TestEscapedAgain(t *testing.T) { // P9.1: what is escaped already is a text like another
	check(t, "Words", Words, [][2]api.Str{
		{str("&amp;", 5, 1), str("&amp;amp;", 9, 1)},
		{str("&lt;", 4, 1), str("&amp;lt;", 8, 1)},
		{str("&#13;", 5, 1), str("&amp;#13;", 9, 1)},
		{str("&quot;", 6, 1), str("&amp;quot;", 10, 1)},
		{str("&amp;lt;", 8, 1), str("&amp;amp;lt;", 12, 1)},
		{str("&nbsp;&copy;&#65;&#x41;", 23, 1), str("&amp;nbsp;&amp;copy;&amp;#65;&amp;#x41;", 39, 1)},
		{str("&lt;", 1, 2, 3, 1), str("&amp;lt;", 5, 2, 3, 1)},
		{Words(str("<", 1, 1)), str("&amp;lt;", 8, 1)},
		{Words(Words(str("a&b", 1, 1, 1, 2, 1, 3))), str("a&amp;amp;amp;b", 1, 1, 13, 2, 1, 3)},
	})
	check(t, "Value", Value, [][2]api.Str{
		{str("&quot;", 6, 1), str("&amp;quot;", 10, 1)},
		{Value(str("\"", 1, 1)), str("&amp;quot;", 10, 1)},
		{Quoted(str("\"", 1, 1)), str("&quot;&amp;quot;&quot;", 6, 0, 10, 1, 6, 0)},
		{Words(str("\"<", 2, 1)), str("&quot;&amp;lt;", 14, 1)},
	})
	for _, s := range someStrs() {
		for _, c := range calls() {
			once := c.call(s)
			check(t, c.name, c.call, [][2]api.Str{{once, c.model(once)}})
		}
	}
}

func TestOriginsOfEachByte(t *testing.T) { // P9.1: each byte's origin for all of what is put
	for _, b := range []byte("&<>\r\"a") {
		one, put, words := string([]byte{b}), escaped(b, true), escaped(b, false)
		n := len(put)
		for _, origin := range []int{0, 1, top - 1, top} {
			if got := Value(str(one, 1, origin)); !alike(got, str(put, n, origin)) {
				t.Errorf("Value(%q) of origin %d = %#v", one, origin, got)
			}
			if got := Words(str(one, 1, origin)); !alike(got, str(words, len(words), origin)) {
				t.Errorf("Words(%q) of origin %d = %#v", one, origin, got)
			}
		}
		check(t, "Value", Value, [][2]api.Str{
			{str("x"+one+"y", 3, 1), str("x"+put+"y", n+2, 1)}, // neighbours of like origins: one run
			{str("x"+one+"y", 1, 2, 1, 1, 1, 3), str("x"+put+"y", 1, 2, n, 1, 1, 3)},
			{str("x"+one+"y", 1, 2, 1, 1, 1, 2), str("x"+put+"y", 1, 2, n, 1, 1, 2)},
			{str("x"+one+"y", 1, 1, 1, 2, 1, 1), str("x"+put+"y", 1, 1, n, 2, 1, 1)},
			{str("x"+one+"y", 2, 1, 1, 2), str("x"+put+"y", n+1, 1, 1, 2)}, // like that ahead
			{str("x"+one+"y", 1, 1, 2, 2), str("x"+put+"y", 1, 1, n+1, 2)}, // like that behind
			{str(one+one, 2, 1), str(put+put, 2*n, 1)},
			{str(one+one, 1, 1, 1, 2), str(put+put, n, 1, n, 2)},
			{str(one+one+one, 1, 0, 1, 1, 1, 0), str(put+put+put, n, 0, n, 1, n, 0)},
			{str(one+"&"+one, 1, 1, 1, 2, 1, 1), str(put+"&amp;"+put, n, 1, 5, 2, n, 1)},
		})
	}
}

func TestAgainstModel(t *testing.T) { // P9.1
	for _, s := range someStrs() {
		for _, c := range calls() {
			got, want := c.call(s), c.model(s)
			if !alike(got, want) {
				t.Fatalf("%s(%#v) = %#v, want %#v", c.name, s, got, want)
			}
			if mark.Check(got) != api.OK {
				t.Fatalf("%s(%#v) = %#v is not as told", c.name, s, got)
			}
		}
	}
}

func TestRaw(t *testing.T) { // P9.1
	for _, text := range []string{
		"", "a", " ", "\n", "\t", "\x01", "\x0c", "\x1f", "\x7f", ">", "&", "\"", "'", "=", "/", "\n\n", "a > b && c", "a -> b", "&lt;", "&#13;", "/script>", "-->", "\"a\"",
		"\xc2\x80", "\xc3\xa9", "\xdf\xbf", "\xe0\xa0\x80", "\xe2\x82\xac", "\xed\x9f\xbf", "\xee\x80\x80", "\xef\xbf\xbd", "\xef\xbb\xbf", "\xef\xbf\xbf", "\xf0\x90\x80\x80", "\xf0\x9f\x98\x80", "\xf4\x8f\xbf\xbf",
		"\xc8\x8d", "\xc4\xbc", "\xef\xbc\x9c", "\xe0\xbc\x8d", // bytes and runes that end like <, or like a return
	} {
		if !Raw(mark.Of(text, 1)) {
			t.Errorf("Raw(%q) = false", text)
		}
	}
	for _, part := range []string{
		"<", "</", "<script", "\r", "\r\n", "\x00", "\x00\x00", "<\r\x00",
		"\x80", "\xbf", "\xc0\x80", "\xc0\xbc", "\xc1\xbf", "\xc3", "\xe2\x82", "\xe0\x80\x80", "\xe0\x9f\xbf", "\xed\xa0\x80", "\xed\xbf\xbf", "\xf0\x8f\xbf\xbf", "\xf0\x9f\x98", "\xf4\x90\x80\x80", "\xf5\x80\x80\x80", "\xff", "\xfe",
	} {
		for _, text := range []string{part, part + "ab", "a" + part + "b", "ab" + part, part + part, "\xc3\xa9" + part + "\xc3\xa9"} { // at the beginning, inside, at the end
			if Raw(mark.Of(text, 0)) || Raw(mark.Of(text, 1)) {
				t.Errorf("Raw(%q) = true", text)
			}
		}
	}
}

func TestRawOfAllBytes(t *testing.T) { // P9.1
	for a := range 256 {
		one := str(string([]byte{byte(a)}), 1, 1)
		if got, want := Raw(one), a < 0x80 && a != '<' && a != '\r' && a != 0; got != want {
			t.Errorf("Raw(%q) = %v", one.Text, got)
		}
		for b := range 256 {
			for _, text := range []string{string([]byte{byte(a), byte(b)}), "x" + string([]byte{byte(a), byte(b), 0x80}), string([]byte{0xF1, byte(a), byte(b), 0xBF})} {
				s := mark.Of(text, 1)
				if got, want := Raw(s), modelRaw(s); got != want {
					t.Fatalf("Raw(%q) = %v", text, got)
				}
			}
		}
	}
}

func TestRawAsksNoOrigins(t *testing.T) { // P9.1
	for _, s := range someStrs() {
		if got, want := Raw(s), modelRaw(s); got != want {
			t.Errorf("Raw(%#v) = %v", s, got)
		}
	}
}

func TestWhatIsEscapedHasNone(t *testing.T) { // P9.2
	for _, s := range someStrs() {
		if words := Words(s); strings.ContainsAny(words.Text, "<>\r") {
			t.Errorf("Words(%#v) = %#v", s, words)
		}
		if value := Value(s); strings.ContainsAny(value.Text, "<>\r\"") {
			t.Errorf("Value(%#v) = %#v", s, value)
		}
		quoted := Quoted(s).Text
		if strings.Count(quoted, "\"") != 2 || quoted[0] != '"' || quoted[len(quoted)-1] != '"' || strings.ContainsAny(quoted, "<>\r") {
			t.Errorf("Quoted(%#v) = %q", s, quoted)
		}
		pair := Pair(str("a", 1, 0), s).Text
		if pair != " a="+quoted {
			t.Errorf("Pair(a, %#v) = %q", s, pair)
		}
	}
}

func TestDecodedIsTheText(t *testing.T) { // P9.2
	list := someStrs()
	for i, text := range textsOf(5, "&<\r\"a;") {
		list = append(list, api.Str{Text: text, Runs: labels()[i%len(labels())]})
	}
	for _, part := range []string{"amp;", "lt;", "#13;", "#x26;", "amp", "#", "lt"} {
		for _, ahead := range []string{"&", "&&", "<", "\r", "\"", "&amp;", "a"} {
			list = append(list, str(ahead+part, len(ahead), 2, len(part), 1), str(ahead+part, len(ahead), 1, len(part), 1))
		}
	}
	for _, s := range list {
		want := told(signs(s))
		for _, got := range []api.Str{Words(s), Value(s)} {
			if back := entity.Decode(got); !alike(back, want) {
				t.Fatalf("decoded, %#v is %#v, want %#v", got, back, want)
			}
			if back := html.UnescapeString(got.Text); back != s.Text { // as others decode it
				t.Fatalf("unescaped, %q is %q, want %q", got.Text, back, s.Text)
			}
		}
		n := len(Quoted(s).Text)
		if back := entity.Decode(mark.Cut(Quoted(s), 1, n-1)); !alike(back, want) {
			t.Fatalf("decoded, what %#v is between quotes is %#v", s, back)
		}
	}
}

func TestTextsNotAsTold(t *testing.T) { // P9.1, and P5 of DOC.md
	check(t, "Words", Words, [][2]api.Str{
		{str("a<b"), str("a&lt;b", 6, top)},
		{str("a<b", 1, 0), str("a&lt;b", 1, 0, 5, top)},
		{str("a<b", 2, 0), str("a&lt;b", 5, 0, 1, top)},
		{str("a<b", 1, -9, 9, math.MaxInt), str("a&lt;b", 1, 0, 5, top)},
		{str("a<b", math.MaxInt, 3, math.MaxInt, 4), str("a&lt;b", 6, 3)},
		{str("a<b", 0, 7, -1, 8, 2, 2, 3, 9), str("a&lt;b", 5, 2, 1, 9)},
		{str("a<b", 1, 1, 1, 1, 1, 1), str("a&lt;b", 6, 1)},
		{str("a<b", 1, top+5, 1, top, 9, 0), str("a&lt;b", 5, top, 1, 0)},
		{str("", -1, 0), str("")},
		{str("", math.MaxInt, math.MinInt), str("")},
	})
	check(t, "Quoted", Quoted, [][2]api.Str{
		{str("\"a"), str("\"&quot;a\"", 1, 0, 7, top, 1, 0)},
		{str("\"a", 1, -1), str("\"&quot;a\"", 7, 0, 1, top, 1, 0)},
		{str("\"a", 1, 1, 9, -9), str("\"&quot;a\"", 1, 0, 6, 1, 2, 0)},
		{str("", 9, 9), str("\"\"", 2, 0)},
	})
	for _, s := range someStrs() {
		fixed := mark.Fix(s)
		for _, c := range calls() {
			check(t, c.name, c.call, [][2]api.Str{{s, c.call(fixed)}})
		}
		if Raw(s) != Raw(fixed) {
			t.Errorf("Raw(%#v) = %v, and as taken not", s, Raw(s))
		}
	}
}

func TestArgumentsAreNotChanged(t *testing.T) { // P9.3
	for _, s := range someStrs() {
		before := slices.Clone(s.Runs)
		for _, c := range calls() {
			c.call(s)
			if !slices.Equal(s.Runs, before) {
				t.Fatalf("%s: runs changed from %v to %v", c.name, before, s.Runs)
			}
		}
		Raw(s)
		Pair(s, s)
		if !slices.Equal(s.Runs, before) {
			t.Fatalf("runs changed from %v to %v", before, s.Runs)
		}
	}
	own := []api.Run{{Len: 2, Origin: 0}, {Len: 7, Origin: 7}}
	for _, c := range calls() {
		c.call(api.Str{Text: "a<b", Runs: own[:1]}) // an append in place would write to own[1]
		if own[0] != (api.Run{Len: 2, Origin: 0}) || own[1] != (api.Run{Len: 7, Origin: 7}) {
			t.Errorf("%s: memory behind the runs changed: %v", c.name, own)
		}
	}
}

func TestAnswersAreNewMemory(t *testing.T) { // P9.3
	for _, s := range someStrs() {
		before := slices.Clone(s.Runs)
		for _, c := range calls() {
			first, second := c.call(s), c.call(s)
			want := c.model(s)
			runs := first.Runs[:cap(first.Runs)]
			for i := range runs {
				runs[i] = api.Run{Len: -9, Origin: -9}
			}
			if !alike(second, want) {
				t.Fatalf("%s(%#v): two answers share runs", c.name, s)
			}
			if !slices.Equal(s.Runs, before) {
				t.Fatalf("%s(%#v): an answer shares runs with the argument", c.name, s)
			}
			check(t, c.name, c.call, [][2]api.Str{{s, want}})
			if shares(first.Text, s.Text) || shares(first.Text, second.Text) {
				t.Fatalf("%s(%#v): answers share bytes", c.name, s)
			}
		}
	}
}

// shares tells whether two texts have bytes of one memory.
func shares(a, b string) bool {
	if a == "" || b == "" {
		return false
	}
	p, q := uintptr(unsafe.Pointer(unsafe.StringData(a))), uintptr(unsafe.Pointer(unsafe.StringData(b)))
	return p < q+uintptr(len(b)) && q < p+uintptr(len(a))
}

func TestAnswersHangOnArgumentsAlone(t *testing.T) { // P3 of DOC.md
	for _, s := range someStrs() {
		for _, c := range calls() {
			want, raw := c.call(s), Raw(s)
			for _, other := range calls() {
				other.call(mark.Of("&<>\r\"", 7))
			}
			Raw(mark.Of("<", 7))
			Raw(mark.Of("a", 7))
			check(t, c.name, c.call, [][2]api.Str{{s, want}})
			if Raw(s) != raw {
				t.Fatalf("Raw(%#v) told both", s)
			}
		}
	}
}

func TestLongTexts(t *testing.T) { // P1 of DOC.md: an end within bearable time
	const n = 1 << 17
	for _, text := range []string{strings.Repeat("&", n), strings.Repeat("a", n), strings.Repeat("&<>\r\"", n), strings.Repeat("&amp;", n)} {
		s := api.Str{Text: text}
		for i := range len(text) {
			s.Runs = append(s.Runs, api.Run{Len: 1, Origin: i % 3})
		}
		for _, c := range calls() {
			if got := c.call(s); !alike(got, c.model(s)) {
				t.Errorf("%s of %q.. has %d bytes and %d runs", c.name, text[:4], len(got.Text), len(got.Runs))
			}
		}
		if Raw(s) != modelRaw(s) || Raw(mark.Of(text+"<", 1)) {
			t.Errorf("Raw of %q.. is wrong", text[:4])
		}
	}
}
