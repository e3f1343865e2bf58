package seek

import (
	"math"
	"slices"
	"strings"
	"testing"
	"unsafe"

	"glazier/api"
	"glazier/mark"
)

const top = api.MaxOrigin

// parted are the bytes that stand between fields.
const parted = "\x09\x0a\x0c\x0d\x20"

// letter is a byte and its origin; a text as letters is the model of the tests.
type letter struct {
	b      byte
	origin int
}

// letters tells the bytes of s with their origins, asked one by one.
func letters(s api.Str) []letter {
	var out []letter
	for i := range len(s.Text) {
		out = append(out, letter{s.Text[i], mark.At(s, i)})
	}
	return out
}

// spells tells whether s is as told, and of these letters.
func spells(s api.Str, l []letter) bool {
	return mark.Check(s) == api.OK && slices.Equal(letters(s), l)
}

// spellAll tells whether the texts are as told, and of these letters, one by one.
func spellAll(got []api.Str, want [][]letter) bool {
	return slices.EqualFunc(got, want, spells)
}

// str writes a labelled text: lens and origins by turns.
func str(text string, pairs ...int) api.Str {
	s := api.Str{Text: text}
	for i := 0; i+1 < len(pairs); i += 2 {
		s.Runs = append(s.Runs, api.Run{Len: pairs[i], Origin: pairs[i+1]})
	}
	return s
}

// strs writes a list of labelled texts.
func strs(l ...api.Str) []api.Str {
	return l
}

// alike holds two texts against each other field by field.
func alike(a, b api.Str) bool {
	return a.Text == b.Text && slices.Equal(a.Runs, b.Runs)
}

// modelIndex asks all places, one by one.
func modelIndex(text string, part string, from int) int {
	for at := range len(text) + 1 {
		late := at >= from || at == len(text) // a from above the end is the end
		if late && at+len(part) <= len(text) && text[at:at+len(part)] == part {
			return at
		}
	}
	return -1
}

// modelLetter tells the small letter of a large one, other bytes as they are.
func modelLetter(b byte) byte {
	if at := strings.IndexByte("ABCDEFGHIJKLMNOPQRSTUVWXYZ", b); at >= 0 {
		return "abcdefghijklmnopqrstuvwxyz"[at]
	}
	return b
}

func modelBegins(text string, part string) bool {
	for i := range len(part) {
		if i >= len(text) || modelLetter(text[i]) != modelLetter(part[i]) {
			return false
		}
	}
	return true
}

// modelSplit puts letter by letter into the last part, and opens a new one at each
// letter of those that part.
func modelSplit(s api.Str, at string) [][]letter {
	out := [][]letter{nil}
	for _, c := range letters(s) {
		if strings.IndexByte(at, c.b) >= 0 {
			out = append(out, nil)
		} else {
			out[len(out)-1] = append(out[len(out)-1], c)
		}
	}
	return out
}

func modelFields(s api.Str) [][]letter {
	return slices.DeleteFunc(modelSplit(s, parted), func(l []letter) bool { return len(l) == 0 })
}

func modelSpan(text string, bytes string) int {
	n := 0
	for n < len(text) && strings.IndexByte(bytes, text[n]) >= 0 {
		n++
	}
	return n
}

func modelJoin(l []api.Str, by api.Str) []letter {
	var out []letter
	for i, s := range l {
		if i > 0 {
			out = append(out, letters(by)...)
		}
		out = append(out, letters(s)...)
	}
	return out
}

// allBytes are the 256 bytes, rising.
func allBytes() string {
	var all []byte
	for b := range 256 {
		all = append(all, byte(b))
	}
	return string(all)
}

// textsOf tells all texts of up to n bytes of an alphabet.
func textsOf(n int, alphabet string) []string {
	out := []string{""}
	for from := 0; n > 0; n-- {
		to := len(out)
		for _, text := range out[from:to] {
			for i := range len(alphabet) {
				out = append(out, text+alphabet[i:i+1])
			}
		}
		from = to
	}
	return out
}

// someTexts are texts of all kinds.
func someTexts() []string {
	return []string{
		"", "a", "Z", "abc", "aBcD", "@AZ[`az{", "\xc3\x89", "\xe2\x84\xaa", "\xff\xfe\x80", "\x00", "a\x00b",
		",", ",,", ",,,", "a,b", ",a", "a,", ",a,", "a,,b", ",,a,b,,", "aaa", "abab", "ababab", "aabaa",
		" ", "  ", " a", "a ", " a b ", "a  b", "\t", "\n", "\f", "\r", "\r\n", parted, parted + parted, "a" + parted + "b" + parted,
		"\x08a\x0bb\x0ec\x1fd\x21", "\x0b", "\xa0", "\xc2\xa0 \xc2\x85", "a\tb\nc\fd\re f", "\t, ,\n", allBytes(),
	}
}

// labels are runs of all kinds, as told for some texts and not for others.
func labels() [][]api.Run {
	return [][]api.Run{
		nil, {},
		{{Len: 1, Origin: 0}},
		{{Len: 1, Origin: 4}, {Len: 1, Origin: 9}, {Len: 1, Origin: 2}},
		{{Len: 1, Origin: 0}, {Len: 1, Origin: 1}, {Len: 1, Origin: 0}, {Len: 1, Origin: 1}, {Len: 1, Origin: 0}},
		{{Len: 2, Origin: 0}, {Len: 2, Origin: 7}, {Len: 3, Origin: 1}},
		{{Len: 1, Origin: 3}, {Len: 1, Origin: 3}, {Len: 2, Origin: 3}},
		{{Len: math.MaxInt, Origin: 0}},
		{{Len: math.MaxInt, Origin: 5}, {Len: math.MaxInt, Origin: 6}},
		{{Len: math.MinInt, Origin: 8}, {Len: 1, Origin: -1}, {Len: 0, Origin: 8}, {Len: 1, Origin: math.MinInt}},
		{{Len: 1, Origin: top + 1}, {Len: 1, Origin: math.MaxInt}, {Len: 1, Origin: 0}},
		{{Len: 1, Origin: top}, {Len: -1, Origin: 0}, {Len: 2, Origin: top - 1}},
	}
}

// someStrs tells each of someTexts with each of labels.
func someStrs() []api.Str {
	var out []api.Str
	for _, text := range someTexts() {
		for _, runs := range labels() {
			out = append(out, api.Str{Text: text, Runs: slices.Clone(runs)})
		}
	}
	return out
}

// someAts are bytes to split at.
func someAts() []byte {
	return []byte{',', 'a', 'A', ' ', 0, 0x80, 0xFF}
}

// somePlaces are numbers of any size that a place may be asked by.
func somePlaces() []int {
	return []int{math.MinInt, math.MinInt + 1, -2, -1, 0, 1, 2, 3, 4, 5, 6, 7, math.MaxInt - 1, math.MaxInt}
}

// someLists are lists of none, one and several.
func someLists() [][]api.Str {
	return [][]api.Str{
		nil, {},
		{str("")}, {str("a", 1, 1)}, {str("ab")}, {str("", 4, 4)},
		{str("a", 1, 0), str("b", 1, 0)}, {str(""), str("")}, {str("a", 1, 0), str("")}, {str(""), str("a", 1, 0)},
		{str("a", 1, 1), str("b", 1, 2), str("c", 1, 1)}, {str("a", 1, 1), str(""), str("", 9, 9), str("b", 1, 1)},
		{str("ab", 1, 3, 1, 4), str("ab"), str("ab", -1, 3, math.MaxInt, -4), str("\x00\xff", 1, top+1)},
	}
}

// someBys are texts to put between.
func someBys() []api.Str {
	return []api.Str{
		str(""), str("", 3, 3), str(",", 1, 0), str(",", 1, 1), str(","), str(", ", 1, 1, 1, 2), str("<->", 1, 0, 1, 5, 1, 0),
		str("ab", -1, 2, 1, -5), str("ab", math.MaxInt, top+1), str("\x00\xff", 1, 1, 0, 2, 1, 1),
	}
}

// named is one of the calls that tell lists or texts, with all arguments but one given.
type named struct {
	name string
	call func(s api.Str) []api.Str
}

// calls are those calls, with arguments of all kinds.
func calls() []named {
	out := []named{{"Fields", Fields}}
	for _, at := range someAts() {
		out = append(out, named{"Split at " + string(rune(at)), func(s api.Str) []api.Str { return Split(s, at) }})
	}
	for _, by := range someBys() {
		out = append(out, named{"Join by " + by.Text, func(s api.Str) []api.Str { return strs(Join(strs(s, str("b", 1, 1), s), by)) }})
	}
	return append(out,
		named{"Join of one", func(s api.Str) []api.Str { return strs(Join(strs(s), str(",", 1, 0))) }},
		named{"Join with it between", func(s api.Str) []api.Str { return strs(Join(strs(str("a", 1, 0), str(""), str("c", 1, 1)), s)) }},
	)
}

// checkLists holds the lists that one call answers against what is wanted.
func checkLists(t *testing.T, name string, call func(s api.Str) []api.Str, cases []listed) {
	t.Helper()
	for _, c := range cases {
		if got := call(c.s); !slices.EqualFunc(got, c.want, alike) {
			t.Errorf("%s(%#v) = %#v, want %#v", name, c.s, got, c.want)
		}
	}
}

// listed is a text, and the list wanted of it.
type listed struct {
	s    api.Str
	want []api.Str
}

func TestIndex(t *testing.T) { // P4.1
	cases := []struct {
		text string
		part string
		from int
		want int
	}{
		{"abc", "b", 0, 1}, {"abc", "b", 1, 1}, {"abc", "b", 2, -1}, {"abc", "abc", 0, 0}, {"abc", "c", 2, 2},
		{"abcabc", "bc", 0, 1}, {"abcabc", "bc", 1, 1}, {"abcabc", "bc", 2, 4}, {"abcabc", "bc", 4, 4}, {"abcabc", "bc", 5, -1},
		{"abc", "a", -1, 0}, {"abc", "b", -5, 1}, {"abc", "a", math.MinInt, 0}, {"abc", "x", math.MinInt, -1}, // from below 0
		{"abc", "c", 3, -1}, {"abc", "c", 4, -1}, {"abc", "c", math.MaxInt, -1}, // at the end, and above it
		{"abc", "", 0, 0}, {"abc", "", 2, 2}, {"abc", "", 3, 3}, {"abc", "", 4, 3}, {"abc", "", math.MaxInt, 3}, {"abc", "", -1, 0}, {"abc", "", math.MinInt, 0},
		{"", "", 0, 0}, {"", "", 1, 0}, {"", "", -1, 0}, {"", "a", 0, -1}, {"", "a", 1, -1}, {"", "a", -1, -1},
		{"abc", "abcd", 0, -1}, {"abc", "bcd", 1, -1}, {"a", "aa", 0, -1}, {"abc", "abc", 1, -1}, // longer than what is left
		{"aaaa", "aa", 0, 0}, {"aaaa", "aa", 1, 1}, {"aaaa", "aa", 2, 2}, {"aaaa", "aa", 3, -1}, // parts that overlap
		{"ababab", "abab", 0, 0}, {"ababab", "abab", 1, 2}, {"ababab", "abab", 3, -1}, {"aabaaab", "aaab", 0, 3},
		{"aBc", "b", 0, -1}, {"abc", "B", 0, -1}, // not taken as alike here
		{"a\x00b\x00", "\x00", 0, 1}, {"a\x00b\x00", "\x00", 2, 3}, {"\xff\xfe", "\xfe", 0, 1}, {"\xc3\xa9", "\xa9", 0, 1}, {"\xc3\xa9\xc3", "\xc3", 1, 2},
	}
	for _, c := range cases {
		if got := Index(mark.Of(c.text, 1), c.part, c.from); got != c.want {
			t.Errorf("Index(%q, %q, %d) = %d, want %d", c.text, c.part, c.from, got, c.want)
		}
	}
}

func TestIndexAgainstModel(t *testing.T) { // P4.1
	for _, text := range append(textsOf(6, "ab"), someTexts()...) {
		for _, part := range append(textsOf(3, "ab"), ",", ",,", " ", "\xff", "\x00", "abab", "aabaa", "A", parted, allBytes()) {
			for _, from := range somePlaces() {
				if got, want := Index(mark.Of(text, 1), part, from), modelIndex(text, part, from); got != want {
					t.Fatalf("Index(%q, %q, %d) = %d, want %d", text, part, from, got, want)
				}
			}
		}
	}
}

func TestIndexOfLongParts(t *testing.T) { // P4.1
	for n := range 200 {
		part := strings.Repeat("a", n) + "b"
		text := strings.Repeat("a", 300) + "b" + part
		if got := Index(mark.Of(text, 1), part, 0); got != 300-n {
			t.Fatalf("Index of %d bytes = %d, want %d", len(part), got, 300-n)
		}
		if got := Index(mark.Of(text, 1), part, 300-n+1); got != 301 {
			t.Fatalf("Index of %d bytes, behind the first = %d, want 301", len(part), got)
		}
	}
}

func TestBegins(t *testing.T) { // P4.1
	right := [][2]string{
		{"", ""}, {"a", ""}, {"\x00", ""}, {"abc", "a"}, {"abc", "ab"}, {"abc", "abc"},
		{"ABC", "abc"}, {"abc", "ABC"}, {"aBc", "AbC"}, {"AZ", "az"}, {"az", "AZ"}, {"Doctype html", "DOCTYPE"},
		{"@[`{", "@["}, {"\x00\xff", "\x00\xff"}, {"\xc3\x89", "\xc3\x89"}, {"<!--A", "<!--a"},
	}
	for _, c := range right {
		if !Begins(mark.Of(c[0], 1), c[1]) {
			t.Errorf("Begins(%q, %q) = false", c[0], c[1])
		}
	}
	wrong := [][2]string{
		{"", "a"}, {"a", "ab"}, {"A", "aa"}, {"abc", "abcd"}, {"abc", "b"}, {"abc", "bc"}, {"abc", "abd"}, {"abc", "xbc"}, {"abc", "axc"},
		{"@", "`"}, {"`", "@"}, {"[", "{"}, {"{", "["}, {"A@", "a`"}, {"Z[", "z{"}, {"\x00", " "}, {"", "\x00"}, {"a", "a\x00"},
		{"\xc3\x89", "\xc3\xa9"}, {"\xe2\x84\xaa", "k"}, {"k", "\xe2\x84\xaa"}, {"\xc5\xbf", "s"}, {"s", "\xc5\xbf"}, // alike in Unicode alone
	}
	for _, c := range wrong {
		if Begins(mark.Of(c[0], 1), c[1]) {
			t.Errorf("Begins(%q, %q) = true", c[0], c[1])
		}
	}
}

func TestBeginsOfAllBytes(t *testing.T) { // P4.1
	for a := range 256 {
		for b := range 256 {
			one, other := string([]byte{byte(a)}), string([]byte{byte(b)})
			want := modelLetter(byte(a)) == modelLetter(byte(b))
			if got := Begins(mark.Of(one+"m", 1), other); got != want {
				t.Fatalf("Begins(%q, %q) = %v", one+"m", other, got)
			}
			if got := Begins(mark.Of("m"+one, 1), "M"+other); got != want {
				t.Fatalf("Begins(%q, %q) = %v", "m"+one, "M"+other, got)
			}
		}
	}
}

func TestBeginsAgainstModel(t *testing.T) { // P4.1
	all := append(textsOf(3, "@AZ[`az{"), someTexts()...)
	for _, text := range all {
		for i, part := range all {
			if i > 80 && i%7 != 0 {
				continue
			}
			if got, want := Begins(mark.Of(text, 1), part), modelBegins(text, part); got != want {
				t.Fatalf("Begins(%q, %q) = %v", text, part, got)
			}
		}
	}
}

func TestSplit(t *testing.T) { // P4.1
	checkLists(t, "Split", func(s api.Str) []api.Str { return Split(s, ',') }, []listed{
		{str("a,b", 3, 0), strs(str("a", 1, 0), str("b", 1, 0))}, // the chapter's example
		{str(""), strs(str(""))},
		{str("abc", 3, 2), strs(str("abc", 3, 2))},
		{str("abc", 1, 2, 2, 3), strs(str("abc", 1, 2, 2, 3))},
		{str(",", 1, 1), strs(str(""), str(""))},
		{str(",,", 2, 1), strs(str(""), str(""), str(""))},
		{str(",a", 2, 1), strs(str(""), str("a", 1, 1))},
		{str("a,", 2, 1), strs(str("a", 1, 1), str(""))},
		{str(",a,", 3, 1), strs(str(""), str("a", 1, 1), str(""))},
		{str("a,,b", 4, 1), strs(str("a", 1, 1), str(""), str("b", 1, 1))},
		{str("a,b", 1, 1, 1, 2, 1, 3), strs(str("a", 1, 1), str("b", 1, 3))},
		{str("ab,cd", 1, 1, 3, 2, 1, 3), strs(str("ab", 1, 1, 1, 2), str("cd", 1, 2, 1, 3))},
		{str("ab,cd,ef", 1, 1, 6, 2, 1, 3), strs(str("ab", 1, 1, 1, 2), str("cd", 2, 2), str("ef", 1, 2, 1, 3))},
		{str("abc,,d", 1, 1, 1, 2, 1, 3, 2, 4, 1, 1), strs(str("abc", 1, 1, 1, 2, 1, 3), str(""), str("d", 1, 1))},
		{str("a b;c", 5, 0), strs(str("a b;c", 5, 0))},
	})
}

func TestSplitOfAllBytes(t *testing.T) { // P4.1
	all := allBytes()
	for b := range 256 {
		want := strs(mark.Of(all[:b], 2), mark.Of(all[b+1:], 2))
		if got := Split(mark.Of(all, 2), byte(b)); !slices.EqualFunc(got, want, alike) {
			t.Errorf("Split at %x = %#v", b, got)
		}
	}
}

func TestFields(t *testing.T) { // P4.1
	checkLists(t, "Fields", Fields, []listed{
		{str(""), nil},
		{str(" ", 1, 1), nil}, {str("\t", 1, 1), nil}, {str("\n", 1, 1), nil}, {str("\f", 1, 1), nil}, {str("\r", 1, 1), nil},
		{str(parted, 5, 1), nil}, {str(parted+parted, 1, 1, 1, 2, 8, 3), nil},
		{str("a", 1, 1), strs(str("a", 1, 1))},
		{str("abc", 1, 1, 2, 0), strs(str("abc", 1, 1, 2, 0))},
		{str(" a", 2, 1), strs(str("a", 1, 1))},
		{str("a ", 2, 1), strs(str("a", 1, 1))},
		{str("  a  b  ", 8, 1), strs(str("a", 1, 1), str("b", 1, 1))},
		{str("a" + parted + "b"), strs(str("a", 1, top), str("b", 1, top))},
		{str("a\tb\nc\fd\re f", 11, 1), strs(str("a", 1, 1), str("b", 1, 1), str("c", 1, 1), str("d", 1, 1), str("e", 1, 1), str("f", 1, 1))},
		{str("ab cd", 1, 1, 3, 2, 1, 3), strs(str("ab", 1, 1, 1, 2), str("cd", 1, 2, 1, 3))},
		{str(" a b", 1, 5, 1, 0, 1, 5, 1, 0), strs(str("a", 1, 0), str("b", 1, 0))},
		{str("a\x0bb\x08 \x0e\x1f\x21", 8, 0), strs(str("a\x0bb\x08", 4, 0), str("\x0e\x1f\x21", 3, 0))},
		{str("\xc2\xa0 \xe2\x80\xa8\x85", 7, 0), strs(str("\xc2\xa0", 2, 0), str("\xe2\x80\xa8\x85", 4, 0))}, // blanks of Unicode are none
		{str("\x00 \x00", 3, 0), strs(str("\x00", 1, 0), str("\x00", 1, 0))},
	})
}

func TestFieldsOfAllBytes(t *testing.T) { // P4.1
	for b := range 256 {
		one := string([]byte{byte(b)})
		s := str(one+"m"+one+"m"+one, 1, 1, 1, 2, 1, 3, 1, 4, 1, 5)
		want := strs(s)
		if b == 0x09 || b == 0x0A || b == 0x0C || b == 0x0D || b == 0x20 {
			want = strs(str("m", 1, 2), str("m", 1, 4))
		}
		if got := Fields(s); !slices.EqualFunc(got, want, alike) {
			t.Errorf("Fields(%#v) = %#v, want %#v", s, got, want)
		}
	}
}

func TestSpan(t *testing.T) { // P4.1
	cases := []struct {
		text  string
		bytes string
		want  int
	}{
		{"", "", 0}, {"", "abc", 0}, {"", allBytes(), 0}, {"abc", "", 0}, {"abc", allBytes(), 3}, {allBytes(), allBytes(), 256},
		{"abc", "a", 1}, {"abc", "ba", 2}, {"abc", "cba", 3}, {"abc", "bc", 0}, {"abc", "ac", 1}, {"aaab", "aa", 3}, {"aab", "ab", 3},
		{"aba", "a", 1}, {"abc", "A", 0}, {"ABC", "abc", 0}, {"abc", "abcabcabc", 3}, {"123px", "0123456789", 3},
		{"\x00\x00a", "\x00", 2}, {"\xff\xfea", "\xfe\xff", 2}, {"\xc3\x89\xc3\xa9", "\xc3\xa9", 1}, {"\xc3\xa9", "\xa9", 0},
	}
	for _, c := range cases {
		if got := Span(mark.Of(c.text, 1), c.bytes); got != c.want {
			t.Errorf("Span(%q, %q) = %d, want %d", c.text, c.bytes, got, c.want)
		}
	}
}

func TestSpanOfAllBytes(t *testing.T) { // P4.1
	all := allBytes()
	for b := range 256 {
		if got := Span(mark.Of(all[b:], 1), all[b:b+1]); got != 1 {
			t.Errorf("Span of %x = %d, want 1", b, got)
		}
		if got := Span(mark.Of(all, 1), all[:b]+all[b+1:]); got != b {
			t.Errorf("Span of all but %x = %d", b, got)
		}
	}
}

func TestSpanAgainstModel(t *testing.T) { // P4.1
	for _, text := range append(textsOf(4, "ab,\xff"), someTexts()...) {
		for _, bytes := range append(textsOf(3, "ab,\xff"), someTexts()...) {
			if got, want := Span(mark.Of(text, 1), bytes), modelSpan(text, bytes); got != want {
				t.Fatalf("Span(%q, %q) = %d, want %d", text, bytes, got, want)
			}
		}
	}
}

func TestJoin(t *testing.T) { // P4.1
	comma := str(",", 1, 0)
	cases := []struct {
		l    []api.Str
		by   api.Str
		want api.Str
	}{
		{nil, comma, str("")},
		{strs(), comma, str("")},
		{nil, str(""), str("")},
		{strs(str("a", 1, 1)), comma, str("a", 1, 1)},
		{strs(str("ab", 1, 1, 1, 2)), comma, str("ab", 1, 1, 1, 2)},
		{strs(str("")), comma, str("")},
		{strs(str(""), str("")), comma, str(",", 1, 0)},
		{strs(str("a", 1, 1), str("b", 1, 2)), comma, str("a,b", 1, 1, 1, 0, 1, 2)},
		{strs(str("a", 1, 0), str("b", 1, 0), str("c", 1, 0)), comma, str("a,b,c", 5, 0)},
		{strs(str("a", 1, 0), str(""), str("c", 1, 1)), comma, str("a,,c", 3, 0, 1, 1)},
		{strs(str("a", 1, 1), str("b", 1, 1), str("c", 1, 2)), str(""), str("abc", 2, 1, 1, 2)}, // an empty text between
		{strs(str("a", 1, 1), str("b", 1, 1)), str("", 7, 7), str("ab", 2, 1)},
		{strs(str("a", 1, 1), str("b", 1, 2), str("c", 1, 2)), str("<->", 1, 1, 1, 0, 1, 2), str("a<->b<->c", 2, 1, 1, 0, 2, 2, 1, 1, 1, 0, 2, 2)},
		{strs(str("\x00", 1, 0), str("\xff", 1, 0)), str(", ", 1, 5, 1, top), str("\x00, \xff", 1, 0, 1, 5, 1, top, 1, 0)},
	}
	for _, c := range cases {
		if got := Join(c.l, c.by); !alike(got, c.want) {
			t.Errorf("Join(%#v, %#v) = %#v, want %#v", c.l, c.by, got, c.want)
		}
	}
}

func TestJoinAgainstModel(t *testing.T) { // P4.1
	for _, l := range someLists() {
		for _, by := range append(someBys(), someStrs()...) {
			if got, want := Join(l, by), modelJoin(l, by); !spells(got, want) {
				t.Fatalf("Join(%#v, %#v) = %#v", l, by, got)
			}
		}
	}
	for _, s := range someStrs() {
		if got, want := Join(strs(s, s, s), s), modelJoin(strs(s, s, s), s); !spells(got, want) {
			t.Fatalf("Join of %#v by itself = %#v", s, got)
		}
	}
}

func TestSplitAndFieldsAgainstModel(t *testing.T) { // P4.1
	all, turn := labels(), 0
	list := someStrs()
	for _, text := range append(textsOf(6, "a, "), textsOf(4, "\t\n\x0b\f\r\x0e ")...) {
		turn++
		list = append(list, api.Str{Text: text, Runs: all[turn%len(all)]})
	}
	for _, s := range list {
		if got := Fields(s); !spellAll(got, modelFields(s)) {
			t.Fatalf("Fields(%#v) = %#v", s, got)
		}
		for _, at := range someAts() {
			if got := Split(s, at); !spellAll(got, modelSplit(s, string([]byte{at}))) {
				t.Fatalf("Split(%#v, %x) = %#v", s, at, got)
			}
		}
	}
}

func TestTextsNotAsTold(t *testing.T) { // P4.1, and P5 of DOC.md
	checkLists(t, "Split", func(s api.Str) []api.Str { return Split(s, ',') }, []listed{
		{str("a,b"), strs(str("a", 1, top), str("b", 1, top))},
		{str("a,b", 1, 0), strs(str("a", 1, 0), str("b", 1, top))},
		{str("ab,b", 1, 3, 0, 9, -2, 8, 1, 3, 9, -4), strs(str("ab", 2, 3), str("b", 1, 0))},
		{str("a,b", math.MaxInt, -1, math.MaxInt, 4), strs(str("a", 1, 0), str("b", 1, 0))},
		{str("", 4, 4), strs(str(""))},
		{str(",", 0, 4), strs(str(""), str(""))},
	})
	checkLists(t, "Fields", Fields, []listed{
		{str("a b"), strs(str("a", 1, top), str("b", 1, top))},
		{str(" ab ", 2, -3, 0, 1), strs(str("ab", 1, 0, 1, top))},
		{str(" ab b", 2, top+3, 9, 0), strs(str("ab", 1, top, 1, 0), str("b", 1, 0))},
		{str(" ", 9, 9), nil}, {str("", 9, 9), nil},
	})
	if got, want := Join(strs(str("a"), str("b", 9, -1), str("", 1, 1), str("cd", 1, 2, -1, 3, 1, 2)), str(",-", 1, top+1)), str("a,-b,-,-cd", 3, top, 1, 0, 4, top, 2, 2); !alike(got, want) {
		t.Errorf("Join of texts not as told = %#v, want %#v", got, want)
	}
}

func TestRunsDontMatter(t *testing.T) { // P4.1, and P5 of DOC.md: what stands where is told by bytes alone
	for _, runs := range labels() {
		s := api.Str{Text: "ABab,", Runs: runs}
		if got := Index(s, "ab", 1); got != 2 {
			t.Errorf("Index(%#v) = %d, want 2", s, got)
		}
		if !Begins(s, "abA") || Begins(s, "abb") {
			t.Errorf("Begins(%#v) is wrong", s)
		}
		if got := Span(s, "bAB"); got != 2 {
			t.Errorf("Span(%#v) = %d, want 2", s, got)
		}
		none := api.Str{Runs: runs}
		if Index(none, "a", 0) != -1 || Index(none, "", 3) != 0 || Begins(none, "a") || !Begins(none, "") || Span(none, "a") != 0 {
			t.Errorf("of %#v something is found", none)
		}
	}
}

func TestSplitJoinedIsTheText(t *testing.T) { // P4.2
	all, turn := labels(), 0
	list := someStrs()
	for _, text := range textsOf(5, "a,\x00\xff") {
		turn++
		list = append(list, api.Str{Text: text, Runs: all[turn%len(all)]})
	}
	for _, s := range list {
		for _, at := range someAts() {
			parts, by := Split(s, at), string([]byte{at})
			if len(parts) != strings.Count(s.Text, by)+1 {
				t.Fatalf("Split(%#v, %x) has %d parts", s, at, len(parts))
			}
			want := letters(s)
			for i := range want {
				if want[i].b == at {
					want[i].origin = 7
				}
			}
			if got := Join(parts, mark.Of(by, 7)); got.Text != s.Text || !spells(got, want) {
				t.Fatalf("Split(%#v, %x), joined, is %#v", s, at, got)
			}
		}
	}
}

func TestArgumentsAreNotChanged(t *testing.T) { // P4.3
	for _, c := range calls() {
		for _, s := range someStrs() {
			before := slices.Clone(s.Runs)
			c.call(s)
			if !slices.Equal(s.Runs, before) {
				t.Fatalf("%s changed runs from %v to %v", c.name, before, s.Runs)
			}
		}
		own := []api.Run{{Len: 1, Origin: 2}, {Len: 7, Origin: 7}}
		c.call(api.Str{Text: "a, B,", Runs: own[:1]}) // an append in place would write to own[1]
		if own[0] != (api.Run{Len: 1, Origin: 2}) || own[1] != (api.Run{Len: 7, Origin: 7}) {
			t.Errorf("%s changed memory behind the runs: %v", c.name, own)
		}
	}
	for _, s := range someStrs() {
		before := slices.Clone(s.Runs)
		Index(s, "a", 1)
		Begins(s, "A")
		Span(s, "a,")
		if !slices.Equal(s.Runs, before) {
			t.Fatalf("Index, Begins or Span changed runs from %v to %v", before, s.Runs)
		}
	}
}

func TestListsToJoinAreNotChanged(t *testing.T) { // P4.3
	for _, by := range someBys() {
		own := strs(str("a", 1, 1), str("b", 5, 1), str("c", 1, 3))
		want := strs(str("a", 1, 1), str("b", 5, 1), str("c", 1, 3))
		Join(own[:2], by) // an append in place would write to own[2]
		if !slices.EqualFunc(own, want, alike) {
			t.Errorf("Join by %#v changed its list to %#v", by, own)
		}
	}
}

func TestAnswersAreNewMemory(t *testing.T) { // P4.3
	for _, c := range calls() {
		for _, s := range someStrs() {
			before, want := slices.Clone(s.Runs), deep(c.call(s))
			a, b := c.call(s), c.call(s)
			for _, part := range a {
				scribble(part.Runs)
				if sharesAny(part.Text, b) || shares(part.Text, s.Text) {
					t.Fatalf("%s(%#v): its answer shares bytes", c.name, s)
				}
			}
			clear(a[:cap(a)])
			if !slices.Equal(s.Runs, before) {
				t.Fatalf("%s(%#v): its answer shares runs with its argument", c.name, s)
			}
			if !slices.EqualFunc(b, want, alike) || !slices.EqualFunc(c.call(s), want, alike) {
				t.Fatalf("%s(%#v): two answers share memory", c.name, s)
			}
		}
	}
}

func TestPartsOfAnAnswerShareNothing(t *testing.T) { // P4.3
	for _, c := range calls() {
		for _, s := range someStrs() {
			want, got := deep(c.call(s)), c.call(s)
			for i := range got {
				scribble(got[i].Runs)
				if !slices.EqualFunc(got[i+1:], want[i+1:], alike) || sharesAny(got[i].Text, got[i+1:]) {
					t.Fatalf("%s(%#v): part %d shares memory with a later one", c.name, s, i)
				}
			}
			got = c.call(s)
			for i := len(got) - 1; i >= 0; i-- {
				scribble(got[i].Runs)
				if !slices.EqualFunc(got[:i], want[:i], alike) {
					t.Fatalf("%s(%#v): part %d shares memory with an earlier one", c.name, s, i)
				}
			}
		}
	}
}

func TestJoinSharesNothing(t *testing.T) { // P4.3
	l, by := strs(str("abc", 1, 1, 2, 2), str(""), str("d", 1, 2)), str("<>", 1, 3, 1, 4)
	for n := range len(l) + 1 {
		before := append(deep(l), deep(strs(by))...)
		got := Join(l[:n], by)
		scribble(got.Runs)
		if !slices.EqualFunc(append(l[:len(l):len(l)], by), before, alike) {
			t.Errorf("Join of %d shares runs with an argument", n)
		}
		if sharesAny(got.Text, l) || shares(got.Text, by.Text) {
			t.Errorf("Join of %d shares bytes with an argument", n)
		}
	}
}

// deep copies a list, and all that it reaches.
func deep(l []api.Str) []api.Str {
	var out []api.Str
	for _, s := range l {
		out = append(out, api.Str{Text: strings.Clone(s.Text), Runs: slices.Clone(s.Runs)})
	}
	return out
}

// scribble writes over all that a list can reach.
func scribble(runs []api.Run) {
	runs = runs[:cap(runs)]
	for i := range runs {
		runs[i] = api.Run{Len: -9, Origin: -9}
	}
}

// sharesAny tells whether a text has bytes of one memory with one of a list.
func sharesAny(text string, l []api.Str) bool {
	return slices.ContainsFunc(l, func(s api.Str) bool { return shares(text, s.Text) })
}

// shares tells whether two texts have bytes of one memory.
func shares(a, b string) bool {
	if a == "" || b == "" {
		return false
	}
	p, q := uintptr(unsafe.Pointer(unsafe.StringData(a))), uintptr(unsafe.Pointer(unsafe.StringData(b)))
	return p < q+uintptr(len(b)) && q < p+uintptr(len(a))
}

func TestAnswersAreAsTold(t *testing.T) { // P5 of DOC.md
	for _, c := range calls() {
		for _, s := range someStrs() {
			got := c.call(s)
			for _, part := range got {
				if mark.Check(part) != api.OK {
					t.Fatalf("%s(%#v): %#v is not as told", c.name, s, part)
				}
			}
			if !slices.EqualFunc(got, c.call(mark.Fix(s)), alike) {
				t.Fatalf("%s(%#v): taken otherwise than mark takes it", c.name, s)
			}
		}
	}
}

func TestAnswersHangOnArgumentsAlone(t *testing.T) { // P3 of DOC.md
	for _, c := range calls() {
		for _, s := range someStrs() {
			first := c.call(s)
			c.call(mark.Of("x, y,a\xffA", 7))
			if second := c.call(s); !slices.EqualFunc(first, second, alike) {
				t.Fatalf("%s(%#v): %#v, then %#v", c.name, s, first, second)
			}
		}
	}
}

func TestLongTexts(t *testing.T) { // P1 of DOC.md: an end within bearable time
	const n = 1 << 18
	s := api.Str{Text: strings.Repeat("a ", n/2)}
	for i := range n {
		s.Runs = append(s.Runs, api.Run{Len: 1, Origin: i % 4})
	}
	if got := Split(s, ' '); len(got) != n/2+1 || !alike(got[n/2-1], str("a", 1, 2)) || !alike(got[n/2], str("")) {
		t.Errorf("Split has %d parts", len(got))
	}
	if got := Fields(s); len(got) != n/2 || !alike(got[n/2-1], str("a", 1, 2)) {
		t.Errorf("Fields has %d parts", len(got))
	}
	if got := Fields(mark.Of(strings.Repeat(" ", n), 1)); got != nil {
		t.Errorf("Fields of blanks has %d parts", len(got))
	}
	if got := Span(s, strings.Repeat("b", n)+" a"); got != n {
		t.Errorf("Span = %d, want %d", got, n)
	}
	if got := Index(mark.Of(strings.Repeat("a", n), 1), strings.Repeat("a", n/2)+"b", 0); got != -1 {
		t.Errorf("Index = %d, want -1", got)
	}
	if !Begins(s, strings.Repeat("A ", n/2)) || Begins(s, strings.Repeat("A ", n/2)+" ") {
		t.Error("Begins of a long part is wrong")
	}
	idle := str(",")
	for range n {
		idle.Runs = append(idle.Runs, api.Run{Origin: 1})
	}
	if got := Join(make([]api.Str, n), idle); got.Text != strings.Repeat(",", n-1) || mark.Check(got) != api.OK {
		t.Errorf("Join has %d bytes", len(got.Text))
	}
}
