package percent

import (
	"math"
	"slices"
	"strings"
	"testing"
	"unsafe"

	"glazier/api"
	"glazier/mark"
)

const top = api.MaxOrigin

// plains are all plain bytes, written out; the rest of the 256 are none.
const plains = "ABCDEFGHIJKLMNOPQRSTUVWXYZabcdefghijklmnopqrstuvwxyz0123456789-._~!$&'()*+,;=:@/?#[]"

// cell is a byte and its origin; a text as cells is the model of the tests.
type cell struct {
	b      byte
	origin int
}

// cells tells the bytes of s with their origins, asked one by one.
func cells(s api.Str) []cell {
	var out []cell
	for i := range len(s.Text) {
		out = append(out, cell{s.Text[i], mark.At(s, i)})
	}
	return out
}

// asTold tells the one labelled text of these cells that is as told.
func asTold(l []cell) api.Str {
	var text []byte
	var s api.Str
	for i, c := range l {
		text = append(text, c.b)
		if i > 0 && l[i-1].origin == c.origin {
			s.Runs[len(s.Runs)-1].Len++
		} else {
			s.Runs = append(s.Runs, api.Run{Len: 1, Origin: c.origin})
		}
	}
	s.Text = string(text)
	return s
}

// modelHex finds a digit at its place in a list of all, large or small.
func modelHex(b byte) int {
	return max(strings.IndexByte("0123456789ABCDEF", b), strings.IndexByte("0123456789abcdef", b))
}

func modelEncode(s api.Str) api.Str {
	var l []cell
	for _, c := range cells(s) {
		if strings.IndexByte(plains, c.b) >= 0 {
			l = append(l, c)
			continue
		}
		for _, b := range []byte{'%', "0123456789ABCDEF"[c.b/16], "0123456789ABCDEF"[c.b%16]} {
			l = append(l, cell{b, c.origin})
		}
	}
	return asTold(l)
}

func modelDecode(s api.Str) api.Str {
	var l []cell
	for in := cells(s); len(in) > 0; {
		if len(in) > 2 && in[0].b == '%' && modelHex(in[1].b) >= 0 && modelHex(in[2].b) >= 0 {
			b := modelHex(in[1].b)*16 + modelHex(in[2].b)
			l = append(l, cell{byte(b), max(in[0].origin, in[1].origin, in[2].origin)})
			in = in[3:]
		} else {
			l = append(l, in[0])
			in = in[1:]
		}
	}
	return asTold(l)
}

// allBytes are the 256 bytes, rising.
func allBytes() string {
	var all []byte
	for b := range 256 {
		all = append(all, byte(b))
	}
	return string(all)
}

// allEncoded are the 256 bytes, rising, each as a percent sign and two digits.
func allEncoded(digits string) string {
	var all []byte
	for b := range 256 {
		all = append(all, '%', digits[b/16], digits[b%16])
	}
	return string(all)
}

// textsOf tells all texts of up to n bytes of an alphabet.
func textsOf(n int, alphabet string) []string {
	out := []string{""}
	for from := 0; n > 0; n-- {
		to := len(out)
		for _, text := range out[from:to] {
			for i := range len(alphabet) {
				out = append(out, text+alphabet[i:i+1])
			}
		}
		from = to
	}
	return out
}

// str writes a labelled text: lens and origins by turns.
func str(text string, pairs ...int) api.Str {
	s := api.Str{Text: text}
	for i := 0; i+1 < len(pairs); i += 2 {
		s.Runs = append(s.Runs, api.Run{Len: pairs[i], Origin: pairs[i+1]})
	}
	return s
}

// alike holds two texts against each other field by field.
func alike(a, b api.Str) bool {
	return a.Text == b.Text && slices.Equal(a.Runs, b.Runs)
}

// someTexts are texts of all kinds.
func someTexts() []string {
	return []string{
		"", "a", "Z", "abc", " ", "  ", "a b", "\"<>\\^`{|}", "\x00", "\x7f", "\xc3\xa9", "\xff\xfe\x80", "http://a/b?c=d&e#[f]", plains, allBytes(),
		"%", "%%", "%%%", "%4", "%41", "%414", "%4g", "%g4", "%g", "%4%", "%%4", "%%41", "%%%41", "%4%41", "%41%", "%41%4", "%41%42%43", "a%41b%42c",
		"%25", "%2541", "%25%34%31", "%2525", "%252541", "%%2541", "%7e", "%7E", "%aF", "%Af", "%00", "%ff", "%FF", "%fF", "%0", "%00%", "% 41", "%4 1", "%+1", "%0x", "%-1",
		"%\x00\x00", "%4\x00", "%\xb4\xb1", "%c3%a9", "+", "%2b", "%/0", "%:0", "%0/", "%0:", "%@0", "%G0", "%`0", "%0`", "%0@", allEncoded("0123456789ABCDEF"), allEncoded("0123456789abcdef"),
	}
}

// labels are runs of all kinds, as told for some texts and not for others.
func labels() [][]api.Run {
	return [][]api.Run{
		nil, {},
		{{Len: 1, Origin: 0}},
		{{Len: 1, Origin: 4}, {Len: 1, Origin: 9}, {Len: 1, Origin: 2}},
		{{Len: 1, Origin: 0}, {Len: 1, Origin: 1}, {Len: 1, Origin: 0}, {Len: 1, Origin: 1}, {Len: 1, Origin: 0}},
		{{Len: 1, Origin: 1}, {Len: 1, Origin: 0}, {Len: 1, Origin: 2}, {Len: 1, Origin: 0}, {Len: 1, Origin: 1}},
		{{Len: 2, Origin: 0}, {Len: 2, Origin: 7}, {Len: 3, Origin: 1}},
		{{Len: 1, Origin: 3}, {Len: 1, Origin: 3}, {Len: 2, Origin: 3}},
		{{Len: math.MaxInt, Origin: 0}},
		{{Len: math.MaxInt, Origin: 5}, {Len: math.MaxInt, Origin: 6}},
		{{Len: math.MinInt, Origin: 8}, {Len: 1, Origin: -1}, {Len: 0, Origin: 8}, {Len: 1, Origin: math.MinInt}},
		{{Len: 1, Origin: top + 1}, {Len: 1, Origin: math.MaxInt}, {Len: 1, Origin: 0}},
		{{Len: 1, Origin: top}, {Len: -1, Origin: 0}, {Len: 2, Origin: top - 1}},
	}
}

// someStrs tells each of someTexts with each of labels.
func someStrs() []api.Str {
	var out []api.Str
	for _, text := range someTexts() {
		for _, runs := range labels() {
			out = append(out, api.Str{Text: text, Runs: slices.Clone(runs)})
		}
	}
	return out
}

// named is one of the calls that take a labelled text.
type named struct {
	name  string
	call  func(s api.Str) api.Str
	model func(s api.Str) api.Str
}

// calls are those calls.
func calls() []named {
	return []named{{"Encode", Encode, modelEncode}, {"Decode", Decode, modelDecode}}
}

// check holds the answers of one call against what is wanted.
func check(t *testing.T, name string, call func(s api.Str) api.Str, cases [][2]api.Str) {
	t.Helper()
	for _, c := range cases {
		if got := call(c[0]); !alike(got, c[1]) {
			t.Errorf("%s(%#v) = %#v, want %#v", name, c[0], got, c[1])
		}
	}
}

func TestPlain(t *testing.T) { // P5.1
	if len(plains) != 26+26+10+22 {
		t.Fatalf("%d plain bytes are written out", len(plains))
	}
	for i := range len(plains) {
		if !Plain(plains[i]) {
			t.Errorf("Plain(%q) = false", plains[i])
		}
	}
	for _, b := range []byte("`{ \"%<>\\^|}\x00\t\n\r\x1f\x7f\x80\xa0\xc1\xe1\xff") {
		if Plain(b) {
			t.Errorf("Plain(%q) = true", b)
		}
	}
}

func TestPlainOfAllBytes(t *testing.T) { // P5.1
	count := 0
	for i := range 256 {
		b := byte(i)
		if want := strings.IndexByte(plains, b) >= 0; Plain(b) != want {
			t.Errorf("Plain(%x) = %v", b, !want)
		}
		if Plain(b) {
			count++
		}
	}
	if count != len(plains) {
		t.Errorf("%d bytes are plain, want %d", count, len(plains))
	}
}

func TestHex(t *testing.T) { // P5.1
	cases := []struct {
		b    byte
		want int
	}{
		{'0', 0}, {'1', 1}, {'5', 5}, {'8', 8}, {'9', 9},
		{'a', 10}, {'b', 11}, {'c', 12}, {'d', 13}, {'e', 14}, {'f', 15},
		{'A', 10}, {'B', 11}, {'C', 12}, {'D', 13}, {'E', 14}, {'F', 15},
		{'/', -1}, {':', -1}, {'@', -1}, {'G', -1}, {'`', -1}, {'g', -1}, // beside digits
		{'Z', -1}, {'z', -1}, {'x', -1}, {'%', -1}, {' ', -1}, {'-', -1}, {'+', -1},
		{0, -1}, {9, -1}, {10, -1}, {15, -1}, {0x7F, -1}, {0x80, -1}, {0xB0, -1}, {0xC1, -1}, {0xE1, -1}, {0xFF, -1},
	}
	for _, c := range cases {
		if got := Hex(c.b); got != c.want {
			t.Errorf("Hex(%q) = %d, want %d", c.b, got, c.want)
		}
	}
}

func TestHexOfAllBytes(t *testing.T) { // P5.1
	for i := range 256 {
		b := byte(i)
		if got, want := Hex(b), modelHex(b); got != want {
			t.Errorf("Hex(%x) = %d, want %d", b, got, want)
		}
	}
}

func TestEncode(t *testing.T) { // P5.1
	check(t, "Encode", Encode, [][2]api.Str{
		{str(" ", 1, 0), str("%20", 3, 0)}, // the chapter's example
		{str(""), str("")},
		{str("", 4, 4), str("")},
		{str("abc", 3, 0), str("abc", 3, 0)},
		{str(plains, len(plains), 1), str(plains, len(plains), 1)},
		{str("%", 1, 1), str("%25", 3, 1)},
		{str("%41", 3, 1), str("%2541", 5, 1)},
		{str("%25", 3, 1), str("%2525", 5, 1)},
		{str("\x00", 1, 1), str("%00", 3, 1)},
		{str("\x0a\xa0", 2, 1), str("%0A%A0", 6, 1)},
		{str("\xab\xcd\xef\xff", 4, 1), str("%AB%CD%EF%FF", 12, 1)}, // large digits
		{str("\"<>\\^`{|}\x7f", 10, 0), str("%22%3C%3E%5C%5E%60%7B%7C%7D%7F", 30, 0)},
		{str("\xc3\xa9", 2, 3), str("%C3%A9", 6, 3)},
		{str("a b c", 5, 2), str("a%20b%20c", 9, 2)},
		{str("a b", 1, 1, 1, 2, 1, 3), str("a%20b", 1, 1, 3, 2, 1, 3)},
		{str("  ", 1, 1, 1, 2), str("%20%20", 3, 1, 3, 2)},
		{str(" a ", 2, 0, 1, top), str("%20a%20", 4, 0, 3, top)},
		{str("a  b", 1, 1, 1, 0, 1, 1, 1, 0), str("a%20%20b", 1, 1, 3, 0, 3, 1, 1, 0)},
	})
}

func TestEncodeOfAllBytes(t *testing.T) { // P5.1
	for i := range 256 {
		one := string([]byte{byte(i)})
		s := str("a"+one+"b", 1, 1, 1, 2, 1, 3)
		want := str("a%"+string([]byte{"0123456789ABCDEF"[i/16], "0123456789ABCDEF"[i%16]})+"b", 1, 1, 3, 2, 1, 3)
		if strings.Contains(plains, one) {
			want = s
		}
		if got := Encode(s); !alike(got, want) {
			t.Errorf("Encode(%#v) = %#v, want %#v", s, got, want)
		}
	}
}

func TestDecode(t *testing.T) { // P5.1
	check(t, "Decode", Decode, [][2]api.Str{
		{str("%20", 3, 0), str(" ", 1, 0)},
		{str(""), str("")},
		{str("", 4, 4), str("")},
		{str("abc", 1, 0, 2, 1), str("abc", 1, 0, 2, 1)},
		{str("a%41b", 5, 1), str("aAb", 3, 1)},
		{str("%41%42%43", 9, 1), str("ABC", 3, 1)},
		{str("%00", 3, 1), str("\x00", 1, 1)},
		{str("%ff%FF%fF%Ff", 12, 1), str("\xff\xff\xff\xff", 4, 1)}, // small and large digits
		{str("%aB%Cd%09%90", 12, 1), str("\xab\xcd\x09\x90", 4, 1)},
		{str("%c3%A9", 6, 1), str("\xc3\xa9", 2, 1)},
		{str("41 2B", 5, 1), str("41 2B", 5, 1)},
		{str("a+b", 3, 1), str("a+b", 3, 1)}, // no blank
	})
}

func TestDecodeLeavesWhatIsNotEncoded(t *testing.T) { // P5.1
	for _, text := range []string{
		"%", "%%", "%%%", "a%", "%4", "%a", "a%4", "%4g", "%g4", "%G4", "%4G", "%gg", "%4 ", "% 4", "%4%", "%%4", "%%%4", "%4%4",
		"%/0", "%0/", "%:0", "%0:", "%@0", "%0@", "%`0", "%0`", "%-1", "%+1", "%0x41", "%x41", "%u0041", "%\x00\x01", "%4\x00", "%\xb4\xb1", "%4\xff",
	} {
		s := mark.Of(text, 1)
		if got := Decode(s); !alike(got, s) {
			t.Errorf("Decode(%q) = %#v", text, got)
		}
	}
}

func TestDecodeBesideWhatIsNotEncoded(t *testing.T) { // P5.1
	check(t, "Decode", Decode, [][2]api.Str{
		{str("%%41", 1, 1, 3, 2), str("%A", 1, 1, 1, 2)}, // the first percent sign has no digit behind
		{str("%%%41%", 6, 1), str("%%A%", 4, 1)},
		{str("%4%41", 2, 3, 3, 1), str("%4A", 2, 3, 1, 1)},
		{str("%g%41", 5, 1), str("%gA", 3, 1)},
		{str("%41%", 3, 1, 1, 2), str("A%", 1, 1, 1, 2)},
		{str("%41%4", 5, 1), str("A%4", 3, 1)},
		{str("%414", 4, 1), str("A4", 2, 1)},
		{str("%4141", 3, 0, 2, 1), str("A41", 1, 0, 2, 1)},
	})
}

func TestDecodeDoesNotLookAgain(t *testing.T) { // P5.1: what is decoded is a byte, and no percent sign of the text
	check(t, "Decode", Decode, [][2]api.Str{
		{str("%25", 3, 1), str("%", 1, 1)},
		{str("%2541", 5, 1), str("%41", 3, 1)},
		{str("%2541", 3, 5, 2, 1), str("%41", 1, 5, 2, 1)},
		{str("%25%34%31", 9, 1), str("%41", 3, 1)},
		{str("%2525", 5, 1), str("%25", 3, 1)},
		{str("%25%25", 6, 1), str("%%", 2, 1)},
		{str("%252541", 7, 1), str("%2541", 5, 1)},
		{str("%%2541", 6, 1), str("%%41", 4, 1)},
		{str("%2%35", 5, 1), str("%25", 3, 1)},
		{str("%%325", 5, 1), str("%25", 3, 1)},
	})
}

func TestDecodeTellsTheWorstOrigin(t *testing.T) { // P5.1
	check(t, "Decode", Decode, [][2]api.Str{
		{str("%41", 1, 3, 1, 1, 1, 2), str("A", 1, 3)},
		{str("%41", 1, 1, 1, 3, 1, 2), str("A", 1, 3)},
		{str("%41", 1, 1, 1, 2, 1, 3), str("A", 1, 3)},
		{str("%41", 1, 0, 2, 7), str("A", 1, 7)},
		{str("%41", 2, 0, 1, 7), str("A", 1, 7)},
		{str("%41", 1, 7, 2, 0), str("A", 1, 7)},
		{str("%41", 1, 0, 1, top, 1, 1), str("A", 1, top)},
		{str("a%41b", 1, 9, 3, 1, 1, 9), str("aAb", 1, 9, 1, 1, 1, 9)}, // not of what stands beside
		{str("a%41b", 2, 9, 2, 1, 1, 0), str("aAb", 2, 9, 1, 0)},
		{str("%41%42", 3, 9, 3, 0), str("AB", 1, 9, 1, 0)},
		{str("%41%42", 1, 0, 4, 2, 1, 0), str("AB", 2, 2)}, // one run
		{str("%41%42", 1, 1, 1, 2, 2, 1, 1, 2, 1, 1), str("AB", 2, 2)},
		{str("%41x", 2, 1, 1, 4, 1, 2), str("Ax", 1, 4, 1, 2)},
		{str("%4", 1, 5, 1, 1), str("%4", 1, 5, 1, 1)}, // bytes that stay keep theirs
		{str("%4g", 1, 5, 1, 1, 1, 3), str("%4g", 1, 5, 1, 1, 1, 3)},
		{str("%%41", 1, 9, 1, 1, 1, 2, 1, 0), str("%A", 1, 9, 1, 2)},
	})
}

func TestDecodeOfAllDigits(t *testing.T) { // P5.1
	for a := range 256 {
		for b := range 256 {
			s := str(string([]byte{'%', byte(a), byte(b)}), 1, 1, 1, a, 1, b)
			if got, want := Decode(s), modelDecode(s); !alike(got, want) {
				t.Fatalf("Decode(%#v) = %#v, want %#v", s, got, want)
			}
		}
	}
	for _, digits := range []string{"0123456789ABCDEF", "0123456789abcdef", "0123456789aBcDeF"} {
		if got := Decode(mark.Of(allEncoded(digits), 3)); !alike(got, mark.Of(allBytes(), 3)) {
			t.Errorf("Decode of all bytes by %s = %#v", digits, got)
		}
	}
}

func TestCallsAgainstModel(t *testing.T) { // P5.1
	all, turn := labels(), 0
	list := someStrs()
	for _, text := range append(textsOf(6, "%2aG"), textsOf(4, "%25\x00 \xff")...) {
		turn++
		list = append(list, api.Str{Text: text, Runs: all[turn%len(all)]})
	}
	for _, c := range calls() {
		for _, s := range list {
			if got, want := c.call(s), c.model(s); !alike(got, want) {
				t.Fatalf("%s(%#v) = %#v, want %#v", c.name, s, got, want)
			}
		}
	}
}

func TestTextsNotAsTold(t *testing.T) { // P5.1, and P5 of DOC.md
	check(t, "Encode", Encode, [][2]api.Str{
		{str(" "), str("%20", 3, top)},
		{str("a ", 1, 0), str("a%20", 1, 0, 3, top)},
		{str("a b", 9, 2), str("a%20b", 5, 2)},
		{str("  ", 1, 3, 0, 9, -2, 8, 1, 3), str("%20%20", 6, 3)},
		{str("  ", math.MaxInt, -1, math.MaxInt, 4), str("%20%20", 6, 0)},
		{str(" ", 1, top+1), str("%20", 3, top)},
		{str("", 3, 3, 0, 1), str("")},
	})
	check(t, "Decode", Decode, [][2]api.Str{
		{str("%41"), str("A", 1, top)},
		{str("%41", 2, 0), str("A", 1, top)},
		{str("%41", 1, 0, 0, 9, -2, 8, 2, 0, 4, 5), str("A", 1, 0)},
		{str("%41", math.MaxInt, -1, math.MaxInt, 4), str("A", 1, 0)},
		{str("%41", 1, math.MinInt, 1, 2, 1, -1), str("A", 1, 2)},
		{str("%41", 1, 0, 1, math.MaxInt, 1, 0), str("A", 1, top)},
		{str("a%41", 1, 1), str("aA", 1, 1, 1, top)},
		{str("", 3, 3, 0, 1), str("")},
	})
}

func TestEncodedAndDecodedIsTheText(t *testing.T) { // P5.2
	all, turn := labels(), 0
	list := someStrs()
	for _, text := range textsOf(5, "%2aG ") {
		turn++
		list = append(list, api.Str{Text: text, Runs: all[turn%len(all)]})
	}
	for _, s := range list {
		encoded := Encode(s)
		if got := Decode(encoded); !alike(got, mark.Fix(s)) {
			t.Fatalf("Encode(%#v), decoded, is %#v", s, got)
		}
		if got := Decode(Decode(Encode(encoded))); !alike(got, mark.Fix(s)) {
			t.Fatalf("Encode(%#v), done twice and undone twice, is %#v", s, got)
		}
	}
}

func TestEncodedIsPlainBytesAndPercentSigns(t *testing.T) { // P5.2
	if Plain('%') {
		t.Error("a percent sign is plain")
	}
	for _, s := range someStrs() {
		encoded := Encode(s).Text
		for i := range len(encoded) {
			if encoded[i] != '%' && strings.IndexByte(plains, encoded[i]) < 0 {
				t.Fatalf("Encode(%#v) = %q has %q", s, encoded, encoded[i])
			}
		}
	}
}

func TestArgumentsAreNotChanged(t *testing.T) { // P5.3
	for _, c := range calls() {
		for _, s := range someStrs() {
			before := slices.Clone(s.Runs)
			c.call(s)
			if !slices.Equal(s.Runs, before) {
				t.Fatalf("%s changed runs from %v to %v", c.name, before, s.Runs)
			}
		}
		own := []api.Run{{Len: 1, Origin: 2}, {Len: 7, Origin: 7}}
		c.call(api.Str{Text: "a %41 ", Runs: own[:1]}) // an append in place would write to own[1]
		if own[0] != (api.Run{Len: 1, Origin: 2}) || own[1] != (api.Run{Len: 7, Origin: 7}) {
			t.Errorf("%s changed memory behind the runs: %v", c.name, own)
		}
	}
}

func TestAnswersAreNewMemory(t *testing.T) { // P5.3
	for _, c := range calls() {
		for _, s := range someStrs() {
			before, want := slices.Clone(s.Runs), mark.Fix(c.call(s))
			a, b := c.call(s), c.call(s)
			scribble(a.Runs)
			if !slices.Equal(s.Runs, before) {
				t.Fatalf("%s(%#v): its answer shares runs with its argument", c.name, s)
			}
			if !alike(b, want) || !alike(c.call(s), want) {
				t.Fatalf("%s(%#v): two answers share runs", c.name, s)
			}
			if shares(a.Text, s.Text) || shares(a.Text, b.Text) {
				t.Fatalf("%s(%#v): its answer shares bytes", c.name, s)
			}
		}
	}
}

// scribble writes over all that a list can reach.
func scribble(runs []api.Run) {
	runs = runs[:cap(runs)]
	for i := range runs {
		runs[i] = api.Run{Len: -9, Origin: -9}
	}
}

// shares tells whether two texts have bytes of one memory.
func shares(a, b string) bool {
	if a == "" || b == "" {
		return false
	}
	p, q := uintptr(unsafe.Pointer(unsafe.StringData(a))), uintptr(unsafe.Pointer(unsafe.StringData(b)))
	return p < q+uintptr(len(b)) && q < p+uintptr(len(a))
}

func TestAnswersAreAsTold(t *testing.T) { // P5 of DOC.md
	for _, c := range calls() {
		for _, s := range someStrs() {
			got := c.call(s)
			if mark.Check(got) != api.OK {
				t.Fatalf("%s(%#v) = %#v is not as told", c.name, s, got)
			}
			if !alike(got, c.call(mark.Fix(s))) {
				t.Fatalf("%s(%#v): taken otherwise than mark takes it", c.name, s)
			}
		}
	}
}

func TestAnswersHangOnArgumentsAlone(t *testing.T) { // P3 of DOC.md
	for _, c := range calls() {
		for _, s := range someStrs() {
			first := c.call(s)
			c.call(mark.Of("%41 %4", 7))
			if second := c.call(s); !alike(first, second) {
				t.Fatalf("%s(%#v): %#v, then %#v", c.name, s, first, second)
			}
		}
	}
}

func TestLongTexts(t *testing.T) { // P1 of DOC.md: an end within bearable time
	const n = 1 << 18
	plain := api.Str{Text: strings.Repeat("a ", n)}
	for i := range 2 * n {
		plain.Runs = append(plain.Runs, api.Run{Len: 1, Origin: i % 4})
	}
	encoded := Encode(plain)
	if encoded.Text != strings.Repeat("a%20", n) || len(encoded.Runs) != 2*n || mark.Check(encoded) != api.OK {
		t.Errorf("Encode has %d bytes and %d runs", len(encoded.Text), len(encoded.Runs))
	}
	if got := Decode(encoded); !alike(got, plain) {
		t.Errorf("Decode has %d bytes and %d runs", len(got.Text), len(got.Runs))
	}
	mixed := api.Str{Text: strings.Repeat("%41", n)}
	for range n {
		mixed.Runs = append(mixed.Runs, str("", 1, 1, 1, 2, 1, 0).Runs...)
	}
	if got := Decode(mixed); !alike(got, mark.Of(strings.Repeat("A", n), 2)) {
		t.Errorf("Decode of mixed origins has %d bytes and %d runs", len(got.Text), len(got.Runs))
	}
	signs := mark.Of(strings.Repeat("%", n), 1)
	if got := Decode(signs); !alike(got, signs) {
		t.Errorf("Decode of percent signs has %d bytes", len(got.Text))
	}
	if got := Encode(signs); !alike(got, mark.Of(strings.Repeat("%25", n), 1)) {
		t.Errorf("Encode of percent signs has %d bytes", len(got.Text))
	}
}
