package fold

import (
	"math"
	"slices"
	"strings"
	"testing"
	"unsafe"

	"glazier/api"
	"glazier/mark"
)

const top = api.MaxOrigin

// blanks are the bytes that Trim looks for.
const blanks = "\x09\x0a\x0c\x0d\x20"

// cell is a byte and its origin; a text as cells is the model of the tests.
type cell struct {
	b      byte
	origin int
}

// cells tells the bytes of s with their origins, asked one by one.
func cells(s api.Str) []cell {
	var out []cell
	for i := range len(s.Text) {
		out = append(out, cell{s.Text[i], mark.At(s, i)})
	}
	return out
}

// asTold tells the one labelled text of these cells that is as told.
func asTold(l []cell) api.Str {
	var text []byte
	var s api.Str
	for i, c := range l {
		text = append(text, c.b)
		if i > 0 && l[i-1].origin == c.origin {
			s.Runs[len(s.Runs)-1].Len++
		} else {
			s.Runs = append(s.Runs, api.Run{Len: 1, Origin: c.origin})
		}
	}
	s.Text = string(text)
	return s
}

func modelLower(s api.Str) api.Str {
	l := cells(s)
	for i := range l {
		if at := strings.IndexByte("ABCDEFGHIJKLMNOPQRSTUVWXYZ", l[i].b); at >= 0 {
			l[i].b = "abcdefghijklmnopqrstuvwxyz"[at]
		}
	}
	return asTold(l)
}

func modelStrip(s api.Str, outer string) api.Str {
	l := cells(s)
	for len(l) > 0 && strings.IndexByte(outer, l[0].b) >= 0 {
		l = l[1:]
	}
	for len(l) > 0 && strings.IndexByte(outer, l[len(l)-1].b) >= 0 {
		l = l[:len(l)-1]
	}
	return asTold(l)
}

func modelWithout(s api.Str, bytes string) api.Str {
	return asTold(slices.DeleteFunc(cells(s), func(c cell) bool { return strings.IndexByte(bytes, c.b) >= 0 }))
}

func modelSwap(s api.Str, old byte, by string) api.Str {
	var l []cell
	for _, c := range cells(s) {
		if c.b != old {
			l = append(l, c)
			continue
		}
		for i := range len(by) {
			l = append(l, cell{by[i], c.origin})
		}
	}
	return asTold(l)
}

// modelLines does the two steps of the chapter one after the other.
func modelLines(s api.Str) api.Str {
	var l []cell
	for in := cells(s); len(in) > 0; {
		if len(in) > 1 && in[0].b == 0x0D && in[1].b == 0x0A {
			l = append(l, cell{0x0A, max(in[0].origin, in[1].origin)})
			in = in[2:]
		} else {
			l = append(l, in[0])
			in = in[1:]
		}
	}
	for i := range l {
		if l[i].b == 0x0D {
			l[i].b = 0x0A
		}
	}
	return asTold(l)
}

// upTo20 are the bytes that Ends looks for.
func upTo20() string {
	return allBytes()[:0x21]
}

// allBytes are the 256 bytes, rising.
func allBytes() string {
	var all []byte
	for b := range 256 {
		all = append(all, byte(b))
	}
	return string(all)
}

// eachText hands all texts of n bytes of an alphabet to see.
func eachText(n int, alphabet string, see func(text string)) {
	text := make([]byte, n)
	var fill func(at int)
	fill = func(at int) {
		if at == n {
			see(string(text))
			return
		}
		for i := range len(alphabet) {
			text[at] = alphabet[i]
			fill(at + 1)
		}
	}
	fill(0)
}

// str writes a labelled text: lens and origins by turns.
func str(text string, pairs ...int) api.Str {
	s := api.Str{Text: text}
	for i := 0; i+1 < len(pairs); i += 2 {
		s.Runs = append(s.Runs, api.Run{Len: pairs[i], Origin: pairs[i+1]})
	}
	return s
}

// alike holds two texts against each other field by field.
func alike(a, b api.Str) bool {
	return a.Text == b.Text && slices.Equal(a.Runs, b.Runs)
}

// someTexts are texts of all kinds.
func someTexts() []string {
	return []string{
		"", "a", "Z", "abc", "ABC", "aBcD", "@AZ[`az{", "A-Z", "\xc3\x89", "\xe2\x84\xaa", "\xc4\xb0", "\xff\xfe\x80", "\xc1\xdaA\xff",
		" ", "  ", " a ", "\x00 a \x00", "\x00", "\x00\x20", "\x21\x20\x21", "\x20\x21\x20", "\x1f\x21\x1f", "\t\n\f\r ", "\t\n\f\r a \r\f\n\t", " a b ", "\x0b a \x0b", "\x08 \x0e", "\xa0 \xa0", "\x80\x20",
		"\n", "\r", "\r\n", "\n\r", "\r\r\n", "\r\n\n", "\r\n\r\n", "a\r", "\ra", "a\r\n\rb", "\r\r", "a\r\nB\rC\nD\r", "\r\x00\n", "\r \n",
		"x,y", ",", ",,", ",x,", "x,,y", ",,,x,,,", "aaa", "a,a,a", allBytes(),
	}
}

// labels are runs of all kinds, as told for some texts and not for others.
func labels() [][]api.Run {
	return [][]api.Run{
		nil, {},
		{{Len: 1, Origin: 0}},
		{{Len: 1, Origin: 4}, {Len: 1, Origin: 9}, {Len: 1, Origin: 2}},
		{{Len: 1, Origin: 0}, {Len: 1, Origin: 1}, {Len: 1, Origin: 0}, {Len: 1, Origin: 1}, {Len: 1, Origin: 0}},
		{{Len: 1, Origin: 1}, {Len: 1, Origin: 0}, {Len: 1, Origin: 1}, {Len: 1, Origin: 0}, {Len: 1, Origin: 1}},
		{{Len: 2, Origin: 0}, {Len: 1, Origin: 7}, {Len: 1, Origin: 1}},
		{{Len: 1, Origin: 3}, {Len: 1, Origin: 3}, {Len: 2, Origin: 3}},
		{{Len: math.MaxInt, Origin: 0}},
		{{Len: math.MaxInt, Origin: 5}, {Len: math.MaxInt, Origin: 6}},
		{{Len: math.MinInt, Origin: 8}, {Len: 1, Origin: -1}, {Len: 0, Origin: 8}, {Len: 1, Origin: math.MinInt}},
		{{Len: 1, Origin: top + 1}, {Len: 1, Origin: math.MaxInt}, {Len: 1, Origin: 0}},
		{{Len: 1, Origin: top}, {Len: -1, Origin: 0}, {Len: 2, Origin: top - 1}},
	}
}

// someStrs tells each of someTexts with each of labels.
func someStrs() []api.Str {
	var out []api.Str
	for _, text := range someTexts() {
		for _, runs := range labels() {
			out = append(out, api.Str{Text: text, Runs: slices.Clone(runs)})
		}
	}
	return out
}

// someBytes are texts of bytes for Without to leave out.
func someBytes() []string {
	return []string{"", "a", ",", "aa", "A", "\x00", "\xff", "\t\n\r", "a,b", "\xc3\x89", blanks, allBytes(), allBytes()[1:], strings.Repeat("a", 1000)}
}

// someBys are texts for Swap to put.
func someBys() []string {
	return []string{"", "-", "<->", ",", ",,", "x,y", "\x00", "\xff\xfe\xfd"}
}

// named is one of the calls, with all arguments but the labelled text given.
type named struct {
	name  string
	call  func(s api.Str) api.Str
	model func(s api.Str) api.Str
	again bool // done twice it is as once
}

// calls are all calls that take a labelled text, with arguments of all kinds.
func calls() []named {
	out := []named{
		{"Lower", Lower, modelLower, true},
		{"Ends", Ends, func(s api.Str) api.Str { return modelStrip(s, upTo20()) }, true},
		{"Trim", Trim, func(s api.Str) api.Str { return modelStrip(s, blanks) }, true},
		{"Lines", Lines, modelLines, true},
	}
	for _, bytes := range someBytes() {
		call := func(s api.Str) api.Str { return Without(s, bytes) }
		model := func(s api.Str) api.Str { return modelWithout(s, bytes) }
		out = append(out, named{"Without " + bytes, call, model, true})
	}
	for _, old := range []byte{',', 'a', 0, '\r', 0xFF} {
		for _, by := range someBys() {
			call := func(s api.Str) api.Str { return Swap(s, old, by) }
			model := func(s api.Str) api.Str { return modelSwap(s, old, by) }
			out = append(out, named{"Swap " + string(rune(old)) + " " + by, call, model, false})
		}
	}
	return out
}

// check holds the answers of one call against what is wanted.
func check(t *testing.T, name string, call func(s api.Str) api.Str, cases [][2]api.Str) {
	t.Helper()
	for _, c := range cases {
		if got := call(c[0]); !alike(got, c[1]) {
			t.Errorf("%s(%#v) = %#v, want %#v", name, c[0], got, c[1])
		}
	}
}

func TestLower(t *testing.T) { // P3.1
	check(t, "Lower", Lower, [][2]api.Str{
		{str(""), str("")},
		{str("Hello", 5, 0), str("hello", 5, 0)},
		{str("ABCDEFGHIJKLMNOPQRSTUVWXYZ", 26, 1), str("abcdefghijklmnopqrstuvwxyz", 26, 1)},
		{str("@AZ[`az{", 8, 2), str("@az[`az{", 8, 2)},
		{str("AbC", 1, 0, 1, 3, 1, 0), str("abc", 1, 0, 1, 3, 1, 0)},
		{str("\xc3\x89\xc1\xda\xff\x00", 6, 0), str("\xc3\x89\xc1\xda\xff\x00", 6, 0)}, // no letters of ASCII, with the bit that tells large from small
		{str("\xe2\x84\xaa\xc4\xb0", 5, 0), str("\xe2\x84\xaa\xc4\xb0", 5, 0)},         // small in Unicode they are letters of ASCII
	})
}

func TestLowerOfAllBytes(t *testing.T) { // P3.1
	for b := range 256 {
		want := byte(b)
		if b >= 'A' && b <= 'Z' {
			want = byte(b + 32)
		}
		text := string([]byte{byte(b)})
		if got := Lower(mark.Of(text, 3)); !alike(got, mark.Of(string([]byte{want}), 3)) {
			t.Errorf("Lower of %x = %#v", b, got)
		}
		if got := IsLower(text); got != (want == byte(b)) {
			t.Errorf("IsLower of %x = %v", b, got)
		}
	}
}

func TestIsLower(t *testing.T) { // P3.1
	for _, text := range []string{"", "a", "az", "@[`{", "\x00\xff", "\xc3\x89", "\xe2\x84\xaa", "a-1 b", "\xc1\xda"} {
		if !IsLower(text) {
			t.Errorf("IsLower(%q) = false", text)
		}
	}
	for _, text := range []string{"A", "Z", "aZ", "Az", "aMz", "\xffA", "A\xff", "a b c D"} {
		if IsLower(text) {
			t.Errorf("IsLower(%q) = true", text)
		}
	}
	eachText(3, "@AMZ[`amz{\x00\xff", func(text string) {
		if got := IsLower(text); got != (Lower(mark.Of(text, 0)).Text == text) {
			t.Fatalf("IsLower(%q) = %v", text, got)
		}
	})
}

func TestEnds(t *testing.T) { // P3.1
	check(t, "Ends", Ends, [][2]api.Str{
		{str(""), str("")},
		{str("a", 1, 0), str("a", 1, 0)},
		{str("\x00", 1, 0), str("")},
		{str("\x20", 1, 5), str("")},
		{str("\x21", 1, 5), str("\x21", 1, 5)},
		{str("\x00\x20", 1, 5, 1, 0), str("")},
		{str(upTo20(), 33, 1), str("")},
		{str("\x00\x20a\x20\x00", 5, 1), str("a", 1, 1)},
		{str("\x20\x21\x20", 1, 0, 1, 1, 1, 2), str("\x21", 1, 1)},
		{str("\x21\x20\x00\x21", 4, 0), str("\x21\x20\x00\x21", 4, 0)},
		{str("\x21\x00", 2, 0), str("\x21", 1, 0)},
		{str("\x00\x21", 2, 0), str("\x21", 1, 0)},
		{str("\x1fab\x0b", 1, 0, 1, 1, 1, 2, 1, 3), str("ab", 1, 1, 1, 2)},
		{str("\x7f\x20\x80", 3, 0), str("\x7f\x20\x80", 3, 0)},
		{str("\x20\xa0\xff\x20", 4, 0), str("\xa0\xff", 2, 0)},
	})
}

func TestTrim(t *testing.T) { // P3.1
	check(t, "Trim", Trim, [][2]api.Str{
		{str(""), str("")},
		{str("a", 1, 0), str("a", 1, 0)},
		{str(blanks, 5, 2), str("")},
		{str("\t", 1, 0), str("")},
		{str("\t\n\f\r a b \r\f\n\t", 13, 2), str("a b", 3, 2)},
		{str(" \x00 ", 3, 0), str("\x00", 1, 0)},
		{str("\x0b\t\x0b", 3, 0), str("\x0b\t\x0b", 3, 0)},
		{str(" ab ", 1, 0, 1, 1, 1, 2, 1, 3), str("ab", 1, 1, 1, 2)},
		{str("a ", 1, 0, 1, 1), str("a", 1, 0)},
		{str(" a", 1, 0, 1, 1), str("a", 1, 1)},
		{str(" \xc2\xa0 ", 4, 0), str("\xc2\xa0", 2, 0)},
		{str("\x85 \xa0", 3, 0), str("\x85 \xa0", 3, 0)},
	})
}

func TestEndsAndTrimOfAllBytes(t *testing.T) { // P3.1
	for b := range 256 {
		one := string([]byte{byte(b)})
		s := str(one+"m"+one+"m"+one, 1, 1, 1, 2, 1, 3, 1, 4, 1, 5)
		inner := str("m"+one+"m", 1, 2, 1, 3, 1, 4)
		wantEnds, wantTrim := s, s
		if b <= 0x20 {
			wantEnds = inner
		}
		if b == 0x09 || b == 0x0A || b == 0x0C || b == 0x0D || b == 0x20 {
			wantTrim = inner
		}
		if got := Ends(s); !alike(got, wantEnds) {
			t.Errorf("Ends(%#v) = %#v, want %#v", s, got, wantEnds)
		}
		if got := Trim(s); !alike(got, wantTrim) {
			t.Errorf("Trim(%#v) = %#v, want %#v", s, got, wantTrim)
		}
	}
}

func TestWithout(t *testing.T) { // P3.1
	cases := []struct {
		s     api.Str
		bytes string
		want  api.Str
	}{
		{str(""), "", str("")},
		{str(""), "abc", str("")},
		{str("abc", 1, 0, 2, 1), "", str("abc", 1, 0, 2, 1)},
		{str("abc", 3, 1), "xyz", str("abc", 3, 1)},
		{str("abc", 3, 1), "cba", str("")},
		{str(allBytes(), 256, 1), allBytes(), str("")},
		{str("banana", 6, 1), "a", str("bnn", 3, 1)},
		{str("banana", 6, 1), "aaa", str("bnn", 3, 1)},
		{str("banana", 6, 1), "A", str("banana", 6, 1)},
		{str("abcba", 1, 0, 1, 1, 1, 2, 1, 1, 1, 0), "b", str("aca", 1, 0, 1, 2, 1, 0)},
		{str("aba", 1, 3, 1, 0, 1, 3), "b", str("aa", 2, 3)}, // runs that have become neighbours are one
		{str("abca", 1, 3, 1, 0, 1, 1, 1, 3), "bc", str("aa", 2, 3)},
		{str("bab", 1, 1, 1, 2, 1, 3), "b", str("a", 1, 2)},
		{str("\x00a\xff", 3, 4), "\xff\x00", str("a", 1, 4)},
		{str("\xc3\x89\xc3\xa9", 4, 0), "\xc3\xa9", str("\x89", 1, 0)}, // bytes, not characters
	}
	for _, c := range cases {
		if got := Without(c.s, c.bytes); !alike(got, c.want) {
			t.Errorf("Without(%#v, %q) = %#v, want %#v", c.s, c.bytes, got, c.want)
		}
	}
}

func TestWithoutOfAllBytes(t *testing.T) { // P3.1
	all := allBytes()
	for b := range 256 {
		if got := Without(mark.Of(all, 2), all[b:b+1]); got.Text != all[:b]+all[b+1:] {
			t.Errorf("Without of %x = %#v", b, got)
		}
		if got := Without(mark.Of(all, 2), all[:b]+all[b+1:]); got.Text != all[b:b+1] {
			t.Errorf("Without of all but %x = %#v", b, got)
		}
	}
}

func TestSwap(t *testing.T) { // P3.1
	cases := []struct {
		s    api.Str
		old  byte
		by   string
		want api.Str
	}{
		{str(""), ',', "-", str("")},
		{str("abc", 3, 1), ',', "-", str("abc", 3, 1)},
		{str(",a,b,", 1, 1, 1, 2, 1, 3, 1, 4, 1, 5), ',', "", str("ab", 1, 2, 1, 4)},
		{str(",a,b,", 1, 1, 1, 2, 1, 3, 1, 4, 1, 5), ',', "-", str("-a-b-", 1, 1, 1, 2, 1, 3, 1, 4, 1, 5)},
		{str(",a,b,", 1, 1, 1, 2, 1, 3, 1, 4, 1, 5), ',', "<->", str("<->a<->b<->", 3, 1, 1, 2, 3, 3, 1, 4, 3, 5)},
		{str("a,,b", 1, 0, 1, 1, 1, 2, 1, 0), ',', "xy", str("axyxyb", 1, 0, 2, 1, 2, 2, 1, 0)},
		{str("a,,b", 1, 0, 2, 1, 1, 0), ',', "xy", str("axyxyb", 1, 0, 4, 1, 1, 0)},
		{str("a,,b", 1, 0, 2, 1, 1, 0), ',', "", str("ab", 2, 0)}, // runs that have become neighbours are one
		{str(",", 1, 7), ',', "", str("")},
		{str(",,", 1, 7, 1, 0), ',', "", str("")},
		{str(",", 1, 7), ',', "x,y", str("x,y", 3, 7)}, // what is put is not looked at again
		{str(",", 1, 7), ',', ",", str(",", 1, 7)},
		{str("\x00a\xff", 1, 0, 1, 1, 1, 2), 0, "ab", str("aba\xff", 2, 0, 1, 1, 1, 2)},
		{str("\x00a\xff", 1, 0, 1, 1, 1, 2), 0xFF, "\xfe\x00", str("\x00a\xfe\x00", 1, 0, 1, 1, 2, 2)},
		{str("aA", 2, 0), 'A', "b", str("ab", 2, 0)},
	}
	for _, c := range cases {
		if got := Swap(c.s, c.old, c.by); !alike(got, c.want) {
			t.Errorf("Swap(%#v, %x, %q) = %#v, want %#v", c.s, c.old, c.by, got, c.want)
		}
	}
}

func TestSwapOfAllBytes(t *testing.T) { // P3.1
	all := allBytes()
	for b := range 256 {
		if got, want := Swap(mark.Of(all, 2), byte(b), "<>"), mark.Of(all[:b]+"<>"+all[b+1:], 2); !alike(got, want) {
			t.Errorf("Swap of %x = %#v", b, got)
		}
	}
}

func TestLines(t *testing.T) { // P3.1
	check(t, "Lines", Lines, [][2]api.Str{
		{str("a\r\n\rb", 5, 0), str("a\n\nb", 4, 0)}, // the chapter's example
		{str("a\r\n\rb", 1, 1, 1, 2, 1, 3, 1, 4, 1, 5), str("a\n\nb", 1, 1, 1, 3, 1, 4, 1, 5)},
		{str(""), str("")},
		{str("ab", 2, 1), str("ab", 2, 1)},
		{str("\r\n", 2, 1), str("\n", 1, 1)},
		{str("\r", 1, 1), str("\n", 1, 1)},
		{str("\n", 1, 1), str("\n", 1, 1)},
		{str("\n\r", 1, 1, 1, 2), str("\n\n", 1, 1, 1, 2)},
		{str("\r\r\n", 1, 1, 1, 2, 1, 3), str("\n\n", 1, 1, 1, 3)},
		{str("\r\r\n", 1, 3, 1, 2, 1, 1), str("\n\n", 1, 3, 1, 2)},
		{str("\r\n\r\n", 1, 1, 1, 2, 1, 4, 1, 3), str("\n\n", 1, 2, 1, 4)},
		{str("\r\n\n", 1, 5, 1, 0, 1, 1), str("\n\n", 1, 5, 1, 1)}, // the return's origin is that of its own line feed alone
		{str("a\r", 1, 0, 1, 4), str("a\n", 1, 0, 1, 4)},
		{str("\r\r", 1, 4, 1, 0), str("\n\n", 1, 4, 1, 0)},
		{str("\r\n", 1, 0, 1, 7), str("\n", 1, 7)},
		{str("\r\n", 1, 7, 1, 0), str("\n", 1, 7)},
		{str("a\r\nb", 1, 0, 1, 7, 2, 0), str("a\nb", 1, 0, 1, 7, 1, 0)},
		{str("a\r\nb", 2, 0, 1, 7, 1, 0), str("a\nb", 1, 0, 1, 7, 1, 0)},
		{str("a\r\nb", 1, 7, 1, 0, 2, 7), str("a\nb", 3, 7)},
		{str("\r\x00\n", 3, 0), str("\n\x00\n", 3, 0)},
		{str("\r \n", 1, 9, 2, 0), str("\n \n", 1, 9, 2, 0)},
		{str("\x0b\x0c\xc2\x85\xe2\x80\xa8", 7, 0), str("\x0b\x0c\xc2\x85\xe2\x80\xa8", 7, 0)},
	})
}

func TestLinesAgainstModel(t *testing.T) { // P3.1
	all, turn := labels(), 0
	for n := range 7 {
		eachText(n, "\r\na\x0c", func(text string) {
			turn++
			s := api.Str{Text: text, Runs: all[turn%len(all)]}
			if got, want := Lines(s), modelLines(s); !alike(got, want) {
				t.Fatalf("Lines(%#v) = %#v, want %#v", s, got, want)
			}
		})
	}
}

func TestEndsAndTrimAgainstModel(t *testing.T) { // P3.1
	all, turn := labels(), 0
	for n := range 5 {
		eachText(n, "\x00\x08\t\n\x0b\f\r\x0e\x1f\x20\x21", func(text string) {
			turn++
			s := api.Str{Text: text, Runs: all[turn%len(all)]}
			if got, want := Ends(s), modelStrip(s, upTo20()); !alike(got, want) {
				t.Fatalf("Ends(%#v) = %#v, want %#v", s, got, want)
			}
			if got, want := Trim(s), modelStrip(s, blanks); !alike(got, want) {
				t.Fatalf("Trim(%#v) = %#v, want %#v", s, got, want)
			}
		})
	}
}

func TestCallsAgainstModel(t *testing.T) { // P3.1
	for _, c := range calls() {
		for _, s := range someStrs() {
			if got, want := c.call(s), c.model(s); !alike(got, want) {
				t.Fatalf("%s(%#v) = %#v, want %#v", c.name, s, got, want)
			}
		}
	}
}

func TestTextsNotAsTold(t *testing.T) { // P3.1, and P5 of DOC.md
	check(t, "Lower", Lower, [][2]api.Str{
		{str("AB"), str("ab", 2, top)},
		{str("AB", 1, 0), str("ab", 1, 0, 1, top)},
		{str("AB", 1, 3, 0, 9, -2, 8, 1, 3), str("ab", 2, 3)},
		{str("AB", math.MaxInt, -1, math.MaxInt, 4), str("ab", 2, 0)},
		{str("", 4, 4), str("")},
	})
	check(t, "Ends", Ends, [][2]api.Str{
		{str(" a "), str("a", 1, top)},
		{str(" ab ", 2, -3), str("ab", 1, 0, 1, top)},
		{str(" ab ", 1, 9, 1, 2, 7, 2), str("ab", 2, 2)},
		{str("  ", 9, 1), str("")},
	})
	check(t, "Trim", Trim, [][2]api.Str{
		{str(" a "), str("a", 1, top)},
		{str(" ab ", 2, top+3, 9, 0), str("ab", 1, top, 1, 0)},
		{str("", 1, 1), str("")},
	})
	check(t, "Lines", Lines, [][2]api.Str{
		{str("\r\n"), str("\n", 1, top)},
		{str("\r\na", 1, 0), str("\na", 2, top)},
		{str("\r\na", 2, 0), str("\na", 1, 0, 1, top)},
		{str("\r\n", 1, math.MinInt, 1, math.MaxInt), str("\n", 1, top)},
		{str("\r\n", 1, 2, 0, 9, 1, 1), str("\n", 1, 2)},
	})
	check(t, "Without", func(s api.Str) api.Str { return Without(s, "b") }, [][2]api.Str{
		{str("abc"), str("ac", 2, top)},
		{str("abc", 2, -1, 9, 0), str("ac", 2, 0)},
		{str("bb", 1, 1), str("")},
	})
	check(t, "Swap", func(s api.Str) api.Str { return Swap(s, 'b', "xy") }, [][2]api.Str{
		{str("abc"), str("axyc", 4, top)},
		{str("abc", 1, 2, 0, 5, 1, 2), str("axyc", 3, 2, 1, top)},
		{str("b", math.MaxInt, math.MaxInt), str("xy", 2, top)},
	})
}

func TestTwiceIsAsOnce(t *testing.T) { // P3.2
	for _, c := range calls() {
		if !c.again {
			continue
		}
		for _, s := range someStrs() {
			once := c.call(s)
			if twice := c.call(once); !alike(once, twice) {
				t.Fatalf("%s(%#v) = %#v, then %#v", c.name, s, once, twice)
			}
		}
	}
	for n := range 6 {
		eachText(n, "\r\nA \x00", func(text string) {
			s := mark.Cat(mark.Of(text[:n/2], 1), mark.Of(text[n/2:], 2))
			for _, c := range calls()[:4] {
				once := c.call(s)
				if twice := c.call(once); !alike(once, twice) {
					t.Fatalf("%s(%#v) = %#v, then %#v", c.name, s, once, twice)
				}
			}
		})
	}
}

func TestNothingLookedForIsLeft(t *testing.T) { // P3.1, as P3.2 needs it
	for _, s := range someStrs() {
		if got := Lines(s); strings.Contains(got.Text, "\r") {
			t.Fatalf("Lines(%#v) = %#v", s, got)
		}
		if got := Lower(s); !IsLower(got.Text) {
			t.Fatalf("Lower(%#v) = %#v", s, got)
		}
		for _, bytes := range someBytes() {
			got := Without(s, bytes)
			for i := range len(got.Text) {
				if strings.IndexByte(bytes, got.Text[i]) >= 0 {
					t.Fatalf("Without(%#v, %q) = %#v", s, bytes, got)
				}
			}
		}
	}
}

func TestArgumentsAreNotChanged(t *testing.T) { // P3.3
	for _, c := range calls() {
		for _, s := range someStrs() {
			before := slices.Clone(s.Runs)
			c.call(s)
			if !slices.Equal(s.Runs, before) {
				t.Fatalf("%s changed runs from %v to %v", c.name, before, s.Runs)
			}
		}
		own := []api.Run{{Len: 1, Origin: 2}, {Len: 7, Origin: 7}}
		c.call(api.Str{Text: "a\r\nB,", Runs: own[:1]}) // an append in place would write to own[1]
		if own[0] != (api.Run{Len: 1, Origin: 2}) || own[1] != (api.Run{Len: 7, Origin: 7}) {
			t.Errorf("%s changed memory behind the runs: %v", c.name, own)
		}
	}
}

func TestAnswersAreNewMemory(t *testing.T) { // P3.3
	for _, c := range calls() {
		for _, s := range someStrs() {
			before, want := slices.Clone(s.Runs), mark.Fix(c.call(s))
			a, b := c.call(s), c.call(s)
			scribble(a.Runs)
			if !slices.Equal(s.Runs, before) {
				t.Fatalf("%s(%#v): its answer shares runs with its argument", c.name, s)
			}
			if !alike(b, want) || !alike(c.call(s), want) {
				t.Fatalf("%s(%#v): two answers share runs", c.name, s)
			}
			if shares(a.Text, s.Text) || shares(a.Text, b.Text) {
				t.Fatalf("%s(%#v): its answer shares bytes", c.name, s)
			}
		}
	}
	by := strings.Clone("xyz")
	if got := Swap(mark.Of(",", 1), ',', by); shares(got.Text, by) {
		t.Error("Swap: its answer shares bytes with what is put")
	}
}

// scribble writes over all that a list can reach.
func scribble(runs []api.Run) {
	runs = runs[:cap(runs)]
	for i := range runs {
		runs[i] = api.Run{Len: -9, Origin: -9}
	}
}

// shares tells whether two texts have bytes of one memory.
func shares(a, b string) bool {
	if a == "" || b == "" {
		return false
	}
	p, q := uintptr(unsafe.Pointer(unsafe.StringData(a))), uintptr(unsafe.Pointer(unsafe.StringData(b)))
	return p < q+uintptr(len(b)) && q < p+uintptr(len(a))
}

func TestAnswersAreAsTold(t *testing.T) { // P5 of DOC.md
	for _, c := range calls() {
		for _, s := range someStrs() {
			got := c.call(s)
			if mark.Check(got) != api.OK {
				t.Fatalf("%s(%#v) = %#v is not as told", c.name, s, got)
			}
			if !alike(got, c.call(mark.Fix(s))) {
				t.Fatalf("%s(%#v): taken otherwise than mark takes it", c.name, s)
			}
		}
	}
}

func TestAnswersHangOnArgumentsAlone(t *testing.T) { // P3 of DOC.md
	for _, c := range calls() {
		for _, s := range someStrs() {
			first := c.call(s)
			c.call(mark.Of("\r\nA, \r", 7))
			if second := c.call(s); !alike(first, second) {
				t.Fatalf("%s(%#v): %#v, then %#v", c.name, s, first, second)
			}
		}
	}
}

func TestLongTexts(t *testing.T) { // P1 of DOC.md: an end within bearable time
	const n = 1 << 18
	s := api.Str{Text: strings.Repeat("\r\n", n/2)}
	for i := range n {
		s.Runs = append(s.Runs, api.Run{Len: 1, Origin: i % 4})
	}
	if got := Lines(s); got.Text != strings.Repeat("\n", n/2) || len(got.Runs) != n/2 || mark.Check(got) != api.OK {
		t.Errorf("Lines has %d bytes and %d runs", len(got.Text), len(got.Runs))
	}
	if got := Swap(s, '\r', "ab"); got.Text != strings.Repeat("ab\n", n/2) || len(got.Runs) != n || mark.Check(got) != api.OK {
		t.Errorf("Swap has %d bytes and %d runs", len(got.Text), len(got.Runs))
	}
	if got := Without(s, strings.Repeat("a", n)+"\r"); got.Text != strings.Repeat("\n", n/2) || mark.Check(got) != api.OK {
		t.Errorf("Without has %d bytes and %d runs", len(got.Text), len(got.Runs))
	}
	if got := Lower(s); !alike(got, s) || !IsLower(s.Text) || IsLower(s.Text+"A") {
		t.Errorf("Lower has %d bytes and %d runs", len(got.Text), len(got.Runs))
	}
	if !alike(Trim(s), api.Str{}) || !alike(Ends(s), api.Str{}) {
		t.Error("Trim or Ends of a long text of blanks leaves some")
	}
}
