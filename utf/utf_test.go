package utf

import (
	"math"
	"slices"
	"strings"
	"testing"
	"unicode/utf8"
	"unsafe"

	"glazier/api"
	"glazier/mark"
)

const (
	top = api.MaxOrigin
	bad = "\xef\xbf\xbd"
)

// span is the bytes from low to high.
type span struct{ low, high byte }

// rows are the chapter's right sequences, row by row, as it words them: the model of the tests.
func rows() [][]span {
	tail := span{0x80, 0xBF}
	return [][]span{
		{{0x00, 0x7F}},
		{{0xC2, 0xDF}, tail},
		{{0xE0, 0xE0}, {0xA0, 0xBF}, tail},
		{{0xE1, 0xEC}, tail, tail},
		{{0xEE, 0xEF}, tail, tail},
		{{0xED, 0xED}, {0x80, 0x9F}, tail},
		{{0xF0, 0xF0}, {0x90, 0xBF}, tail, tail},
		{{0xF1, 0xF3}, tail, tail, tail},
		{{0xF4, 0xF4}, {0x80, 0x8F}, tail, tail},
	}
}

// fitting tells how many bytes at the beginning of text fit into a row.
func fitting(row []span, text string) int {
	n := 0
	for n < len(row) && n < len(text) && row[n].low <= text[n] && text[n] <= row[n].high {
		n++
	}
	return n
}

// modelNext tells what Next must tell.
func modelNext(model [][]span, text string) (int, bool) {
	if text == "" {
		return 0, false
	}
	longest := 1
	for _, row := range model {
		n := fitting(row, text)
		if n == len(row) {
			return n, true
		}
		longest = max(longest, n)
	}
	return longest, false
}

// modelRepair tells what Repair must tell, with the origin of each byte asked one by one.
func modelRepair(model [][]span, s api.Str) api.Str {
	var parts []api.Str
	for at := 0; at < len(s.Text); {
		n, right := modelNext(model, s.Text[at:])
		worst := 0
		for i := at; i < at+n; i++ {
			worst = max(worst, mark.At(s, i))
		}
		if right && s.Text[at] != 0 {
			parts = append(parts, mark.Cut(s, at, at+n))
		} else {
			parts = append(parts, mark.Of(bad, worst))
		}
		at += n
	}
	return mark.Cat(parts...)
}

// edgeBytes are the first and last bytes of each span of the rows, and their neighbours.
func edgeBytes() []byte {
	var edges []byte
	for _, row := range rows() {
		for _, s := range row {
			edges = append(edges, s.low-1, s.low, s.high, s.high+1)
		}
	}
	edges = append(edges, 'A', 0x80, 0xBF, 0xC0, 0xC1, 0xFE, 0xFF)
	slices.Sort(edges)
	return slices.Compact(edges)
}

// eachText hands all texts of n bytes of an alphabet to see.
func eachText(n int, alphabet []byte, see func(text string)) {
	text := make([]byte, n)
	var fill func(at int)
	fill = func(at int) {
		if at == n {
			see(string(text))
			return
		}
		for _, b := range alphabet {
			text[at] = b
			fill(at + 1)
		}
	}
	fill(0)
}

// allBytes are the 256 bytes.
func allBytes() []byte {
	var all []byte
	for b := range 256 {
		all = append(all, byte(b))
	}
	return all
}

// str writes a labelled text: lens and origins by turns.
func str(text string, pairs ...int) api.Str {
	s := api.Str{Text: text}
	for i := 0; i+1 < len(pairs); i += 2 {
		s.Runs = append(s.Runs, api.Run{Len: pairs[i], Origin: pairs[i+1]})
	}
	return s
}

// alike holds two texts against each other field by field.
func alike(a, b api.Str) bool {
	return a.Text == b.Text && slices.Equal(a.Runs, b.Runs)
}

// someTexts are texts of all kinds, right and wrong.
func someTexts() []string {
	return []string{
		"", "abc", "a\x00b", "\x00", "\x00\x00", bad, "a" + bad + "b",
		"\u00e9\u20ac\U0001f600", "a\u00e9b\u20acc\U0001f600d", "\x7f\u0080\u07ff\u0800\uffff\U00010000\U0010ffff",
		"\xe2\x82A", "\xe2\x82", "\xe2", "\xc3", "\xf0\x9f\x98", "\xf0\x9f\x98A", "\xf0\x9fA", "\xf0A",
		"\x80", "\xbf\xbf", "\xc0\x80", "\xc1\xbf", "\xf5\x80\x80\x80", "\xff\xfe",
		"\xe0\x80\x80", "\xe0\x9f\xbf", "\xed\xa0\x80", "\xed\xbf\xbf", "\xf0\x80\x80\x80", "\xf0\x8f\xbf\xbf", "\xf4\x90\x80\x80",
		"\xe2\x82\xe2\x82\xac", "\xf0\x9f\xf0\x9f\x98\x80", "\xc3\xc3\xa9", "\xe2\x82\x00", "\xf0\x9f\x98\x00x", "\xef\xbf", "\xef\xbf\xbd\xbd",
	}
}

// labels are runs of all kinds, as told for some texts and not for others.
func labels() [][]api.Run {
	return [][]api.Run{
		nil, {},
		{{Len: 1, Origin: 0}},
		{{Len: 1, Origin: 4}, {Len: 1, Origin: 9}, {Len: 1, Origin: 2}},
		{{Len: 2, Origin: 0}, {Len: 1, Origin: 7}, {Len: 1, Origin: 1}},
		{{Len: 1, Origin: 3}, {Len: 1, Origin: 3}, {Len: 2, Origin: 3}},
		{{Len: math.MaxInt, Origin: 0}},
		{{Len: math.MaxInt, Origin: 5}, {Len: math.MaxInt, Origin: 6}},
		{{Len: math.MinInt, Origin: 8}, {Len: 1, Origin: -1}, {Len: 0, Origin: 8}, {Len: 1, Origin: math.MinInt}},
		{{Len: 1, Origin: top + 1}, {Len: 1, Origin: math.MaxInt}, {Len: 1, Origin: 0}},
		{{Len: 1, Origin: top}, {Len: -1, Origin: 0}, {Len: 2, Origin: top - 1}},
	}
}

// someStrs tells each of someTexts with each of labels.
func someStrs() []api.Str {
	var out []api.Str
	for _, text := range someTexts() {
		for _, runs := range labels() {
			out = append(out, api.Str{Text: text, Runs: slices.Clone(runs)})
		}
	}
	return out
}

func TestNext(t *testing.T) { // P2.1
	cases := []struct {
		text  string
		size  int
		right bool
	}{
		{"", 0, false},
		{"\x00", 1, true},
		{"a", 1, true},
		{"\x7f\x80", 1, true},
		{"\x80", 1, false},
		{"\xbf\xbf\xbf", 1, false},
		{"\xc0\x80", 1, false},
		{"\xc1\xbf", 1, false},
		{"\xc2", 1, false},
		{"\xc2\x7f", 1, false},
		{"\xc2\x80", 2, true},
		{"\xdf\xbf\xbf", 2, true},
		{"\xdf\xc0", 1, false},
		{"\xe0\x9f\xbf", 1, false},
		{"\xe0\xa0", 2, false},
		{"\xe0\xa0\x7f", 2, false},
		{"\xe0\xa0\x80", 3, true},
		{"\xec\xbf\xbf", 3, true},
		{"\xed\x9f\xbf", 3, true},
		{"\xed\xa0\x80", 1, false},
		{"\xee\x80\x80", 3, true},
		{"\xef\xbf\xbf", 3, true},
		{"\xf0\x8f\xbf\xbf", 1, false},
		{"\xf0\x90", 2, false},
		{"\xf0\x90\x80", 3, false},
		{"\xf0\x90\x80A", 3, false},
		{"\xf0\x90\x80\x80", 4, true},
		{"\xf3\xbf\xbf\xbf\xbf", 4, true},
		{"\xf4\x8f\xbf\xbf", 4, true},
		{"\xf4\x90\x80\x80", 1, false},
		{"\xf5\x80\x80\x80", 1, false},
		{"\xff", 1, false},
	}
	for _, c := range cases {
		if size, right := Next(c.text); size != c.size || right != c.right {
			t.Errorf("Next(%q) = %d, %v, want %d, %v", c.text, size, right, c.size, c.right)
		}
	}
}

func TestNextAgainstModel(t *testing.T) { // P2.1
	model := rows()
	see := func(text string) {
		wantSize, wantRight := modelNext(model, text)
		if size, right := Next(text); size != wantSize || right != wantRight {
			t.Fatalf("Next(%q) = %d, %v, want %d, %v", text, size, right, wantSize, wantRight)
		}
	}
	eachText(1, allBytes(), see)
	eachText(2, allBytes(), see)
	eachText(3, edgeBytes(), see)
	eachText(4, edgeBytes(), see)
}

func TestNextTellsNoMoreThanTheFirst(t *testing.T) { // P2.1
	for _, behind := range []string{"", "a", "\x00", "\x80", "\xff", "\u20ac", "\xe2\x82"} {
		for _, row := range rows() {
			var low, high []byte
			for _, s := range row {
				low, high = append(low, s.low), append(high, s.high)
			}
			for _, text := range []string{string(low), string(high)} {
				if size, right := Next(text + behind); size != len(row) || !right {
					t.Errorf("Next(%q) = %d, %v, want %d, true", text+behind, size, right, len(row))
				}
			}
		}
	}
}

func TestValid(t *testing.T) { // P2.1
	right := []string{"", "a", "\x01\x7f", "\u0080\u07ff", "\u0800\ud7ff\ue000\uffff", "\U00010000\U0010ffff", bad, "a\u20acb"}
	for _, text := range right {
		if !Valid(text) {
			t.Errorf("Valid(%q) = false", text)
		}
	}
	wrong := []string{
		"\x00", "a\x00", "\x00a", "\u20ac\x00", "\x80", "a\xff", "\xc2", "a\xe2\x82", "\xe2\x82a", "\xf0\x9f\x98",
		"\xc0\x80", "\xe0\x80\x80", "\xed\xa0\x80", "\xf4\x90\x80\x80", "\u20ac\xac",
	}
	for _, text := range wrong {
		if Valid(text) {
			t.Errorf("Valid(%q) = true", text)
		}
	}
}

func TestValidAgainstLibrary(t *testing.T) { // P2.1
	see := func(text string) {
		want := utf8.ValidString(text) && !strings.Contains(text, "\x00")
		if got := Valid(text); got != want {
			t.Fatalf("Valid(%q) = %v", text, got)
		}
	}
	eachText(2, allBytes(), see)
	eachText(3, edgeBytes(), see)
	eachText(4, edgeBytes(), see)
}

func TestCount(t *testing.T) { // P2.1
	cases := []struct {
		text string
		want int
	}{
		{"", 0}, {"abc", 3}, {"\x00", 1}, {"a\x00b", 3}, {"\u00e9\u20ac\U0001f600", 3},
		{"\x80\x80", 2}, {"\xff", 1}, {"\xe2\x82", 1}, {"\xe2\x82A", 2}, {"\xf0\x9f\x98", 1},
		{"\xf0\x9f\x98\xf0\x9f\x98\x80", 2}, {"\xe2\xe2\x82\xac", 2}, {"\xed\xa0\x80", 3}, {"\xf4\x90\x80\x80", 4}, {"\xc0\x80", 2},
	}
	for _, c := range cases {
		if got := Count(c.text); got != c.want {
			t.Errorf("Count(%q) = %d, want %d", c.text, got, c.want)
		}
	}
}

func TestCountAgainstModel(t *testing.T) { // P2.1
	model := rows()
	see := func(text string) {
		want := 0
		for rest := text; rest != ""; want++ {
			n, _ := modelNext(model, rest)
			rest = rest[n:]
		}
		if got := Count(text); got != want {
			t.Fatalf("Count(%q) = %d, want %d", text, got, want)
		}
	}
	eachText(2, allBytes(), see)
	eachText(3, edgeBytes(), see)
	eachText(4, edgeBytes(), see)
}

func TestRune(t *testing.T) { // P2.1
	cases := []struct {
		n    int
		want string
	}{
		{1, "\x01"}, {'A', "A"}, {0x7F, "\x7f"}, {0x80, "\xc2\x80"}, {0x7FF, "\xdf\xbf"}, {0x800, "\xe0\xa0\x80"},
		{0x20AC, "\xe2\x82\xac"}, {0xD7FF, "\xed\x9f\xbf"}, {0xE000, "\xee\x80\x80"}, {0xFFFD, bad}, {0xFFFF, "\xef\xbf\xbf"},
		{0x10000, "\xf0\x90\x80\x80"}, {0x10FFFF, "\xf4\x8f\xbf\xbf"},
		{0, bad}, {-1, bad}, {-'A', bad}, {0xD800, bad}, {0xDBFF, bad}, {0xDC00, bad}, {0xDFFF, bad}, {0x110000, bad},
		{math.MaxInt32, bad}, {math.MinInt32, bad}, {math.MaxInt, bad}, {math.MinInt, bad},
		{1<<32 + 'A', bad}, {-1<<32 + 'A', bad}, {math.MinInt + 'A', bad}, // as 32 bits they would be 'A'
	}
	for _, c := range cases {
		if got := Rune(c.n); got != c.want {
			t.Errorf("Rune(%x) = %q, want %q", c.n, got, c.want)
		}
	}
}

func TestRuneOfAllNumbers(t *testing.T) { // P2.1
	for n := -5; n <= 0x110005; n++ {
		got := Rune(n)
		if n < 1 || n > 0x10FFFF || n >= 0xD800 && n <= 0xDFFF {
			if got != bad {
				t.Fatalf("Rune(%x) = %q", n, got)
			}
			continue
		}
		if r, size := utf8.DecodeRuneInString(got); int(r) != n || size != len(got) {
			t.Fatalf("Rune(%x) = %q", n, got)
		}
		if size, right := Next(got); size != len(got) || !right || !Valid(got) || Count(got) != 1 {
			t.Fatalf("Rune(%x) = %q is not one right sequence", n, got)
		}
	}
}

func TestRepair(t *testing.T) { // P2.1
	cases := []struct{ s, want api.Str }{
		{str("\xe2\x82A", 3, 3), str(bad+"A", 4, 3)}, // the chapter's example
		{str("abc", 1, 0, 2, 3), str("abc", 1, 0, 2, 3)},
		{str(""), str("")},
		{str("a\x00b", 1, 0, 1, 2, 1, 0), str("a"+bad+"b", 1, 0, 3, 2, 1, 0)},
		{str("\x00\x00", 1, 1, 1, 2), str(bad+bad, 3, 1, 3, 2)},
		{str("\x80\x80", 2, 5), str(bad+bad, 6, 5)},
		{str("\xe2\x82", 1, 1, 1, 6), str(bad, 3, 6)},
		{str("\xe2\x82", 1, 6, 1, 1), str(bad, 3, 6)},
		{str("\xf0\x9f\x98x", 1, 1, 1, 9, 1, 2, 1, 9), str(bad+"x", 4, 9)},
		{str("\xf0\x9f\x98x", 1, 1, 1, 9, 1, 2, 1, 10), str(bad+"x", 3, 9, 1, 10)},
		{str("\xf0\x9fx", 2, 0, 1, 9), str(bad+"x", 3, 0, 1, 9)},
		{str("\xe2\x82\xac", 1, 1, 1, 2, 1, 3), str("\u20ac", 1, 1, 1, 2, 1, 3)},
		{str("\xed\xa0\x80", 1, 1, 1, 2, 1, 3), str(bad+bad+bad, 3, 1, 3, 2, 3, 3)},
		{str("\xe2\xe2\x82\xac", 1, 1, 3, 0), str(bad+"\u20ac", 3, 1, 3, 0)},
		{str("\xe2\x82\x00", 2, 0, 1, 4), str(bad+bad, 3, 0, 3, 4)},
	}
	for _, c := range cases {
		if got := Repair(c.s); !alike(got, c.want) {
			t.Errorf("Repair(%#v) = %#v, want %#v", c.s, got, c.want)
		}
	}
}

func TestRepairOfTextsNotAsTold(t *testing.T) { // P2.1, and P5 of DOC.md
	cases := []struct{ s, want api.Str }{
		{str("ab"), str("ab", 2, top)},
		{str("\xe2\x82a", 1, 0), str(bad+"a", 4, top)},
		{str("\xe2\x82a", 2, 0), str(bad+"a", 3, 0, 1, top)},
		{str("", 4, 4), str("")},
		{str("\xffa", 1, -1, 9, 0), str(bad+"a", 4, 0)},
		{str("\xe2\x82", 1, math.MaxInt, 1, 0), str(bad, 3, top)},
		{str("a\xffb", 1, 2, 0, 9, -1, 8, 1, 2, 1, 2), str("a"+bad+"b", 5, 2)},
		{str("\xe2\x82", math.MaxInt, 1, math.MaxInt, 7), str(bad, 3, 1)},
	}
	for _, c := range cases {
		if got := Repair(c.s); !alike(got, c.want) {
			t.Errorf("Repair(%#v) = %#v, want %#v", c.s, got, c.want)
		}
	}
}

func TestRepairAgainstModel(t *testing.T) { // P2.1
	model := rows()
	see := func(s api.Str) {
		if got, want := Repair(s), modelRepair(model, s); !alike(got, want) {
			t.Fatalf("Repair(%#v) = %#v, want %#v", s, got, want)
		}
	}
	for _, s := range someStrs() {
		see(s)
	}
	all := labels()
	turn := 0
	seeText := func(text string) {
		turn++
		see(api.Str{Text: text, Runs: all[turn%len(all)]})
	}
	eachText(2, allBytes(), seeText)
	eachText(3, edgeBytes(), seeText)
	few := []byte{0x00, 'A', 0x80, 0x90, 0xA0, 0xBF, 0xC3, 0xE0, 0xED, 0xF0, 0xF4, 0xFF}
	eachText(4, few, seeText)
	eachText(5, few, seeText)
}

func TestRepairedIsValid(t *testing.T) { // P2.2
	for _, s := range someStrs() {
		got := Repair(s)
		if !Valid(got.Text) || !utf8.ValidString(got.Text) || strings.Contains(got.Text, "\x00") {
			t.Fatalf("Repair(%#v) = %#v is not valid", s, got)
		}
		if again := Repair(got); !alike(again, got) {
			t.Fatalf("Repair(%#v) = %#v, repaired again: %#v", s, got, again)
		}
		if Count(got.Text) != Count(s.Text) {
			t.Fatalf("Repair(%#v) = %#v: another count", s, got)
		}
	}
	eachText(4, edgeBytes(), func(text string) {
		if got := Repair(mark.Of(text, 1)); !Valid(got.Text) {
			t.Fatalf("Repair of %q = %#v is not valid", text, got)
		}
	})
}

func TestValidStays(t *testing.T) { // P2.2
	seen := 0
	for _, s := range someStrs() {
		if !Valid(s.Text) {
			continue
		}
		seen++
		if got := Repair(s); !alike(got, mark.Fix(s)) {
			t.Fatalf("Repair(%#v) = %#v", s, got)
		}
	}
	if seen == 0 {
		t.Fatal("none of the texts is valid")
	}
	for n := 1; n <= 0x10FFFF; n += 61 {
		text := Rune(n)
		s := mark.Cat(mark.Of(text[:1], 4), mark.Of(text[1:], n%7))
		if got := Repair(s); !alike(got, s) {
			t.Fatalf("Repair(%#v) = %#v", s, got)
		}
	}
}

func TestArgumentsAreNotChanged(t *testing.T) { // P2.3
	for _, s := range someStrs() {
		before := slices.Clone(s.Runs)
		Repair(s)
		if !slices.Equal(s.Runs, before) {
			t.Fatalf("runs changed from %v to %v", before, s.Runs)
		}
	}
	own := []api.Run{{Len: 1, Origin: 2}, {Len: 7, Origin: 7}}
	Repair(api.Str{Text: "a\xffc", Runs: own[:1]}) // an append in place would write to own[1]
	if own[0] != (api.Run{Len: 1, Origin: 2}) || own[1] != (api.Run{Len: 7, Origin: 7}) {
		t.Errorf("memory behind the runs changed: %v", own)
	}
}

func TestAnswersAreNewMemory(t *testing.T) { // P2.3
	for _, s := range someStrs() {
		before, want := slices.Clone(s.Runs), mark.Fix(Repair(s))
		a, b := Repair(s), Repair(s)
		scribble(a.Runs)
		if !slices.Equal(s.Runs, before) {
			t.Fatalf("Repair(%#v): its answer shares runs with its argument", s)
		}
		if !alike(b, want) || !alike(Repair(s), want) {
			t.Fatalf("Repair(%#v): two answers share runs", s)
		}
		if shares(a.Text, s.Text) || shares(a.Text, b.Text) {
			t.Fatalf("Repair(%#v): its answer shares bytes", s)
		}
	}
	for _, n := range []int{1, 'A', 0x20AC, 0xFFFD, 0x10FFFF, 0, -1, 0xD800, math.MaxInt} {
		if a, b := Rune(n), Rune(n); shares(a, b) {
			t.Errorf("Rune(%x): two answers share bytes", n)
		}
	}
}

// scribble writes over all that a list can reach.
func scribble(runs []api.Run) {
	runs = runs[:cap(runs)]
	for i := range runs {
		runs[i] = api.Run{Len: -9, Origin: -9}
	}
}

// shares tells whether two texts have bytes of one memory.
func shares(a, b string) bool {
	if a == "" || b == "" {
		return false
	}
	p, q := uintptr(unsafe.Pointer(unsafe.StringData(a))), uintptr(unsafe.Pointer(unsafe.StringData(b)))
	return p < q+uintptr(len(b)) && q < p+uintptr(len(a))
}

func TestAnswersAreAsTold(t *testing.T) { // P5 of DOC.md
	for _, s := range someStrs() {
		if got := Repair(s); mark.Check(got) != api.OK {
			t.Fatalf("Repair(%#v) = %#v is not as told", s, got)
		}
		if !alike(Repair(s), Repair(mark.Fix(s))) {
			t.Fatalf("Repair(%#v): taken otherwise than mark takes it", s)
		}
	}
}

func TestAnswersHangOnArgumentsAlone(t *testing.T) { // P3 of DOC.md
	for _, s := range someStrs() {
		first := Repair(s)
		Repair(mark.Of("\xff", 7))
		if second := Repair(s); !alike(first, second) {
			t.Fatalf("Repair(%#v): %#v, then %#v", s, first, second)
		}
	}
}

func TestLongTexts(t *testing.T) { // P1 of DOC.md: an end within bearable time
	const n = 1 << 18
	wrong := api.Str{Text: strings.Repeat("\xe2\x82", n/2)}
	for i := range n {
		wrong.Runs = append(wrong.Runs, api.Run{Len: 1, Origin: i % 4})
	}
	got := Repair(wrong)
	if got.Text != strings.Repeat(bad, n/2) || len(got.Runs) != n/2 || mark.Check(got) != api.OK {
		t.Errorf("Repair of %d wrong sequences has %d bytes and %d runs", n/2, len(got.Text), len(got.Runs))
	}
	if got := Count(wrong.Text); got != n/2 {
		t.Errorf("Count = %d, want %d", got, n/2)
	}
	right := mark.Of(strings.Repeat("\u20ac", n), 2)
	if !Valid(right.Text) || Count(right.Text) != n || !alike(Repair(right), right) {
		t.Error("a long right text does not stay")
	}
	if Valid(right.Text + "\x00") {
		t.Error("a byte 0 behind a long right text is not seen")
	}
}
