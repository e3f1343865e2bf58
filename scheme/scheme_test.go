package scheme

import (
	"math"
	"slices"
	"strings"
	"testing"
	"unsafe"

	"glazier/api"
	"glazier/mark"
)

const top = api.MaxOrigin

// The bytes that a scheme may begin with, and those that it may have behind, written out;
// the rest of the 256 are none.
const (
	firsts = "ABCDEFGHIJKLMNOPQRSTUVWXYZabcdefghijklmnopqrstuvwxyz"
	laters = firsts + "0123456789+-."
)

// sign is a byte and its origin; a text as signs is the model of the tests.
type sign struct {
	b      byte
	origin int
}

// signs tells the bytes of s with their origins, as chapter 1 takes them.
func signs(s api.Str) []sign {
	var out []sign
	for _, r := range s.Runs {
		for n := 0; n < r.Len && len(out) < len(s.Text); n++ {
			out = append(out, sign{s.Text[len(out)], min(max(r.Origin, 0), top)})
		}
	}
	for len(out) < len(s.Text) {
		out = append(out, sign{s.Text[len(out)], top})
	}
	return out
}

// told tells the one labelled text of these signs that is as told.
func told(l []sign) api.Str {
	var s api.Str
	for i, c := range l {
		s.Text += string([]byte{c.b})
		if i == 0 || l[i-1].origin != c.origin {
			s.Runs = append(s.Runs, api.Run{Origin: c.origin})
		}
		s.Runs[len(s.Runs)-1].Len++
	}
	return s
}

// modelReady takes signs off, one by one, as long as one may go.
func modelReady(s api.Str) []sign {
	l := signs(s)
	for len(l) > 0 && l[0].b < 0x21 {
		l = l[1:]
	}
	for len(l) > 0 && l[len(l)-1].b < 0x21 {
		l = l[:len(l)-1]
	}
	return slices.DeleteFunc(l, func(c sign) bool { return c.b == 9 || c.b == 10 || c.b == 13 })
}

// modelKnown is the list of the chapter.
func modelKnown(name string) bool {
	return name == "http" || name == "https" || name == "mailto"
}

// modelSafe goes along the signs up to the colon that ends a scheme.
func modelSafe(s api.Str) bool {
	name, trusted := "", true
	for i, c := range modelReady(s) {
		trusted = trusted && c.origin == 0
		if c.b == ':' && i > 0 {
			return modelKnown(name) && trusted
		}
		if i == 0 && strings.IndexByte(firsts, c.b) < 0 || strings.IndexByte(laters, c.b) < 0 {
			return true
		}
		if at := strings.IndexByte(firsts[:26], c.b); at >= 0 {
			c.b = firsts[26+at]
		}
		name += string([]byte{c.b})
	}
	return true
}

// str writes a labelled text: lens and origins by turns.
func str(text string, pairs ...int) api.Str {
	s := api.Str{Text: text}
	for i := 0; i+1 < len(pairs); i += 2 {
		s.Runs = append(s.Runs, api.Run{Len: pairs[i], Origin: pairs[i+1]})
	}
	return s
}

// alike holds two texts against each other field by field.
func alike(a, b api.Str) bool {
	return a.Text == b.Text && slices.Equal(a.Runs, b.Runs)
}

// someTexts are texts of all kinds.
func someTexts() []string {
	return []string{
		"", " ", "\t", "\x00", ":", "::", ":a", "a", "a:", "a:b", "http", "http:", "http:x", "https:x", "mailto:a@b", "HTTP:X", "hTtPs:x", "MailTo:x",
		"http://a.b/c?d=e&f#g", "https://a:8/", "http:mailto:x", "http:javascript:x", "http:https:x", "http::", "a:http:x", "javascript:http:x",
		" ht\ttp\n:\rx ", "\x00\x1fhttps\t:x\x00", "\r\nmailto:\t", " j\na\rv\tascript:x", "JaVaScRiPt:x", "javascript:x", "data:x", "file:x", "vbscript:x",
		"htt:x", "ttp:x", "httpss:x", "httpx:x", "xhttp:x", "mail:x", "mailt:x", "mailtoo:x", "http.:x", "http+:x", "http-:x", "http1:x", "1http:x", "+http:x",
		"http :x", "ht tp:x", "http\x00:x", "http\x0b:x", "http/:x", "/http:x", "#http:x", "?http:x", "http#:x", "http?:x", "//a/b", "a/b:c", "http%3Ax", "h\xc3\xa9:x", "\xffhttp:x", "http\xff:x",
	}
}

// labels are runs of all kinds, as told for some texts and not for others.
func labels() [][]api.Run {
	return [][]api.Run{
		nil, {},
		{{Len: math.MaxInt, Origin: 0}},
		{{Len: math.MaxInt, Origin: -3}},
		{{Len: math.MaxInt, Origin: 1}},
		{{Len: 4, Origin: 0}},
		{{Len: 5, Origin: 0}},
		{{Len: 5, Origin: 0}, {Len: 9, Origin: 2}},
		{{Len: 6, Origin: 0}, {Len: 9, Origin: top}},
		{{Len: 8, Origin: 0}},
		{{Len: 1, Origin: 1}, {Len: 99, Origin: 0}},
		{{Len: 2, Origin: 4}, {Len: 99, Origin: 0}},
		{{Len: 1, Origin: 0}, {Len: 1, Origin: 1}, {Len: 99, Origin: 0}},
		{{Len: 3, Origin: 0}, {Len: 1, Origin: 7}, {Len: 99, Origin: 0}},
		{{Len: 4, Origin: 0}, {Len: 1, Origin: 7}, {Len: 99, Origin: 0}},
		{{Len: 2, Origin: 0}, {Len: 0, Origin: 9}, {Len: -4, Origin: 9}, {Len: 2, Origin: 0}, {Len: 9, Origin: -1}},
		{{Len: math.MinInt, Origin: 8}, {Len: 1, Origin: -1}, {Len: 0, Origin: 8}, {Len: 9, Origin: math.MinInt}},
		{{Len: 5, Origin: 0}, {Len: math.MaxInt, Origin: 5}, {Len: math.MaxInt, Origin: 0}},
		{{Len: 1, Origin: top + 1}, {Len: 1, Origin: math.MaxInt}, {Len: 9, Origin: 0}},
	}
}

// someStrs tells each of someTexts with each of labels.
func someStrs() []api.Str {
	var out []api.Str
	for _, text := range someTexts() {
		for _, runs := range labels() {
			out = append(out, api.Str{Text: text, Runs: slices.Clone(runs)})
		}
	}
	return out
}

// manyStrs tells someStrs, and texts put together of the parts that matter, with labels
// by turns.
func manyStrs() []api.Str {
	parts := []string{"http", "HTTPS", "mailto", "ma", "ilTo", "s", "java", "1", ":", ":", "\t", "\r\n", " ", "\x00", "/", "\xff"}
	texts := []string{""}
	for from, turn := 0, 0; turn < 4; turn++ {
		to := len(texts)
		for _, text := range texts[from:to] {
			for _, part := range parts {
				texts = append(texts, text+part)
			}
		}
		from = to
	}
	all, out := labels(), someStrs()
	for i, text := range texts {
		out = append(out, api.Str{Text: text, Runs: all[2]}, api.Str{Text: text, Runs: all[i%len(all)]})
	}
	return out
}

// checkSafe holds Safe, and whether Filter tells something, against what is wanted.
func checkSafe(t *testing.T, s api.Str, want bool) {
	t.Helper()
	if got := Safe(s); got != want {
		t.Errorf("Safe(%#v) = %v", s, got)
	}
	if _, got := Filter(s); got != want {
		t.Errorf("Filter(%#v) = %v", s, got)
	}
}

// checkFilter holds Filter of s against what is wanted.
func checkFilter(t *testing.T, s api.Str, want api.Str, safe bool) {
	t.Helper()
	if got, ok := Filter(s); !alike(got, want) || ok != safe {
		t.Errorf("Filter(%#v) = %#v, %v, want %#v, %v", s, got, ok, want, safe)
	}
}

func TestNames(t *testing.T) { // P7.1
	if got := Names(); !slices.Equal(got, []string{"http", "https", "mailto"}) {
		t.Errorf("Names() = %q", got)
	}
}

func TestKnown(t *testing.T) { // P7.1
	for _, name := range []string{"http", "https", "mailto"} {
		if !Known(name) {
			t.Errorf("Known(%q) = false", name)
		}
	}
	for _, name := range []string{
		"", " ", ":", "h", "a", "javascript", "data", "file", "ftp", "vbscript", "HTTP", "Http", "httpS", "MAILTO", "mailTo", // as they are written alone
		"http:", "https:", "mailto:", ":http", " http", "http ", "\thttp", "ht\ttp", "http\n", "http\x00", "http://", "http,https", "http https", "httphttps", "httphttp", "\xff", "http\xc2\xa0",
	} {
		if Known(name) {
			t.Errorf("Known(%q) = true", name)
		}
	}
}

// beside tells all texts that have a byte more, a byte less, or a byte other than text.
func beside(text string) []string {
	var out []string
	for i := range len(text) + 1 {
		for b := range 256 {
			one := string([]byte{byte(b)})
			out = append(out, text[:i]+one+text[i:])
			if i < len(text) {
				out = append(out, text[:i]+one+text[i+1:])
			}
		}
		if i < len(text) {
			out = append(out, text[:i]+text[i+1:])
		}
	}
	return out
}

func TestKnownBesideNames(t *testing.T) { // P7.1
	for _, name := range []string{"http", "https", "mailto"} {
		for _, other := range beside(name) {
			if got := Known(other); got != modelKnown(other) {
				t.Errorf("Known(%q) = %v", other, got)
			}
		}
	}
}

func TestSafeOfKnown(t *testing.T) { // P7.1
	for _, text := range []string{
		"http:x", "https:x", "mailto:x", "http:", "https:", "mailto:", "http://a.b/c?d#e", "mailto:a@b",
		"HTTP:x", "HTTPS:x", "MAILTO:x", "Http:x", "hTTP:x", "hTtPs:x", "MaIlTo:x", "httpS:x", "mailtO:x", // small and large letters mixed
		"http:javascript:x", "mailto:a:b", "http::", "https:http:x",
		" http:x ", "\x00\x1f\x0bhttp:x", "ht\ttp:x", "\nh\rt\tt\np\r:\tx", "mail\r\nto:x", "https\t:x", "http\n:\n",
		"http:\x00x", "http: x", "http:\xff",
	} {
		checkSafe(t, mark.Of(text, 0), true)
		checkSafe(t, mark.Of(text, 1), false)
		checkSafe(t, mark.Of(text, top), false)
	}
}

func TestSafeOfUnknown(t *testing.T) { // P7.1
	for _, text := range []string{
		"javascript:x", "JaVaScRiPt:x", " ja\tvascript:x", "java\nscript\r:x", "\x01javascript:x", // the chapter's example
		"data:text/html,x", "vbscript:x", "file:///x", "ftp://a/", "tel:1", "blob:x", "a:", "a:b", "Z:", "x-y.z+1:a",
		"htt:x", "ttp:x", "httpx:x", "xhttp:x", "httpss:x", "shttp:x", "mailt:x", "ailto:x", "mailtos:x", "http1:x", "http+:x", "http-:x", "http.:x", "httphttp:x",
		"javascript:http:x", "a:https:", "HTTPX:x",
	} {
		for _, origin := range []int{0, 1, top} { // whatever its origins
			checkSafe(t, mark.Of(text, origin), false)
		}
		for i := range len(text) {
			checkSafe(t, mark.Cat(mark.Of(text[:i], 0), mark.Of(text[i:], 3)), false)
			checkSafe(t, mark.Cat(mark.Of(text[:i], 3), mark.Of(text[i:], 0)), false)
		}
	}
}

func TestSafeWithoutScheme(t *testing.T) { // P7.1
	for _, text := range []string{
		"", " ", "\t\r\n", "\x00", "a", "http", "https", "mailto", "javascript", "HTTP", "a.b", "//a.b/c", "/a", "?a", "#a", ":", "::", ":http", ":javascript:x", " :a",
		"/javascript:x", "#javascript:x", "?javascript:x", "./javascript:x", "javascript/:x", "java script:x", "javascript :x", "javascript\x00:x", "javascript\x0b:x", "1javascript:x", "+http:x", "-http:x", ".http:x",
		"http :x", "ht tp:x", "http/:x", "http%3Ax", "http&colon;x", "http\xef\xbc\x9ax", "\xc3\xa9:x", "http\xff:x", "_http:x", "javascript_:x",
	} {
		for _, origin := range []int{0, 1, top} {
			checkSafe(t, mark.Of(text, origin), true)
		}
		for i := range len(text) {
			checkSafe(t, mark.Cat(mark.Of(text[:i], 2), mark.Of(text[i:], 0)), true)
		}
	}
}

func TestSafeBesideKnown(t *testing.T) { // P7.1
	for _, name := range []string{"http", "https", "mailto", "MailTo"} {
		for _, other := range beside(name + ":x") {
			for _, origin := range []int{0, 5} {
				if s := mark.Of(other, origin); Safe(s) != modelSafe(s) {
					t.Errorf("Safe(%#v) = %v", s, Safe(s))
				}
			}
		}
	}
}

func TestSafeAsksEachPlace(t *testing.T) { // P7.1
	for _, name := range []string{"http", "HTTPS", "mailTo"} {
		text := name + ":a:b"
		for i := range len(text) {
			for _, origin := range []int{1, 2, top - 1, top} {
				s := mark.Cat(mark.Of(text[:i], 0), mark.Of(text[i:i+1], origin), mark.Of(text[i+1:], 0))
				checkSafe(t, s, i > len(name)) // the scheme, and the first colon
			}
		}
	}
	for _, c := range []struct {
		s    api.Str
		want bool
	}{
		{str("http:x", 4, 0, 2, 1), false},
		{str("http:x", 4, 0, 1, 1, 1, 0), false},
		{str("http:x", 5, 0, 1, 1), true},
		{str("http::", 5, 0, 1, 1), true}, // a second colon
		{str("http::", 4, 0, 1, 1, 1, 0), false},
		{str("http:a:b", 6, 0, 1, 9, 1, 0), true},
		{str("mailto:javascript:x", 7, 0, 12, 8), true},
		{str("http:javascript:x", 5, 0, 12, top), true},
	} {
		checkSafe(t, c.s, c.want)
	}
}

func TestSafeAsksWhatIsReady(t *testing.T) { // P7.1
	for _, c := range []struct {
		s    api.Str
		want bool
	}{
		{str(" http:x", 1, 1, 6, 0), true}, // ahead of it
		{str("\x00\x1f http:x", 3, 9, 6, 0), true},
		{str("\thttp:x", 1, 1, 6, 0), true},
		{str("ht\ttp:x", 2, 0, 1, 1, 4, 0), true}, // within
		{str("http\r\n:x", 4, 0, 2, 1, 2, 0), true},
		{str("http:\tx\n", 5, 0, 3, 4), true}, // behind
		{str("\th\nt\rt\tp\n:\rx\t", 1, 1, 1, 0, 1, 1, 1, 0, 1, 1, 1, 0, 1, 1, 1, 0, 1, 1, 1, 0, 1, 1, 1, 0, 1, 1), true},
		{str(" http:x", 2, 1, 5, 0), false},
		{str(" http:x", 1, 0, 1, 1, 5, 0), false},
		{str("ht\ttp:x", 3, 0, 1, 1, 3, 0), false},
		{str("ht\ttp:x", 1, 0, 1, 1, 5, 0), false},
		{str("http\t:x", 5, 0, 2, 1), false},
		{str("http\t:x", 4, 0, 1, 1, 2, 0), true},
		{str("ht tp:x", 2, 0, 1, 1, 4, 0), true}, // a blank within stays: no scheme
	} {
		checkSafe(t, c.s, c.want)
	}
}

func TestSafeOfAllOrigins(t *testing.T) { // P7.1: trusted or not, byte by byte
	for _, text := range []string{"http:x", "HTTPS::", "\tm\nail\rto :", " mail\tto:", "ht\rtp\t:a\t ", "a:http:", "http/:x"} {
		for pattern := range 1 << len(text) {
			s := api.Str{Text: text}
			for i := range len(text) {
				s.Runs = append(s.Runs, api.Run{Len: 1, Origin: pattern >> i & 1 * (i + 1)})
			}
			if Safe(s) != modelSafe(s) {
				t.Fatalf("Safe(%#v) = %v", s, Safe(s))
			}
		}
	}
}

func TestFilter(t *testing.T) { // P7.1
	for _, c := range [][2]string{
		{"", ""}, {" ", ""}, {"http:x", "http:x"}, {"Http://A/b", "Http://A/b"}, // letters stay as they are
		{" ht\ttp:\nx ", "http:x"}, {"\x00mail\rto: a b \x1f", "mailto: a b"}, {"http:\x00x", "http:\x00x"}, {"//a\tb ", "//ab"}, {" a b ", "a b"}, {":a", ":a"}, {"http:%20\xff", "http:%20\xff"},
	} {
		checkFilter(t, mark.Of(c[0], 0), mark.Of(c[1], 0), true)
	}
	for _, c := range [][2]api.Str{
		{str("http:ab", 5, 0, 1, 1, 1, 2), str("http:ab", 5, 0, 1, 1, 1, 2)},
		{str(" ht\ttp:x ", 1, 4, 2, 0, 1, 5, 3, 0, 2, 6), str("http:x", 5, 0, 1, 6)},
		{str("\t//a\nb\r", 2, 1, 2, 2, 1, 9, 2, 2), str("//ab", 1, 1, 3, 2)},
		{str(" a b ", 1, 7, 3, 1, 1, 8), str("a b", 3, 1)},
		{str("\t\r", 1, 1, 1, 2), str("")},
	} {
		checkFilter(t, c[0], c[1], true)
	}
	for _, s := range []api.Str{
		str("javascript:x", 12, 0), str(" ja\tvascript:x", 14, 1), str("http:x", 6, 1), str("http:x", 4, 0, 2, 1), str("https:x", 1, 1, 6, 0), str("a:", 2, 0), str("mailto:x", 5, 0, 1, 1, 2, 0),
	} {
		checkFilter(t, s, api.Str{}, false)
	}
}

func TestCallsAgainstModel(t *testing.T) { // P7.1
	for _, s := range manyStrs() {
		safe, want := modelSafe(s), api.Str{}
		if safe {
			want = told(modelReady(s))
		}
		checkSafe(t, s, safe)
		checkFilter(t, s, want, safe)
		if got := Known(s.Text); got != modelKnown(s.Text) {
			t.Errorf("Known(%q) = %v", s.Text, got)
		}
		if t.Failed() {
			return
		}
	}
}

func TestTextsNotAsTold(t *testing.T) { // P7.1, and P5 of DOC.md
	for _, c := range []struct {
		s, want api.Str
		safe    bool
	}{
		{str("http:x"), str(""), false}, // behind the last run: of MaxOrigin
		{str("http:x", 4, 0), str(""), false},
		{str("http:x", 5, 0), str("http:x", 5, 0, 1, top), true},
		{str("http:x", 2, 0, 3, 0), str("http:x", 5, 0, 1, top), true},
		{str("http:x", 9, 0), str("http:x", 6, 0), true},
		{str("http:x", math.MaxInt, -5, math.MaxInt, 5), str("http:x", 6, 0), true},
		{str("http:x", 2, 0, 0, 7, -3, 7, math.MinInt, 7, 3, 0, 1, 7), str("http:x", 5, 0, 1, 7), true},
		{str("http:x", 2, 0, 1, math.MaxInt, 9, 0), str(""), false},
		{str("http:x", 5, -1, 9, top+1), str("http:x", 5, 0, 1, top), true},
		{str("http:x", 0, 0, 6, 1), str(""), false},
		{str(" \thttp:x", math.MinInt, 0, 2, 3, 9, math.MinInt), str("http:x", 6, 0), true},
		{str("//a"), str("//a", 3, top), true},
		{str("//a", 1, 1, 1, 1), str("//a", 2, 1, 1, top), true},
		{str("", 3, 3), str(""), true},
		{str("a:", 9, 0, 9, 0), str(""), false},
	} {
		checkSafe(t, c.s, c.safe)
		checkFilter(t, c.s, c.want, c.safe)
	}
	for _, s := range someStrs() {
		fixed := mark.Fix(s)
		want, safe := Filter(fixed)
		checkSafe(t, s, Safe(fixed))
		checkFilter(t, s, want, safe)
		if mark.Check(want) != api.OK {
			t.Fatalf("Filter(%#v) = %#v is not as told", s, want)
		}
	}
}

func TestFilteredIsSafe(t *testing.T) { // P7.2
	for _, s := range manyStrs() {
		got, ok := Filter(s)
		if ok != Safe(s) {
			t.Fatalf("Filter(%#v) = %#v, %v", s, got, ok)
		}
		if !Safe(got) {
			t.Fatalf("Filter(%#v) = %#v is not safe", s, got)
		}
		if again, ok := Filter(got); !ok || !alike(again, got) {
			t.Fatalf("Filter(%#v) = %#v, filtered again %#v, %v", s, got, again, ok)
		}
	}
}

func TestArgumentsAreNotChanged(t *testing.T) { // P7.3
	for _, s := range someStrs() {
		before := slices.Clone(s.Runs)
		Safe(s)
		Filter(s)
		if !slices.Equal(s.Runs, before) {
			t.Fatalf("runs changed from %v to %v", before, s.Runs)
		}
	}
	own := []api.Run{{Len: 5, Origin: 0}, {Len: 7, Origin: 7}}
	s := api.Str{Text: "http:\tx ", Runs: own[:1]} // an append in place would write to own[1]
	if _, ok := Filter(s); !ok || !Safe(s) {
		t.Errorf("%#v is not safe", s)
	}
	if own[0] != (api.Run{Len: 5, Origin: 0}) || own[1] != (api.Run{Len: 7, Origin: 7}) {
		t.Errorf("memory behind the runs changed: %v", own)
	}
}

func TestFiltersAreNewMemory(t *testing.T) { // P7.3
	for _, s := range someStrs() {
		before := slices.Clone(s.Runs)
		first, safe := Filter(s)
		want := mark.Fix(first)
		second, _ := Filter(s)
		scribble(first.Runs)
		if !alike(second, want) {
			t.Fatalf("Filter(%#v): two answers share runs", s)
		}
		if !slices.Equal(s.Runs, before) {
			t.Fatalf("Filter(%#v): an answer shares runs with the argument", s)
		}
		checkFilter(t, s, want, safe)
		if shares(first.Text, s.Text) || shares(first.Text, second.Text) {
			t.Fatalf("Filter(%#v): answers share bytes", s)
		}
	}
}

func TestNamesAreNewMemory(t *testing.T) { // P7.3
	first, second := Names(), Names()
	for i := range first {
		for j, name := range append(first[i+1:], second...) {
			if shares(first[i], name) {
				t.Errorf("names %d and %d on from there share bytes", i, j)
			}
		}
	}
	first = first[:cap(first)]
	for i := range first {
		first[i] = "javascript"
	}
	first = append(first[:0], "data", "a")
	want := []string{"http", "https", "mailto"}
	if got := Names(); !slices.Equal(second, want) || !slices.Equal(got, want) {
		t.Errorf("Names() = %q, the one before %q, after %q", got, second, first)
	}
	for _, name := range []string{"javascript", "data", "a"} {
		checkSafe(t, mark.Of(name+":x", 0), false)
		if Known(name) {
			t.Errorf("Known(%q) = true", name)
		}
	}
	for _, name := range want {
		checkSafe(t, mark.Of(name+":x", 0), true)
		if !Known(name) {
			t.Errorf("Known(%q) = false", name)
		}
	}
}

// scribble writes over all that a list can reach.
func scribble(runs []api.Run) {
	runs = runs[:cap(runs)]
	for i := range runs {
		runs[i] = api.Run{Len: -9, Origin: -9}
	}
}

// shares tells whether two texts have bytes of one memory.
func shares(a, b string) bool {
	if a == "" || b == "" {
		return false
	}
	p, q := uintptr(unsafe.Pointer(unsafe.StringData(a))), uintptr(unsafe.Pointer(unsafe.StringData(b)))
	return p < q+uintptr(len(b)) && q < p+uintptr(len(a))
}

func TestAnswersHangOnArgumentsAlone(t *testing.T) { // P3 of DOC.md
	for _, s := range someStrs() {
		safe := Safe(s)
		want, _ := Filter(s)
		Filter(mark.Of("http:x", 0))
		Filter(mark.Of("javascript:x", 7))
		checkSafe(t, s, safe)
		checkFilter(t, s, want, safe)
	}
}

func TestLongTexts(t *testing.T) { // P1 of DOC.md: an end within bearable time
	const n = 1 << 18
	blanks, names := strings.Repeat("\t\n", n), strings.Repeat("Ab", n)
	long := api.Str{Text: blanks + "http" + blanks + ":" + names}
	for i := range len(long.Text) {
		origin := i%3 + 1
		if strings.IndexByte("http:", long.Text[i]) >= 0 {
			origin = 0
		}
		long.Runs = append(long.Runs, api.Run{Len: 1, Origin: origin})
	}
	checkSafe(t, long, true)
	got, ok := Filter(long)
	if !ok || got.Text != "http:"+names || len(got.Runs) != 1+2*n || mark.Check(got) != api.OK {
		t.Errorf("Filter has %d bytes and %d runs, %v", len(got.Text), len(got.Runs), ok)
	}
	checkSafe(t, mark.Of(names+":", 0), false)
	checkSafe(t, mark.Of(names, 1), true)
	checkSafe(t, mark.Of("http"+strings.Repeat(":", n), 0), true)
	if Known(names) || Known(strings.Repeat("http", n)) {
		t.Error("a long name is known")
	}
}
