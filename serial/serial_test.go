package serial

import (
	"cmp"
	"fmt"
	"math"
	"regexp"
	"slices"
	"strconv"
	"strings"
	"testing"
	"unicode/utf8"
	"unsafe"

	"glazier/api"
	"glazier/mark"
	"glazier/tree"
	"glazier/utf"
)

const top = api.MaxOrigin

// str writes a labelled text: lens and origins by turns.
func str(text string, pairs ...int) api.Str {
	s := api.Str{Text: text}
	for i := 0; i+1 < len(pairs); i += 2 {
		s.Runs = append(s.Runs, api.Run{Len: pairs[i], Origin: pairs[i+1]})
	}
	return s
}

// trees writes a list.
func trees(l ...api.Tree) []api.Tree {
	return l
}

// text writes a text, all of it of one origin.
func text(s string, origin int) api.Tree {
	return api.Tree{Text: mark.Of(s, origin)}
}

// word writes a trusted text.
func word(s string) api.Tree {
	return text(s, 0)
}

// el writes an element without attributes, its tag trusted.
func el(tag string, kids ...api.Tree) api.Tree {
	return api.Tree{Tag: mark.Of(tag, 0), Kids: kids}
}

// with writes an element without kids, its tag trusted.
func with(tag string, l ...api.Attr) api.Tree {
	return api.Tree{Tag: mark.Of(tag, 0), Attrs: l}
}

// pair writes an attribute, all of it trusted.
func pair(name, value string) api.Attr {
	return dyed(name, 0, value, 0)
}

// dyed writes an attribute, its name of one origin, its value of one.
func dyed(name string, nameOrigin int, value string, valueOrigin int) api.Attr {
	return api.Attr{Name: mark.Of(name, nameOrigin), Value: mark.Of(value, valueOrigin)}
}

// alike holds two texts against each other field by field.
func alike(a, b api.Str) bool {
	return a.Text == b.Text && slices.Equal(a.Runs, b.Runs)
}

func alikeAttr(a, b api.Attr) bool {
	return alike(a.Name, b.Name) && alike(a.Value, b.Value)
}

// alikes holds two lists against each other field by field, whatever is an element.
func alikes(a, b []api.Tree) bool {
	return slices.EqualFunc(a, b, func(x, y api.Tree) bool {
		return alike(x.Tag, y.Tag) && slices.EqualFunc(x.Attrs, y.Attrs, alikeAttr) && alike(x.Text, y.Text) && alikes(x.Kids, y.Kids)
	})
}

// The model of the tests: what is put is told as signs, bytes with their origins.

type sign struct {
	b      byte
	origin int
}

// signs tells the bytes of s with their origins, as chapter 1 takes them.
func signs(s api.Str) []sign {
	var out []sign
	for _, r := range s.Runs {
		for n := 0; n < r.Len && len(out) < len(s.Text); n++ {
			out = append(out, sign{s.Text[len(out)], min(max(r.Origin, 0), top)})
		}
	}
	for len(out) < len(s.Text) {
		out = append(out, sign{s.Text[len(out)], top})
	}
	return out
}

// own tells the bytes of text, all trusted.
func own(text string) []sign {
	return signs(str(text, len(text), 0))
}

// told tells the one labelled text of these signs that is as told.
func told(l []sign) api.Str {
	var text []byte
	var s api.Str
	for i, c := range l {
		text = append(text, c.b)
		if i == 0 || l[i-1].origin != c.origin {
			s.Runs = append(s.Runs, api.Run{Origin: c.origin})
		}
		s.Runs[len(s.Runs)-1].Len++
	}
	s.Text = string(text)
	return s
}

// escaped tells s as it stands in HTML, as a value or not.
func escaped(s api.Str, value bool) []sign {
	by := map[byte]string{'&': "&amp;", '<': "&lt;", '>': "&gt;", '\r': "&#13;"}
	if value {
		by['"'] = "&quot;"
	}
	var out []sign
	for _, c := range signs(s) {
		put, there := by[c.b]
		if !there {
			out = append(out, c)
		}
		for i := range len(put) {
			out = append(out, sign{put[i], c.origin})
		}
	}
	return out
}

func modelVoid(tag string) bool {
	return slices.Contains([]string{"br", "hr", "img"}, tag)
}

func modelRaw(tag string) bool {
	return slices.Contains([]string{"script", "style"}, tag)
}

// modelSigns tells the list as it is put, within an element that is raw or not.
func modelSigns(l []api.Tree, raw bool) []sign {
	var out []sign
	for _, t := range l {
		switch {
		case t.Tag.Text != "":
			out = append(out, modelStart(t)...)
			if !modelVoid(t.Tag.Text) {
				out = append(out, modelSigns(t.Kids, modelRaw(t.Tag.Text))...)
			}
			out = append(out, modelEnd(t)...)
		case raw:
			out = append(out, signs(t.Text)...)
		default:
			out = append(out, escaped(t.Text, false)...)
		}
	}
	return out
}

func modelStart(t api.Tree) []sign {
	if t.Tag.Text == "" {
		return nil
	}
	out := append(own("<"), signs(t.Tag)...)
	var names []string
	for _, a := range t.Attrs {
		if !slices.Contains(names, a.Name.Text) {
			out = slices.Concat(out, own(" "), signs(a.Name), own(`="`), escaped(a.Value, true), own(`"`))
		}
		names = append(names, a.Name.Text)
	}
	return append(out, own(">")...)
}

func modelEnd(t api.Tree) []sign {
	if t.Tag.Text == "" || modelVoid(t.Tag.Text) {
		return nil
	}
	return slices.Concat(own("</"), signs(t.Tag), own(">"))
}

var (
	tagForm  = regexp.MustCompile(`^[a-z][a-z0-9]*$`)
	nameForm = regexp.MustCompile(`^[a-z-]+$`)
)

// modelValid asks the library what is valid.
func modelValid(text string) bool {
	return utf8.ValidString(text) && !strings.Contains(text, "\x00")
}

func modelFits(l []api.Tree) bool {
	fits := true
	for _, t := range l {
		tag := t.Tag.Text
		if tag == "" {
			fits = fits && modelValid(t.Text.Text)
			continue
		}
		fits = fits && tagForm.MatchString(tag)
		for _, a := range t.Attrs {
			fits = fits && nameForm.MatchString(a.Name.Text) && modelValid(a.Value.Text)
		}
		fits = fits && modelFits(t.Kids) && !(modelVoid(tag) && len(t.Kids) > 0)
		for _, kid := range t.Kids {
			if modelRaw(tag) {
				fits = fits && kid.Tag.Text == "" && !strings.ContainsAny(kid.Text.Text, "<\r")
			}
		}
	}
	return fits
}

func modelHtml(l []api.Tree) (api.Str, api.Errno) {
	out := told(modelSigns(l, false))
	switch {
	case !modelFits(l):
		return api.Str{}, api.ErrSyntax
	case len(out.Text) > 1<<16:
		return api.Str{}, api.ErrLong
	}
	return out, api.OK
}

// The checks: each holds a call's answer against what is wanted.

// show tells what was handed in or told, as much of it as can be read.
func show(x any) string {
	all := fmt.Sprintf("%+v", x)
	if len(all) > 500 {
		return all[:500] + " .."
	}
	return all
}

// checkHtml asks Html of a list that fits, and is short enough.
func checkHtml(t *testing.T, l []api.Tree, want api.Str) {
	t.Helper()
	if got, err := Html(l); !alike(got, want) || err != api.OK {
		t.Errorf("Html(%s) = %s, %d, want %s", show(l), show(got), err, show(want))
	}
	checkFits(t, l, true)
}

// checkPut asks Html of a list of trusted texts alone.
func checkPut(t *testing.T, want string, l ...api.Tree) {
	t.Helper()
	checkHtml(t, l, mark.Of(want, 0))
}

func checkFits(t *testing.T, l []api.Tree, want bool) {
	t.Helper()
	if got := Fits(l); got != want {
		t.Errorf("Fits(%s) = %v", show(l), got)
	}
}

// checkUnfit asks of a tree that does not fit, alone and among and within others.
func checkUnfit(t *testing.T, one api.Tree) {
	t.Helper()
	for _, l := range [][]api.Tree{
		trees(one), trees(one, word("x")), trees(word("x"), one), trees(el("p"), one, el("p")),
		trees(el("p", one)), trees(el("p", word("x"), one, word("y"))), trees(el("p", el("b"), el("b", el("i", one)))),
	} {
		checkFits(t, l, false)
		checkError(t, l, api.ErrSyntax)
	}
}

// checkFit asks of a tree that fits, alone and among and within others.
func checkFit(t *testing.T, one api.Tree) {
	t.Helper()
	for _, l := range [][]api.Tree{
		trees(one), trees(one, word("x")), trees(word("x"), one), trees(el("p", one)), trees(el("p", el("b"), el("b", el("i", word("y"), one)))),
	} {
		checkHtml(t, l, told(modelSigns(l, false)))
	}
}

// checkError asks Html of a list of which nothing is put.
func checkError(t *testing.T, l []api.Tree, want api.Errno) {
	t.Helper()
	got, err := Html(l)
	if err != want {
		t.Errorf("Html of %d trees is %d, want %d", len(l), err, want)
	}
	if got.Text != "" || len(got.Runs) > 0 {
		t.Errorf("beside the error %d Html tells %d bytes, %d runs", err, len(got.Text), len(got.Runs))
	}
}

// checkOne holds all calls of one list against the model.
func checkOne(t *testing.T, l []api.Tree) {
	t.Helper()
	checkFits(t, l, modelFits(l))
	want, wantErr := modelHtml(l)
	if got, err := Html(l); !alike(got, want) || err != wantErr {
		t.Fatalf("Html(%s) = %s, %d, want %s, %d", show(l), show(got), err, show(want), wantErr)
	}
	for _, x := range l {
		checkTags(t, x, told(modelStart(x)), told(modelEnd(x)))
	}
}

func checkTags(t *testing.T, one api.Tree, start, end api.Str) {
	t.Helper()
	if got := Start(one); !alike(got, start) {
		t.Errorf("Start(%v) = %v, want %v", one, got, start)
	}
	if got := End(one); !alike(got, end) {
		t.Errorf("End(%v) = %v, want %v", one, got, end)
	}
}

// The lists of the tests.

// parse writes a list from letters: x is a text, X a & of origin 1, < a < of origin 2, . an
// empty text, p, b (br), s (script) and P (p of origin 3, with an attribute) begin elements,
// and ) ends one.
func parse(letters string) []api.Tree {
	l, _ := parsed(letters)
	return l
}

func parsed(letters string) ([]api.Tree, int) {
	plain := map[byte]api.Tree{'x': word("x"), 'X': text("&", 1), '<': text("<", 2), '.': {}}
	begin := map[byte]api.Tree{'p': el("p"), 'b': el("br"), 's': el("script"), 'P': {Tag: mark.Of("p", 3), Attrs: []api.Attr{dyed("a", 4, "\"", 5)}}}
	var out []api.Tree
	at := 0
	for at < len(letters) {
		c := letters[at]
		at++
		if c == ')' {
			break
		}
		one, there := plain[c]
		if !there {
			one = begin[c]
			kids, n := parsed(letters[at:])
			one.Kids = kids
			at += n
		}
		out = append(out, one)
	}
	return out, at
}

// rows tells all texts of up to n of the letters.
func rows(letters string, n int) []string {
	out := []string{""}
	for from := 0; n > 0; n-- {
		to := len(out)
		for _, s := range out[from:to] {
			for i := range len(letters) {
				out = append(out, s+letters[i:i+1])
			}
		}
		from = to
	}
	return out
}

// strangeStrs are labelled texts of all kinds, as told and not.
func strangeStrs() []api.Str {
	return []api.Str{
		str(""), str("", 3, 3), str("", -1, math.MinInt), {Runs: []api.Run{}},
		str("ab"), str("ab", 2, 0), str("ab", 1, 0), str("ab", 1, 0, 1, 0), str("ab", 1, 1, 1, 0), str("ab", 2, top), str("ab", 9, 0),
		str("ab", math.MaxInt, 0, math.MaxInt, 1), str("ab", math.MinInt, 5, 1, -1, 0, 5, 1, math.MinInt), str("ab", 1, top+1, 1, math.MaxInt),
		str("AB", 2, 0), str("a1", 1, 1, 1, 2), str("1a", 2, 0), str("a-", 2, 0), str("\x00\xff", 2, 0), str("\xff\x00"), str("\xc3", 1, 0), str("\xa9", 1, 1), str("a\x00", 1, 3, 9, 3), str("<&\"= \r>", 3, 0),
		str("br", 1, 1), str("img", 3, 2), str("script", 2, 0, 9, 1), str("style", 1, 1, -1, 1, 4, 0), str("\xc3\xa9&", 1, 1, 1, 0), str("p", 1, 0),
	}
}

// strangeTrees tells trees of strangeStrs in all fields, by turns: elements with texts,
// texts with attributes and kids.
func strangeTrees() []api.Tree {
	all := strangeStrs()
	pick := func(i int) api.Str { return all[i%len(all)] }
	var out []api.Tree
	for i := range 7 * len(all) {
		t := api.Tree{Text: pick(i)}
		if i%2 > 0 {
			t.Tag = pick(i*13 + i/len(all))
		}
		if i%3 > 0 {
			t.Attrs = []api.Attr{{Name: pick(i + 5), Value: pick(i * 3)}, {Name: pick(i + 6), Value: pick(i * 7)}}
		}
		if i%5 > 1 {
			t.Kids = trees(api.Tree{Text: pick(i + 2)}, api.Tree{Text: pick(i * 5)}, api.Tree{Tag: pick(i * 11), Text: pick(i + 1)})[:i%4]
		}
		out = append(out, t)
	}
	return out
}

// oneStrange tells lists that would fit, but for a strange text in one place.
func oneStrange() [][]api.Tree {
	var out [][]api.Tree
	for _, s := range strangeStrs() {
		out = append(out,
			trees(api.Tree{Text: s}), trees(el("p", word("x"), api.Tree{Text: s})), trees(el("style", api.Tree{Text: s}, word("x"))), trees(el("hr", api.Tree{Text: s})),
			trees(api.Tree{Tag: s}), trees(api.Tree{Tag: s, Kids: trees(text("x", 1))}), trees(el("b", api.Tree{Tag: s, Kids: trees(el("i"))})),
			trees(with("p", api.Attr{Name: s, Value: mark.Of("v", 1)})), trees(with("p", api.Attr{Name: mark.Of("n", 1), Value: s}, pair("m", "w"))),
			trees(api.Tree{Tag: mark.Of("p", 1), Text: s, Kids: trees(word("x"))}), trees(with("br", api.Attr{Name: mark.Of("n", 1), Value: s})),
			trees(api.Tree{Text: mark.Of("x", 1), Kids: trees(api.Tree{Tag: s, Text: s}), Attrs: []api.Attr{{Name: s, Value: s}}}),
		)
	}
	return out
}

// strangeLists tells lists of strangeTrees, of lengths by turns, some within others.
func strangeLists() [][]api.Tree {
	all := strangeTrees()
	out := append(oneStrange(), nil, []api.Tree{}, all, trees(api.Tree{}), trees(api.Tree{Kids: trees(el("A"))}))
	for i := range all {
		out = append(out, trees(all[i]), all[i:min(i+3, len(all))], trees(el("p", all[i]), all[(i*7)%len(all)]))
	}
	return out
}

func TestHtml(t *testing.T) { // P12.1
	x := pair("title", "a")
	checkPut(t, `<p title="a">x</p>`, api.Tree{Tag: mark.Of("p", 0), Attrs: []api.Attr{x}, Kids: trees(word("x"))}) // the chapter's example
	checkPut(t, "")
	checkHtml(t, nil, api.Str{})
	checkHtml(t, []api.Tree{}, api.Str{})
	checkPut(t, "", api.Tree{})
	checkPut(t, "", word(""), api.Tree{Text: str("", 3, 3)}, api.Tree{Tag: str("", 3, 3)})
	checkPut(t, "x", word("x"))
	checkPut(t, "xyz", word("x"), word(""), word("y"), word("z"))
	checkPut(t, "<p></p>", el("p"))
	checkPut(t, "<p></p>", api.Tree{Tag: mark.Of("p", 0), Kids: []api.Tree{}, Attrs: []api.Attr{}})
	checkPut(t, "<p></p>", el("p", word("")))
	checkPut(t, "<p></p><p></p>", el("p"), el("p"))
	checkPut(t, "a<p>b</p>c<i></i>d", word("a"), el("p", word("b")), word("c"), el("i"), word("d"))
	checkPut(t, "<p>a<b>b<i>c</i>d</b>e</p>", el("p", word("a"), el("b", word("b"), el("i", word("c")), word("d")), word("e")))
	checkPut(t, "<h1></h1><a></a><z9z></z9z>", el("h1"), el("a"), el("z9z"))
	checkPut(t, "a&lt;b&gt;c&amp;d&#13;e\"f'g\n\t h", word("a<b>c&d\re\"f'g\n\t h"))
	checkPut(t, "<p>&lt;/p&gt;</p>", el("p", word("</p>")))
	checkPut(t, "&amp;amp;&amp;lt;", word("&amp;&lt;"))
	checkPut(t, "\xc3\xa9\xe2\x82\xac\xf0\x9f\x98\x80\xef\xbf\xbd", word("\xc3\xa9\xe2\x82\xac\xf0\x9f\x98\x80\xef\xbf\xbd"))
	checkPut(t, "\x01\x1f\x7f", word("\x01\x1f\x7f"))
}

func TestHtmlOfAttributes(t *testing.T) { // P12.1
	checkPut(t, `<p a=""></p>`, with("p", pair("a", "")))
	checkPut(t, `<p a="1" b="2"></p>`, with("p", pair("a", "1"), pair("b", "2")))
	checkPut(t, `<p b="2" a="1"></p>`, with("p", pair("b", "2"), pair("a", "1"))) // in their order
	checkPut(t, `<p a="1"></p>`, with("p", pair("a", "1"), pair("a", "2")))
	checkPut(t, `<p b="0" a="1" c=""></p>`, with("p", pair("b", "0"), pair("a", "1"), pair("b", "2"), pair("a", "3"), pair("c", ""), pair("c", "4")))
	checkPut(t, `<p a="1"><p a="2"></p></p><p a="3"></p>`, api.Tree{Tag: mark.Of("p", 0), Attrs: []api.Attr{pair("a", "1")}, Kids: trees(with("p", pair("a", "2")))}, with("p", pair("a", "3"))) // once for each element
	checkPut(t, `<p a="&lt;&gt;&amp;&#13;&quot;'= /"></p>`, with("p", pair("a", "<>&\r\"'= /")))
	checkPut(t, `<p -="" -a="" a-="" a-b="" --=""></p>`, with("p", pair("-", ""), pair("-a", ""), pair("a-", ""), pair("a-b", ""), pair("--", "")))
	checkPut(t, `<br class="a"><img src="x" alt="&quot;">`, with("br", pair("class", "a")), with("img", pair("src", "x"), pair("alt", "\"")))
	checkPut(t, `<script a="&lt;">x</script>`, api.Tree{Tag: mark.Of("script", 0), Attrs: []api.Attr{pair("a", "<")}, Kids: trees(word("x"))}) // values of a raw one are escaped
}

func TestHtmlOfVoidAndRaw(t *testing.T) { // P12.1
	checkPut(t, "<br><hr><img>", el("br"), el("hr"), el("img"))
	checkPut(t, "x<p><br>y<hr></p><img>z", word("x"), el("p", el("br"), word("y"), el("hr")), el("img"), word("z"))
	checkPut(t, "<p></p><wbr></wbr><b></b><h1></h1><imgs></imgs>", el("p"), el("wbr"), el("b"), el("h1"), el("imgs")) // not void
	checkPut(t, "<script></script><style></style>", el("script"), el("style"))
	checkPut(t, "<script></script>", el("script", word(""), word("")))
	checkPut(t, `<script>a>b&&c"d'&amp;</script>`, el("script", word(`a>b&&c"d'&amp;`)))
	checkPut(t, "<style>p > a {}\n&gt;</style>", el("style", word("p > a "), word("{}\n"), word(""), word("&gt;")))
	checkPut(t, "&gt;<script>></script>&gt;<style>&</style>&amp;", word(">"), el("script", word(">")), word(">"), el("style", word("&")), word("&")) // behind a raw one texts are escaped again
	checkPut(t, "<p><i>&gt;<script>></script>&gt;</i>&gt;<style>></style></p>", el("p", el("i", word(">"), el("script", word(">")), word(">")), word(">"), el("style", word(">"))))
	checkPut(t, "<scripts>&gt;</scripts><styles>&gt;</styles><s>&gt;</s>", el("scripts", word(">")), el("styles", word(">")), el("s", word(">"))) // not raw
	checkPut(t, "<script>\xc3\xa9\n\t</script>", el("script", word("\xc3\xa9\n\t")))
}

func TestOrigins(t *testing.T) { // P12.1: what is put of itself is trusted, all else of its own origin
	one := api.Tree{Tag: mark.Of("p", 1), Attrs: []api.Attr{dyed("a", 2, "v", 3)}, Kids: trees(text("x", 4))}
	checkHtml(t, trees(one), str(`<p a="v">x</p>`, 1, 0, 1, 1, 1, 0, 1, 2, 2, 0, 1, 3, 2, 0, 1, 4, 2, 0, 1, 1, 1, 0))
	checkHtml(t, trees(text("x", 5), text("y", 5), text("", 6), text("z", 7)), str("xyz", 2, 5, 1, 7))
	checkHtml(t, trees(text("a<b", 1)), str("a&lt;b", 6, 1))
	checkHtml(t, trees(api.Tree{Text: str("a<b", 1, 0, 1, top, 1, 2)}), str("a&lt;b", 1, 0, 4, top, 1, 2))
	checkHtml(t, trees(with("p", dyed("title", 0, "a\"b", 1))), str(`<p title="a&quot;b"></p>`, 10, 0, 8, 1, 6, 0)) // DOC.md's first example
	checkHtml(t, trees(api.Tree{Tag: str("h1", 1, 0, 1, 8)}), str("<h1></h1>", 2, 0, 1, 8, 4, 0, 1, 8, 1, 0))
	checkHtml(t, trees(api.Tree{Tag: str("br", 1, 3, 1, 4)}), str("<br>", 1, 0, 1, 3, 1, 4, 1, 0))
	checkHtml(t, trees(api.Tree{Tag: mark.Of("script", 1), Kids: trees(text(">&", 2), word("x"), text("y", 1))}), str("<script>>&xy</script>", 1, 0, 6, 1, 1, 0, 2, 2, 1, 0, 1, 1, 2, 0, 6, 1, 1, 0))
	checkHtml(t, trees(with("p", dyed("a", 1, "", 1), dyed("b", 1, "", 2), dyed("a", 7, "", 7))), str(`<p a="" b=""></p>`, 3, 0, 1, 1, 4, 0, 1, 1, 8, 0))
	checkHtml(t, trees(with("p", dyed("a", 5, "1", 6), pair("a", "2"))), str(`<p a="1"></p>`, 3, 0, 1, 5, 2, 0, 1, 6, 6, 0))
	checkHtml(t, trees(api.Tree{Tag: str("p"), Attrs: []api.Attr{{Name: str("a"), Value: str("<")}}, Kids: trees(api.Tree{Text: str("x")})}), // without runs: all of the worst origin
		str(`<p a="&lt;">x</p>`, 1, 0, 1, top, 1, 0, 1, top, 2, 0, 4, top, 2, 0, 1, top, 2, 0, 1, top, 1, 0))
	checkHtml(t, trees(api.Tree{Text: str("xyz", -3, 5, 1, -7, 1, top+5)}), str("xyz", 1, 0, 2, top))
	checkHtml(t, trees(el("style", api.Tree{Text: str("xyz", 1, 1, 0, 3, 1, 1, 9, 2)})), str("<style>xyz</style>", 7, 0, 2, 1, 1, 2, 8, 0))
}

func TestFitsTags(t *testing.T) { // P12.1
	for _, tag := range []string{"a", "z", "m", "h1", "a0", "a9", "a00", "abcdefghijklmnopqrstuvwxyz0123456789", "b1r", "scrip", "xscript", "hrx", strings.Repeat("a", 999)} {
		checkFit(t, el(tag))
		checkFit(t, el(tag, word("x"), el("i")))
	}
	for _, tag := range []string{"1", "1a", "0", "9z", "A", "aB", "Br", "BR", "SCRIPT", "P", "-", "a-", "-a", "a-b", "a b", " a", "a ", "a\n", "a/", "/a", "a>", "<a", "a=", "a\"", "a:b", "a_b", "a.b", "!", "!--", "?", "\x00", "a\x00", "\xff", "a\xff", "\xc3\xa9", "a\xc3\xa9", "\xc3", "\xef\xbd\x81", "\xe2\x84\xaa"} {
		checkUnfit(t, el(tag))
		checkUnfit(t, el(tag, word("x")))
	}
}

func TestFitsTagBytes(t *testing.T) { // P12.1: every byte, in every place
	for b := range 256 {
		c := string([]byte{byte(b)})
		first := 'a' <= b && b <= 'z'
		later := first || '0' <= b && b <= '9'
		for tag, want := range map[string]bool{c: first, c + "a": first, c + "1": first, "a" + c: later, "a1" + c: later, "a" + c + "a": later, "z" + c + "9": later} {
			checkFits(t, trees(el(tag)), want)
		}
	}
}

func TestFitsNames(t *testing.T) { // P12.1
	for _, name := range []string{"a", "z", "-", "--", "-a", "a-", "a-b", "-a-", "data-x-y", "abcdefghijklmnopqrstuvwxyz-", strings.Repeat("-", 999)} {
		checkFit(t, with("p", pair(name, "v")))
		checkFit(t, with("br", pair("x", ""), pair(name, "")))
		checkFit(t, with("style", pair(name, "\"<")))
	}
	for _, name := range []string{"", "a1", "1", "A", "aB", "a b", " ", "a ", " a", "a=", "=", "a\"", "'", "a/", ">", "<", "a\n", "a_b", "a:b", "\x00", "a\x00", "\xff", "a\xff", "\xc3\xa9", "\xe2\x80\x90", "\xef\xbc\x8d"} {
		checkUnfit(t, with("p", pair(name, "v")))
		checkUnfit(t, with("p", pair("x", "v"), pair(name, "v"), pair("y", "v")))
		checkUnfit(t, with("br", pair(name, "")))
		checkUnfit(t, with("script", pair(name, "")))
		checkUnfit(t, with("p", pair(name, "v"), pair(name, "v")))
	}
	checkUnfit(t, with("p", api.Attr{}))
	checkUnfit(t, with("p", api.Attr{Name: str("", 3, 3)}))
}

func TestFitsNameBytes(t *testing.T) { // P12.1: every byte, in every place
	for b := range 256 {
		c := string([]byte{byte(b)})
		want := 'a' <= b && b <= 'z' || b == '-'
		for _, name := range []string{c, c + "a", "a" + c, "a" + c + "a", "-" + c, c + "-", c + c} {
			checkFits(t, trees(with("p", pair(name, "v"))), want)
		}
	}
}

func TestFitsValidTexts(t *testing.T) { // P12.1
	for _, s := range []string{"", "x", "\x01", "\x7f", "\xc2\x80", "\xdf\xbf", "\xe0\xa0\x80", "\xed\x9f\xbf", "\xee\x80\x80", "\xef\xbf\xbf", "\xf0\x90\x80\x80", "\xf4\x8f\xbf\xbf", "a\xef\xbf\xbdb"} {
		checkFit(t, word(s))
		checkFit(t, with("p", pair("a", s)))
		checkFit(t, el("script", word(s)))
	}
	for _, s := range []string{"\x00", "a\x00", "\x00a", "a\x00b", "\x80", "\xff", "a\xff", "\xffa", "\xc3", "a\xc3b", "\xc0\xbc", "\xc1\xbf", "\xe2\x82", "\xe0\x9f\xbf", "\xed\xa0\x80", "\xf0\x8f\xbf\xbf", "\xf4\x90\x80\x80", "\xf5\x80\x80\x80", "\xe2\x82<"} {
		checkUnfit(t, word(s))
		checkUnfit(t, with("p", pair("a", s)))
		checkUnfit(t, with("p", pair("a", "x"), pair("b", s), pair("c", "x")))
		checkUnfit(t, with("p", pair("a", "x"), pair("a", s))) // all values, put or not
		checkUnfit(t, with("hr", pair("a", s)))
		checkUnfit(t, with("style", pair("a", s)))
		checkUnfit(t, el("style", word(s)))
		checkUnfit(t, el("style", word("x"), word(s), word("x")))
	}
	checkUnfit(t, el("p", word("\xc3"), word("\xa9"))) // each text by itself
}

func TestFitsVoid(t *testing.T) { // P12.1
	for _, tag := range []string{"br", "hr", "img"} {
		checkFit(t, el(tag))
		checkFit(t, api.Tree{Tag: mark.Of(tag, 3), Kids: []api.Tree{}})
		checkFit(t, api.Tree{Tag: mark.Of(tag, 0), Text: mark.Of("x", 0)})
		checkFit(t, el("p", el(tag), el(tag), word("x"), el(tag)))
		for _, kid := range []api.Tree{{}, word(""), word("x"), el("p"), el("br"), el("hr"), el("img"), el("script"), el("A"), word("\xff")} {
			checkUnfit(t, el(tag, kid))
			checkUnfit(t, el(tag, kid, kid))
			checkUnfit(t, api.Tree{Tag: mark.Of(tag, 0), Attrs: []api.Attr{pair("a", "1")}, Kids: trees(kid)})
		}
	}
	for _, tag := range []string{"b", "r", "brr", "h", "hr1", "im", "image", "i", "p", "link", "input"} {
		checkFit(t, el(tag, word(""), word("x"), el("br")))
	}
}

func TestFitsRaw(t *testing.T) { // P12.1
	for _, tag := range []string{"script", "style"} {
		checkFit(t, el(tag))
		checkFit(t, el(tag, api.Tree{}))
		checkFit(t, el(tag, word("x"), word(">&\"'"), word(""), text("y", 3)))
		checkFit(t, el("p", el("i", el(tag, word(">"))), word(">")))
		checkFit(t, el(tag, api.Tree{Text: mark.Of("x", 0), Kids: trees(el("p")), Attrs: []api.Attr{pair("a", "\xff")}})) // a text's own
		for _, kid := range []api.Tree{el("p"), el("br"), el(tag), el("script", word("x")), el("A"), with("p", pair("a", "1")), word("<"), word("a<b"), word("a<"), word("\r"), word("a\r\n"), text("</script>", 1), word("\x00"), word("\xff"), word("\xc3")} {
			checkUnfit(t, el(tag, kid))
			checkUnfit(t, el(tag, word("x"), kid))
			checkUnfit(t, el(tag, kid, word("x")))
			checkUnfit(t, el("p", el("i", word("x"), el("b", el(tag, kid)))))
		}
	}
	for _, tag := range []string{"scripts", "scrip", "s", "styles", "textarea", "title", "xmp"} {
		checkFit(t, el(tag, word("<"), word("\r"), el("p")))
	}
}

func TestFitsRawBytes(t *testing.T) { // P12.1: every byte, in texts and values, raw and not
	for b := range 256 {
		s := "a" + string([]byte{byte(b)}) + "b"
		valid := 0 < b && b < 0x80
		checkFits(t, trees(word(s)), valid)
		checkFits(t, trees(with("p", pair("a", s))), valid)
		checkFits(t, trees(el("style", word(s))), valid && b != '<' && b != '\r')
	}
}

func TestWhatDoesNotCount(t *testing.T) { // P12.1: of an element its text, of a text its attributes and kids
	bad := []api.Tree{el("A"), word("\xff"), el("br", word("x"))}
	checkHtml(t, trees(api.Tree{Tag: mark.Of("p", 0), Text: mark.Of("x", 0), Kids: trees(word("y"))}), mark.Of("<p>y</p>", 0))
	checkHtml(t, trees(api.Tree{Tag: mark.Of("p", 0), Text: mark.Of("\xff\x00", 0)}), mark.Of("<p></p>", 0))
	checkHtml(t, trees(api.Tree{Tag: mark.Of("style", 0), Text: mark.Of("<", 0)}), mark.Of("<style></style>", 0))
	checkHtml(t, trees(api.Tree{Text: mark.Of("x", 0), Kids: trees(el("p", word("y")))}, api.Tree{Kids: trees(word("z"))}), mark.Of("x", 0))
	checkHtml(t, trees(api.Tree{Text: mark.Of("x", 0), Kids: bad}, api.Tree{Kids: bad}), mark.Of("x", 0))
	checkHtml(t, trees(el("p", api.Tree{Text: mark.Of("x", 0), Attrs: []api.Attr{pair("A", "\xff"), {}}})), mark.Of("<p>x</p>", 0))
	checkHtml(t, trees(api.Tree{Tag: str("", 2, 1), Text: mark.Of("x", 0)}), mark.Of("x", 0)) // a tag without bytes
}

func TestStartAndEnd(t *testing.T) { // P12.1
	all := []api.Attr{dyed("a", 1, "v", 2), pair("b", "\""), pair("a", "w")}
	full := str(`<p a="v" b="&quot;">`, 3, 0, 1, 1, 2, 0, 1, 2, 13, 0)
	for _, c := range []struct {
		of         api.Tree
		start, end api.Str
	}{
		{el("p"), mark.Of("<p>", 0), mark.Of("</p>", 0)},
		{el("p", word("x"), el("i")), mark.Of("<p>", 0), mark.Of("</p>", 0)},
		{with("p", all...), full, mark.Of("</p>", 0)},
		{api.Tree{Tag: mark.Of("p", 0), Attrs: all, Text: mark.Of("x", 0), Kids: trees(word("y"))}, full, mark.Of("</p>", 0)},
		{api.Tree{Tag: mark.Of("h1", 3)}, str("<h1>", 1, 0, 2, 3, 1, 0), str("</h1>", 2, 0, 2, 3, 1, 0)},
		{el("br"), mark.Of("<br>", 0), api.Str{}}, // void ones
		{api.Tree{Tag: mark.Of("hr", 1)}, str("<hr>", 1, 0, 2, 1, 1, 0), api.Str{}},
		{with("img", pair("src", "x")), mark.Of(`<img src="x">`, 0), api.Str{}},
		{el("img", word("x")), mark.Of("<img>", 0), api.Str{}},
		{el("script"), mark.Of("<script>", 0), mark.Of("</script>", 0)}, // raw ones
		{el("style", word("x")), mark.Of("<style>", 0), mark.Of("</style>", 0)},
		{with("script", pair("a", "<")), mark.Of(`<script a="&lt;">`, 0), mark.Of("</script>", 0)},
		{api.Tree{}, api.Str{}, api.Str{}}, // texts
		{word("x"), api.Str{}, api.Str{}},
		{text("<p>", 1), api.Str{}, api.Str{}},
		{api.Tree{Text: mark.Of("x", 0), Attrs: all, Kids: trees(el("p"))}, api.Str{}, api.Str{}},
		{api.Tree{Tag: str("", 3, 3), Attrs: all}, api.Str{}, api.Str{}},
		{el("BR"), mark.Of("<BR>", 0), mark.Of("</BR>", 0)}, // what does not fit
		{el("a<\xff"), mark.Of("<a<\xff>", 0), mark.Of("</a<\xff>", 0)},
		{with("p", pair("", "\x00"), pair("A ", "\xff")), mark.Of("<p =\"\x00\" A =\"\xff\">", 0), mark.Of("</p>", 0)},
		{api.Tree{Tag: str("ab")}, str("<ab>", 1, 0, 2, top, 1, 0), str("</ab>", 2, 0, 2, top, 1, 0)}, // labelled texts that are not as told
		{api.Tree{Tag: str("ab", 1, -1, 9, 2)}, str("<ab>", 2, 0, 1, 2, 1, 0), str("</ab>", 3, 0, 1, 2, 1, 0)},
	} {
		checkTags(t, c.of, c.start, c.end)
	}
}

func TestAgainstModel(t *testing.T) { // P12.1
	for _, letters := range rows("xX<.pPbs)", 4) {
		checkOne(t, parse(letters))
	}
	for _, letters := range rows("Xps)", 7) {
		checkOne(t, parse(letters))
	}
	for _, l := range strangeLists() {
		checkOne(t, l)
	}
}

// fitting tells lists that fit, and are short enough.
func fitting() [][]api.Tree {
	var out [][]api.Tree
	for _, letters := range rows("xX<.pPbs)", 4) {
		out = append(out, parse(letters))
	}
	out = append(out, strangeLists()...)
	return slices.DeleteFunc(out, func(l []api.Tree) bool { return !modelFits(l) })
}

func TestPartsOfHtml(t *testing.T) { // P12.1: Html is Start, the kids, End, one behind the other
	for _, l := range fitting() {
		var all api.Str
		for _, x := range l {
			one, err := Html(trees(x))
			if err != api.OK {
				t.Fatalf("Html of %v, which stands in %v, is %d", x, l, err)
			}
			kids, _ := Html(x.Kids)
			switch {
			case x.Tag.Text == "":
				kids = one
			case modelRaw(x.Tag.Text):
				kids = tree.Words(x.Kids)
			}
			if want := mark.Cat(Start(x), kids, End(x)); !alike(one, want) {
				t.Fatalf("Html of %v is %v, its parts are %v", x, one, want)
			}
			all = mark.Cat(all, one)
		}
		if got, _ := Html(l); !alike(got, all) {
			t.Fatalf("Html(%v) = %v, its trees are %v", l, got, all)
		}
	}
}

func TestMergedIsPutAlike(t *testing.T) { // P12.1: of what fits, what tree.Merge leaves out is not seen
	for _, l := range fitting() {
		a, _ := Html(l)
		if b, err := Html(tree.Merge(l)); err != api.OK || !alike(a, b) {
			t.Fatalf("Html(%v) = %v, merged %v", l, a, b)
		}
	}
}

// bytesOf tells a text of n bytes.
func bytesOf(n int) string {
	return strings.Repeat("x", n)
}

// atLimit tells lists of which exactly n bytes are put, each by another way.
func atLimit(n int) map[string][]api.Tree {
	tags := slices.Repeat(trees(el("p")), n/7)
	voids := slices.Repeat(trees(el("br")), n/4)
	deep := trees(word(bytesOf(n % 7)))
	for range n / 7 {
		deep = trees(el("p", deep...))
	}
	return map[string][]api.Tree{
		"a text":             trees(word(bytesOf(n))),
		"a text of origin 1": trees(text(bytesOf(n), 1)),
		"two texts":          trees(word(bytesOf(9)), text(bytesOf(n-9), 1)),
		"texts of a byte":    slices.Repeat(trees(word("x")), n),
		"a text in tags":     trees(el("p", word(bytesOf(n-7)))),
		"a text deep within": trees(el("p", el("b", el("i", word(bytesOf(n-21)))))),
		"a text behind":      trees(el("br"), el("p"), word(bytesOf(n-11))),
		"a text raw":         trees(el("style", word(bytesOf(n-15)))),
		"escaping":           trees(word(strings.Repeat("&", n/5) + bytesOf(n%5))),
		"escaping at last":   trees(word(bytesOf(n-4)), word("<")),
		"not escaped, raw":   trees(el("script", word(strings.Repeat("&", n-17)))),
		"a value":            trees(with("p", pair("a", bytesOf(n-12)))),
		"a value escaped":    trees(with("p", pair("a", strings.Repeat("\"", (n-12)/6)+bytesOf((n-12)%6)))),
		"a name":             trees(with("p", pair(bytesOf(n-11), ""))),
		"attributes":         trees(with("p", append(many((n-16)/16), pair("a", bytesOf((n-16)%16+4)))...)),
		"a tag":              trees(el(bytesOf((n-5)/2)), word(bytesOf((n-5)%2))),
		"tags":               append(tags, word(bytesOf(n%7))),
		"void tags":          append(voids, word(bytesOf(n%4))),
		"tags within tags":   deep,
	}
}

// many tells n attributes of unlike names, each put as 16 bytes.
func many(n int) []api.Attr {
	var out []api.Attr
	for i := range n {
		name := []byte("x-----------")
		for at, rest := 1, i; rest > 0; at, rest = at+1, rest/26 {
			name[at] = byte('a' + rest%26)
		}
		out = append(out, pair(string(name), ""))
	}
	return out
}

func TestMaxHtml(t *testing.T) { // P12.1: exactly MaxHtml bytes are told, one more is not
	for name, l := range atLimit(api.MaxHtml) {
		got, err := Html(l)
		if err != api.OK || len(got.Text) != api.MaxHtml || !alike(got, told(modelSigns(l, false))) {
			t.Errorf("%s: of MaxHtml bytes %d are put, %d", name, len(got.Text), err)
		}
		checkFits(t, l, true)
	}
	for _, more := range []int{1, 2, 5, 17, api.MaxHtml} {
		for _, l := range atLimit(api.MaxHtml + more) {
			checkFits(t, l, true)
			checkError(t, l, api.ErrLong)
		}
	}
	full := word(bytesOf(api.MaxHtml))
	checkError(t, trees(full, el("br")), api.ErrLong)
	checkError(t, trees(full, word("x")), api.ErrLong)
	checkError(t, trees(el("p"), full), api.ErrLong)
	checkError(t, trees(word("&"), word(bytesOf(api.MaxHtml-4))), api.ErrLong)
	checkHtml(t, trees(full, api.Tree{}, word("")), full.Text)
	first := pair("a", "")
	checkPut(t, `<p a=""></p>`, with("p", first, pair("a", bytesOf(api.MaxHtml+1)))) // what is not put does not count
}

func TestMisfitGoesAhead(t *testing.T) { // P12.1, P4 of DOC.md: neither does it fit, nor is it short enough
	long := word(bytesOf(api.MaxHtml + 1))
	for _, bad := range []api.Tree{el("A"), word("\xff"), with("p", pair("", "")), with("p", pair("a", "\x00")), el("br", word("")), el("style", word("<")), el("script", el("p")), word(bytesOf(api.MaxHtml) + "\x00")} {
		for _, l := range [][]api.Tree{trees(long, bad), trees(bad, long), trees(long, el("p", el("p", bad))), trees(el("p", long, bad)), trees(el("p", bad), long)} {
			checkFits(t, l, false)
			checkError(t, l, api.ErrSyntax)
		}
	}
}

func TestWhatIsPutIsValid(t *testing.T) { // P12.2
	for _, l := range append(fitting(), strangeLists()...) {
		if got, err := Html(l); !utf.Valid(got.Text) || mark.Check(got) != api.OK || err != api.OK && got.Text != "" {
			t.Fatalf("Html(%v) = %v, %d", l, got, err)
		}
	}
	for b := range 256 {
		for c := range 256 {
			s := string([]byte{byte(b), byte(c)})
			for _, l := range [][]api.Tree{trees(word(s[:1]), word(s[1:])), trees(word(s)), trees(el("p", word(s[:1]), el("i"), word(s[1:]))), trees(with("p", pair("a", s)))} {
				if got, _ := Html(l); !utf.Valid(got.Text) {
					t.Fatalf("Html(%v) = %q", l, got.Text)
				}
			}
		}
	}
}

// stretch is memory. It keeps what it tells of: memory given back could be given to another
// answer ahead of the comparison.
type stretch struct {
	kept unsafe.Pointer
	size uintptr
}

func (s stretch) from() uintptr { return uintptr(s.kept) }
func (s stretch) to() uintptr   { return s.from() + s.size }

func stretchOf[T any](l []T) stretch {
	var one T
	return stretch{unsafe.Pointer(unsafe.SliceData(l)), uintptr(cap(l)) * unsafe.Sizeof(one)}
}

// stretches tells all memory of labelled texts.
func stretches(l ...api.Str) []stretch {
	var out []stretch
	for _, s := range l {
		out = append(out, stretchOf(s.Runs), stretch{unsafe.Pointer(unsafe.StringData(s.Text)), uintptr(len(s.Text))})
	}
	return slices.DeleteFunc(out, func(s stretch) bool { return s.size == 0 })
}

// strs tells all labelled texts of a list.
func strs(l []api.Tree) []api.Str {
	var out []api.Str
	for _, t := range l {
		out = append(out, t.Tag, t.Text)
		for _, a := range t.Attrs {
			out = append(out, a.Name, a.Value)
		}
		out = append(out, strs(t.Kids)...)
	}
	return out
}

// apart tells whether no two stretches have memory in common.
func apart(l []stretch) bool {
	slices.SortFunc(l, func(a, b stretch) int { return cmp.Compare(a.from(), b.from()) })
	for i := 1; i < len(l); i++ {
		if l[i].from() < l[i-1].to() {
			return false
		}
	}
	return true
}

// meets tells whether a stretch of the one has memory in common with one of the other.
func meets(a, b []stretch) bool {
	return slices.ContainsFunc(a, func(x stretch) bool {
		return slices.ContainsFunc(b, func(y stretch) bool { return x.from() < y.to() && y.from() < x.to() })
	})
}

// answers asks all calls of a list and of its trees, and tells the labelled texts told.
func answers(l []api.Tree) []api.Str {
	html, _ := Html(l)
	out := []api.Str{html}
	Fits(l)
	for _, t := range l {
		out = append(out, Start(t), End(t))
	}
	return out
}

// memoryLists are lists of which each call has something to tell, some of one text alone,
// some with a part that stands in them more than once.
func memoryLists() [][]api.Tree {
	part := api.Tree{Tag: mark.Of("part", 1), Attrs: []api.Attr{dyed("name", 2, "value", 3), pair("other", "a\"b"), pair("name", "two")}, Kids: trees(word("ab"), text("c<d", 1), el("q"))}
	all := strangeLists()
	return append(slices.DeleteFunc(all, func(l []api.Tree) bool { return len(l) > 9 }),
		trees(word("one text alone")), trees(text("one", 3)), trees(el("p", word("one text alone"))),
		trees(el("script", word("one text alone"))), trees(el("script", text("one", 1), text("two", 2))),
		trees(part, part, word("one"), el("p", part, part), part, word("two")),
		trees(el("p", part.Kids...), el("p", part.Kids...), el("q", part.Kids[:1]...)),
		trees(el("br"), el("br"), el("name"), el("name")),
	)
}

func TestAnswersAreNewMemory(t *testing.T) { // P12.3
	for _, l := range memoryLists() {
		got := stretches(append(answers(l), answers(l)...)...)
		if meets(got, stretches(strs(l)...)) {
			t.Fatalf("answers to %v share memory with what was handed in", l)
		}
		if !apart(got) {
			t.Fatalf("answers to %v share memory with one another", l)
		}
	}
}

func TestAnswersWrittenOver(t *testing.T) { // P12.3
	for _, l := range memoryLists() {
		before, want := clones(l), answers(clones(l))
		again := answers(l)
		for _, s := range answers(l) {
			runs := s.Runs[:cap(s.Runs)]
			for i := range runs {
				runs[i] = api.Run{Len: -9, Origin: -9}
			}
		}
		if !alikes(l, before) {
			t.Fatalf("answers written over change what was handed in: from %v to %v", before, l)
		}
		if !slices.EqualFunc(again, want, alike) || !slices.EqualFunc(answers(l), want, alike) {
			t.Fatalf("answers written over change other answers to %v", l)
		}
	}
}

// clones tells a copy of all that is handed in, runs as they are.
func clones(l []api.Tree) []api.Tree {
	clone := func(s api.Str) api.Str {
		return api.Str{Text: strings.Clone(s.Text), Runs: slices.Clone(s.Runs)}
	}
	var out []api.Tree
	for _, t := range l {
		n := api.Tree{Tag: clone(t.Tag), Text: clone(t.Text), Kids: clones(t.Kids)}
		for _, a := range t.Attrs {
			n.Attrs = append(n.Attrs, api.Attr{Name: clone(a.Name), Value: clone(a.Value)})
		}
		out = append(out, n)
	}
	return out
}

func TestArgumentsAreNotChanged(t *testing.T) { // P12.3
	for _, l := range memoryLists() {
		before := clones(l)
		answers(l)
		if !alikes(l, before) {
			t.Fatalf("from %v to %v", before, l)
		}
	}
	list := trees(word("a"), el("p", word("b"), word("c"), el("i")), with("q", pair("a", "1"), pair("a", "2"), pair("b", "3")), word("d")) // an append in place would write behind what is handed in
	want := clones(list)
	for n := range len(list) {
		answers(list[:n])
		answers(trees(el("p", list[:n]...), with("q", list[2].Attrs[:min(n, 3)]...)))
	}
	answers(trees(el("p", list[1].Kids[:1]...), el("style", list[1].Kids[:2]...)))
	if !alikes(list, want) {
		t.Fatalf("memory behind what is handed in changed: %v", list)
	}
	runs := []api.Run{{Len: 1, Origin: 1}, {Len: 1, Origin: 2}, {Len: 1, Origin: 3}}
	s := api.Str{Text: "abc", Runs: runs[:1]}
	answers(trees(api.Tree{Text: s}, api.Tree{Tag: s, Attrs: []api.Attr{{Name: s, Value: s}}, Kids: trees(api.Tree{Text: s})}, el("style", api.Tree{Text: s})))
	if !slices.Equal(runs, []api.Run{{Len: 1, Origin: 1}, {Len: 1, Origin: 2}, {Len: 1, Origin: 3}}) {
		t.Errorf("memory behind the runs changed: %v", runs)
	}
}

func TestNothingIsKept(t *testing.T) { // P12.3, and P3 of DOC.md
	runs := []api.Run{{Len: 2, Origin: 1}}
	s := api.Str{Text: "xy", Runs: runs}
	l := trees(api.Tree{Tag: s, Kids: trees(api.Tree{Text: s})}, el("style", api.Tree{Text: s}))
	got := answers(l)
	runs[0].Origin = 9 // what was handed in is changed afterwards
	l[0].Kids[0] = el("r")
	l[1] = el("q")
	want := []api.Str{
		str("<xy>xy</xy><style>xy</style>", 1, 0, 2, 1, 1, 0, 2, 1, 2, 0, 2, 1, 8, 0, 2, 1, 8, 0),
		str("<xy>", 1, 0, 2, 1, 1, 0), str("</xy>", 2, 0, 2, 1, 1, 0), mark.Of("<style>", 0), mark.Of("</style>", 0),
	}
	if !slices.EqualFunc(got, want, alike) {
		t.Errorf("answers changed to %v", got)
	}
	for _, l := range strangeLists() {
		first, fits := answers(l), Fits(l)
		answers(trees(with("other", pair("a", "other")), el("style", word("<"))))
		if !slices.EqualFunc(first, answers(l), alike) || Fits(l) != fits {
			t.Fatalf("answers to %v differ", l)
		}
	}
}

func TestDeepTrees(t *testing.T) { // P1 of DOC.md: as many levels as may be, an end within bearable time
	const n = 1 << 16
	deep := func(tag string, end ...api.Tree) []api.Tree {
		for range n {
			end = trees(el(tag, end...))
		}
		return end
	}
	checkFits(t, deep("p", word("x")), true)
	checkError(t, deep("p", word("x")), api.ErrLong)
	checkFits(t, deep("p", word("\xff")), false)
	checkError(t, deep("p", el("A")), api.ErrSyntax)
	checkError(t, deep("br"), api.ErrSyntax)
	checkError(t, deep("script", word("x")), api.ErrSyntax)
}

func TestLongLists(t *testing.T) { // P1 of DOC.md: an end within bearable time
	const n = 1 << 17
	empty := slices.Repeat(trees(api.Tree{}), n)
	checkHtml(t, empty, api.Str{})
	checkPut(t, "<p></p>", el("p", empty...))
	checkError(t, trees(el("br", empty...)), api.ErrSyntax)
	var l []api.Tree
	var twice []api.Attr
	for i := range n {
		l = append(l, el("p"+strconv.Itoa(i), text("x", i%9)))
		twice = append(twice, pair("a", strconv.Itoa(i)))
	}
	checkError(t, l, api.ErrLong)
	checkError(t, append(l, el("P")), api.ErrSyntax)
	checkPut(t, `<p a="0"></p>`, with("p", twice...))
	checkError(t, trees(with("p", many(n)...)), api.ErrLong)
	checkError(t, trees(word(bytesOf(1<<24))), api.ErrLong)
	if start := Start(with("p", many(n)...)); len(start.Text) != 16*n+3 {
		t.Errorf("Start has %d bytes", len(start.Text))
	}
}
