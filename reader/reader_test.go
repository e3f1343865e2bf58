package reader

import (
	"cmp"
	"math"
	"slices"
	"strconv"
	"strings"
	"testing"
	"unicode/utf8"
	"unsafe"

	"glazier/api"
	"glazier/build"
	"glazier/mark"
	"glazier/serial"
	"glazier/token"
	"glazier/tree"
)

const top = api.MaxOrigin

// str writes a labelled text: lens and origins by turns.
func str(text string, pairs ...int) api.Str {
	s := api.Str{Text: text}
	for i := 0; i+1 < len(pairs); i += 2 {
		s.Runs = append(s.Runs, api.Run{Len: pairs[i], Origin: pairs[i+1]})
	}
	return s
}

// The trees of the tests.

func trees(l ...api.Tree) []api.Tree {
	return l
}

// text writes a text, all of it of one origin.
func text(s string, origin int) api.Tree {
	return api.Tree{Text: mark.Of(s, origin)}
}

// word writes a trusted text.
func word(s string) api.Tree {
	return text(s, 0)
}

// el writes an element without attributes, its tag trusted.
func el(tag string, kids ...api.Tree) api.Tree {
	return api.Tree{Tag: mark.Of(tag, 0), Kids: kids}
}

// with writes an element without kids, its tag trusted.
func with(tag string, l ...api.Attr) api.Tree {
	return api.Tree{Tag: mark.Of(tag, 0), Attrs: l}
}

// full writes an element, its tag trusted.
func full(tag string, l []api.Attr, kids ...api.Tree) api.Tree {
	return api.Tree{Tag: mark.Of(tag, 0), Attrs: l, Kids: kids}
}

// pair writes an attribute, all of it trusted.
func pair(name, value string) api.Attr {
	return dyed(name, 0, value, 0)
}

// dyed writes an attribute, its name and its value of one origin each.
func dyed(name string, nameOrigin int, value string, valueOrigin int) api.Attr {
	return api.Attr{Name: mark.Of(name, nameOrigin), Value: mark.Of(value, valueOrigin)}
}

// alike holds two texts against each other field by field.
func alike(a, b api.Str) bool {
	return a.Text == b.Text && slices.Equal(a.Runs, b.Runs)
}

func alikeAttr(a, b api.Attr) bool {
	return alike(a.Name, b.Name) && alike(a.Value, b.Value)
}

// alikeTrees holds two lists against each other field by field, whatever is an element.
func alikeTrees(a, b []api.Tree) bool {
	return slices.EqualFunc(a, b, func(x, y api.Tree) bool {
		return alike(x.Tag, y.Tag) && slices.EqualFunc(x.Attrs, y.Attrs, alikeAttr) && alike(x.Text, y.Text) && alikeTrees(x.Kids, y.Kids)
	})
}

// The models of the tests go along texts sign by sign.

// sign is a byte with its origin.
type sign struct {
	b      byte
	origin int
}

// signs tells the bytes of s with their origins, as chapter 1 takes them.
func signs(s api.Str) []sign {
	var out []sign
	for _, r := range s.Runs {
		for n := 0; n < r.Len && len(out) < len(s.Text); n++ {
			out = append(out, sign{s.Text[len(out)], min(max(r.Origin, 0), top)})
		}
	}
	for len(out) < len(s.Text) {
		out = append(out, sign{s.Text[len(out)], top})
	}
	return out
}

// told tells the one labelled text of these signs that is as told.
func told(l []sign) api.Str {
	var s api.Str
	var text []byte
	for i, c := range l {
		text = append(text, c.b)
		if i == 0 || l[i-1].origin != c.origin {
			s.Runs = append(s.Runs, api.Run{Origin: c.origin})
		}
		s.Runs[len(s.Runs)-1].Len++
	}
	s.Text = string(text)
	return s
}

// modelLines tells l with the ends of its lines as chapter 3 has them.
func modelLines(l []sign) []sign {
	var out []sign
	for i := 0; i < len(l); i++ {
		one := l[i]
		if one.b == '\r' {
			one.b = '\n'
			if i+1 < len(l) && l[i+1].b == '\n' {
				i++
				one.origin = max(one.origin, l[i].origin)
			}
		}
		out = append(out, one)
	}
	return out
}

// modelRepair tells l with what is wrong replaced, as chapter 2 has it.
func modelRepair(l []sign) []sign {
	text := told(l).Text
	var out []sign
	for at := 0; at < len(text); {
		r, n := utf8.DecodeRuneInString(text[at:])
		if r != 0 && (r != utf8.RuneError || n == 3) {
			out = append(out, l[at:at+n]...)
			at += n
			continue
		}
		for at+n < len(text) && !utf8.FullRuneInString(text[at:at+n+1]) {
			n++
		}
		worst := slices.MaxFunc(l[at:at+n], func(a, b sign) int { return a.origin - b.origin }).origin
		out = append(out, sign{0xEF, worst}, sign{0xBF, worst}, sign{0xBD, worst})
		at += n
	}
	return out
}

func modelRead(s api.Str) ([]api.Tree, api.Errno) {
	if len(s.Text) > 65536 {
		return nil, api.ErrLong
	}
	return build.Trees(token.Tokens(told(modelRepair(modelLines(signs(s)))))), api.OK
}

// modelMerge tells l as chapter 11 merges it.
func modelMerge(l []api.Tree) []api.Tree {
	var out []api.Tree
	var words []sign
	for i, t := range l {
		if t.Tag.Text == "" {
			words = append(words, signs(t.Text)...)
		}
		if len(words) > 0 && (i+1 == len(l) || t.Tag.Text != "") {
			out = append(out, api.Tree{Text: told(words)})
			words = nil
		}
		if t.Tag.Text != "" {
			out = append(out, api.Tree{Tag: told(signs(t.Tag)), Attrs: modelOnce(t.Attrs), Kids: modelMerge(t.Kids)})
		}
	}
	return out
}

// modelOnce tells of each name the first, as chapter 10 has it.
func modelOnce(l []api.Attr) []api.Attr {
	var out []api.Attr
	for _, a := range l {
		if !slices.ContainsFunc(out, func(b api.Attr) bool { return a.Name.Text == b.Name.Text }) {
			out = append(out, api.Attr{Name: told(signs(a.Name)), Value: told(signs(a.Value))})
		}
	}
	return out
}

// modelNames goes along trees with a row of what is still to come.
func modelNames(l []api.Tree) []api.Str {
	var out []api.Str
	for row := slices.Clone(l); len(row) > 0; {
		t := row[0]
		row = row[1:]
		if t.Tag.Text == "" {
			continue
		}
		out = append(out, told(signs(t.Tag)))
		for _, a := range modelOnce(t.Attrs) {
			out = append(out, a.Name)
		}
		row = slices.Concat(t.Kids, row)
	}
	return out
}

// checkRead holds what a text is read as against what is wanted, and against the model.
func checkRead(t *testing.T, s api.Str, want ...api.Tree) {
	t.Helper()
	got, err := Read(s)
	if err != api.OK || !alikeTrees(got, want) {
		t.Errorf("Read(%q) = %v, %d, want %v", s.Text, got, err, want)
	}
	checkModel(t, s)
}

// check is checkRead of a trusted text.
func check(t *testing.T, html string, want ...api.Tree) {
	t.Helper()
	checkRead(t, mark.Of(html, 0), want...)
}

// checkModel holds Read against the model.
func checkModel(t *testing.T, s api.Str) {
	t.Helper()
	got, err := Read(s)
	want, wantErr := modelRead(s)
	if err != wantErr || !alikeTrees(got, want) {
		t.Fatalf("Read(%v) = %v, %d, want %v, %d", s, got, err, want, wantErr)
	}
}

// checkLong wants a text to be too long, and nothing beside.
func checkLong(t *testing.T, s api.Str) {
	t.Helper()
	if got, err := Read(s); err != api.ErrLong || got != nil {
		t.Errorf("Read of %d bytes = %d trees, %d", len(s.Text), len(got), err)
	}
}

// checkBack wants trees to be put, and what is read of that to be the same, field by field.
func checkBack(t *testing.T, l ...api.Tree) {
	t.Helper()
	html, err := serial.Html(l)
	got, readErr := Read(html)
	if want := modelMerge(l); err != api.OK || readErr != api.OK || !alikeTrees(got, want) {
		t.Fatalf("%v: put %d, read %d, as %v", l, err, readErr, got)
	}
	if !tree.Same(l, got) || !Back(l) || !Back(got) {
		t.Fatalf("%v is read as %v, Back %v, of that %v", l, got, Back(l), Back(got))
	}
	if again, err := serial.Html(got); err != api.OK || !alike(again, html) {
		t.Fatalf("%v is read as what is put as %v, %d", html, again, err)
	}
}

// checkNotBack wants trees that can't be put not to come back.
func checkNotBack(t *testing.T, l ...api.Tree) {
	t.Helper()
	if Back(l) {
		t.Errorf("Back(%v)", l)
	}
}

// checkNames holds Names against what is wanted, and against the model.
func checkNames(t *testing.T, l []api.Tree, want ...api.Str) {
	t.Helper()
	if got := Names(l); !slices.EqualFunc(got, want, alike) || !slices.EqualFunc(got, modelNames(l), alike) {
		t.Fatalf("Names(%v) = %v, want %v, of the model %v", l, got, want, modelNames(l))
	}
}

// checkTrusted is checkNames of names that are all trusted, with blanks between.
func checkTrusted(t *testing.T, names string, l ...api.Tree) {
	t.Helper()
	var want []api.Str
	for _, name := range strings.Fields(names) {
		want = append(want, mark.Of(name, 0))
	}
	checkNames(t, l, want...)
}

func TestExample(t *testing.T) { // P15.1: the chapter's
	check(t, "a&lt;b", word("a<b"))
}

func TestReadNothing(t *testing.T) { // P15.1: no bytes, and bytes of which nothing comes
	for _, s := range []api.Str{{}, str("", 3, 3), str("", -1, math.MinInt)} {
		checkRead(t, s)
	}
	for _, html := range []string{"<!---->", "<!-- a -->", "<!-->", "<!>", "<?a?>", "</ a>", "</>", "</a>", "</a></b >", "<a", "<a ", "<a b", "<a b=", "<a b='>", "<a b=c/", "</a", "<!doctype html>", "<!--a"} {
		check(t, html)
	}
}

func TestReadData(t *testing.T) { // P15.1
	check(t, "a", word("a"))
	check(t, " a  b\t", word(" a  b\t"))
	check(t, "a < b > c", word("a < b > c"))
	check(t, "a<", word("a<"))
	check(t, "a</", word("a</"))
	check(t, "<1>", word("<1>"))
	check(t, "a\xc3\xa9b\xe2\x82\xac", word("a\xc3\xa9b\xe2\x82\xac"))
	check(t, "a</>b<!-- c -->d<!e>f</g>h<?i>j", word("abdfhj"))
}

func TestReadReferences(t *testing.T) { // P15.1
	check(t, "&lt;b&gt;", word("<b>"))
	check(t, "a&amp;lt;b", word("a&lt;b")) // once alone
	check(t, "&#60;b>&#x3c;/b>", word("<b></b>"))
	check(t, "&quot;&#39;&#13;&#10;", word("\"'\r\n")) // what stands for a return stays one
	check(t, "&#13;\n", word("\r\n"))
	check(t, "a & b &; &none; &#;", word("a & b &; &none; &#;"))
	check(t, "<p title='&lt;&quot;&#39;&amp;'>&lt;p></p>", full("p", []api.Attr{pair("title", "<\"'&")}, word("<p>")))
	check(t, "<p &lt;=1>", with("p", pair("&lt;", "1"))) // names are not decoded
	check(t, "<&amp;>", word("<&>"))
}

func TestReadTags(t *testing.T) { // P15.1
	check(t, "<p></p>", el("p"))
	check(t, "<p>a</p>b", el("p", word("a")), word("b"))
	check(t, "<P>a</p>", el("p", word("a")))
	check(t, "<p>a</P >b", el("p", word("a")), word("b"))
	check(t, "<a><b>c<d></d></b></a>", el("a", el("b", word("c"), el("d"))))
	check(t, "a<b>c<!-- </b> -->d</b>e", word("a"), el("b", word("cd")), word("e"))
	check(t, "<p/>a</p>b", el("p", word("a")), word("b"))
	check(t, "<a\nb\n=\nc\n>", with("a", pair("b", "c")))
}

func TestReadVoid(t *testing.T) { // P15.1
	for _, name := range []string{"br", "hr", "img"} {
		check(t, "<"+name+">", el(name))
		check(t, "a<"+name+"/>b<"+strings.ToUpper(name)+">c</"+name+">d", word("a"), el(name), word("b"), el(name), word("cd"))
		check(t, "<p><"+name+" x=1 x=2>a</p>", el("p", with(name, pair("x", "1")), word("a")))
	}
	check(t, "<input>a", el("input", word("a")))
}

func TestReadNotEnded(t *testing.T) { // P15.1: elements that no tag ends, and tags that end nothing
	check(t, "<p>a", el("p", word("a")))
	check(t, "<a>b<c>d", el("a", word("b"), el("c", word("d"))))
	check(t, "<a><b>c</a>d", el("a", el("b", word("c"))), word("d"))
	check(t, "<a>b</c>d</a>e</a>f", el("a", word("bd")), word("ef"))
	check(t, "<p>a<p>b</p>c", el("p", word("a"), el("p", word("b")), word("c")))
	check(t, "a<p", word("a")) // a tag that does not end
	check(t, "<p>a<b c='d>e</b></p>", el("p", word("a")))
	check(t, "<p>a<!-- b</p>", el("p", word("a")))
}

func TestReadRaw(t *testing.T) { // P15.1
	for _, name := range []string{"script", "style"} {
		check(t, "<"+name+">a<b>&lt;</p><!-- c --></"+name+">d", el(name, word("a<b>&lt;</p><!-- c -->")), word("d"))
		check(t, "<"+name+">a</"+name+"x></"+strings.ToUpper(name)+" >b", el(name, word("a</"+name+"x>")), word("b"))
		check(t, "<"+name+">a", el(name, word("a")))
		check(t, "<"+name+"></"+name+">", el(name))
		check(t, "<"+name+">\r\n\xff\r\x00</"+name+">", el(name, word("\n\xef\xbf\xbd\n\xef\xbf\xbd")))
		check(t, "<p><"+name+" a=b>c</"+name+">d</p>", el("p", full(name, []api.Attr{pair("a", "b")}, word("c")), word("d")))
	}
	check(t, "<title>a<b>c</title>", el("title", word("a"), el("b", word("c"))))
}

func TestReadAttributes(t *testing.T) { // P15.1
	check(t, `<p a="1" b='2' c=3 d>`, with("p", pair("a", "1"), pair("b", "2"), pair("c", "3"), pair("d", "")))
	check(t, `<p a=1 A=2 b=3 a=4>`, with("p", pair("a", "1"), pair("b", "3")))
	check(t, `<p a a=1>`, with("p", pair("a", "")))
	check(t, `<p a="x>y">z`, full("p", []api.Attr{pair("a", "x>y")}, word("z")))
	check(t, `<p/a/b=/c>`, with("p", pair("a", ""), pair("b", "/c")))
	check(t, `</p a=1><p></p b=2>x`, el("p"), word("x"))
	check(t, "<p \"=1 '=2 <=3>", with("p", pair("\"", "1"), pair("'", "2"), pair("<", "3")))
}

func TestReadLines(t *testing.T) { // P15.1: lines as chapter 3 has them, everywhere
	check(t, "a\rb\r\nc\nd", word("a\nb\nc\nd"))
	check(t, "\r", word("\n"))
	check(t, "\r\n", word("\n"))
	check(t, "\n\r", word("\n\n"))
	check(t, "\r\r\n\n\r", word("\n\n\n\n"))
	check(t, "a", word("a"))
	check(t, "<p\ra='\r\n'\rb=c\r>\r</p\r>\r\n", full("p", []api.Attr{pair("a", "\n"), pair("b", "c")}, word("\n")), word("\n"))
	check(t, "a<br\r>b", word("a"), el("br"), word("b"))
	check(t, "<script>a</script\r>b", el("script", word("a")), word("b"))
	checkRead(t, str("a\r\nb\r\nc\rd\n", 1, 1, 1, 2, 1, 3, 1, 1, 1, 4, 1, 0, 1, 1, 1, 5, 1, 6, 1, 7), api.Tree{Text: str("a\nb\nc\nd\n", 1, 1, 1, 3, 1, 1, 1, 4, 1, 1, 1, 5, 1, 6, 1, 7)})
}

func TestReadRepaired(t *testing.T) { // P15.1: as chapter 2 repairs, everywhere
	const r = "\xef\xbf\xbd"
	check(t, "a\xffb", word("a"+r+"b"))
	check(t, "a\x00b", word("a"+r+"b"))
	check(t, "\xe2\x82", word(r))
	check(t, "\xe2\x82a\xe2\xe2\x82\xac", word(r+"a"+r+"\xe2\x82\xac"))
	check(t, "\xed\xa0\x80", word(r+r+r))
	check(t, "a\xc3\r\n\xa9", word("a"+r+"\n"+r)) // lines go ahead, what stands in them is not joined
	check(t, "<p\xff a\x00=\xc3 b='\xe2\x82'>\xf0\x9f\x98</p\xff>\xff", full("p"+r, []api.Attr{pair("a"+r, r), pair("b", r)}, word(r)), word(r))
	check(t, "<\xffa>", word("<"+r+"a>"))
	check(t, "&#0;&#xD800;", word(r+r))
	check(t, "&\x00lt;", word("&"+r+"lt;"))
	check(t, "<p\x00>a</p>b", el("p"+r, word("ab")))
	checkRead(t, str("a\xe2\x82b\x00c\xff", 1, 1, 1, 2, 1, 3, 1, 1, 1, 4, 1, 1, 1, 5), api.Tree{Text: str("a"+r+"b"+r+"c"+r, 1, 1, 3, 3, 1, 1, 3, 4, 1, 1, 3, 5)})
}

func TestReadOrigins(t *testing.T) { // P15.1: those of each byte of tags, attributes, values and texts
	s := mark.Cat(
		mark.Of("x", 1), mark.Of("<", 2), str("Pq", 1, 3, 1, 4), mark.Of(" ", 5), str("aB", 1, 6, 1, 7), mark.Of("=", 8), mark.Of("'", 9),
		str("v&lt;w", 1, 10, 1, 11, 2, 12, 1, 11, 1, 13), mark.Of("'", 14), mark.Of(">", 15), str("y&amp;z", 1, 16, 4, 17, 1, 18, 1, 19), mark.Of("</pQ>", 20), mark.Of("w", top),
	)
	one := api.Tree{Tag: str("pq", 1, 3, 1, 4), Attrs: []api.Attr{{Name: str("ab", 1, 6, 1, 7), Value: str("v<w", 1, 10, 1, 12, 1, 13)}}, Kids: trees(api.Tree{Text: str("y&z", 1, 16, 1, 18, 1, 19)})}
	checkRead(t, s, text("x", 1), one, text("w", top))
	checkRead(t, mark.Of("a<b c=d>e</b>f", 7), text("a", 7), api.Tree{Tag: mark.Of("b", 7), Attrs: []api.Attr{dyed("c", 7, "d", 7)}, Kids: trees(text("e", 7))}, text("f", 7))
	checkRead(t, mark.Cat(mark.Of("a", 1), mark.Of("<!-- b -->", 2), mark.Of("c", 1)), text("ac", 1))
	checkRead(t, mark.Cat(mark.Of("<script>", 0), mark.Of("a<", 1), mark.Of("b&lt;", 2), mark.Of("</script>", 3)), el("script", api.Tree{Text: str("a<b&lt;", 2, 1, 5, 2)}))
	checkRead(t, mark.Cat(mark.Of("<br", 0), mark.Of(">", 1)), el("br"))
	checkRead(t, mark.Cat(mark.Of("<b", 0), mark.Of("r", 1), mark.Of(">", 0)), api.Tree{Tag: str("br", 1, 0, 1, 1)})
}

// bytesOf tells a text of n bytes.
func bytesOf(n int) string {
	return strings.Repeat("x", n)
}

func TestReadLong(t *testing.T) { // P15.1: exactly MaxHtml bytes are read, one more are not
	const n = 1 << 16
	check(t, bytesOf(n-1), word(bytesOf(n-1)))
	check(t, bytesOf(n), word(bytesOf(n)))
	check(t, "<p>"+bytesOf(n-7)+"</p>", el("p", word(bytesOf(n-7))))
	checkRead(t, str(bytesOf(n), n, 3), text(bytesOf(n), 3))
	checkRead(t, str(bytesOf(n)), text(bytesOf(n), top))
	for _, more := range []int{1, 2, 17, n, 1 << 24} {
		checkLong(t, mark.Of(bytesOf(n+more), 1))
		checkLong(t, mark.Of("<p>"+bytesOf(n+more-3), 0))
	}
	checkLong(t, str(bytesOf(n+1), n, 0))
	checkLong(t, str(bytesOf(n+1), -1, -1))
	checkLong(t, mark.Of(strings.Repeat("<!>", n/3+1), 0)) // also what would be nothing
}

func TestReadLongAsHandedIn(t *testing.T) { // P15.1: what counts is the text that is handed in
	const n = 1 << 16
	check(t, strings.Repeat("\r\n", n/2), word(strings.Repeat("\n", n/2)))
	checkLong(t, mark.Of(strings.Repeat("\r\n", n/2)+"x", 0))
	checkLong(t, mark.Of(bytesOf(n-1)+"\r\n", 0))
	check(t, bytesOf(n-2)+"\r\n", word(bytesOf(n-2)+"\n"))
	checkLong(t, mark.Of(bytesOf(n-1)+"\xf0\x9f\x98\x80", 0)) // repaired: as long
	checkLong(t, mark.Of(strings.Repeat("\xf0\x9f\x98", n/3+1), 0))
	checkLong(t, mark.Of(bytesOf(n)+"\xff", 0))
	checkLong(t, mark.Of(bytesOf(n)+"\x00", 0))
	const r = "\xef\xbf\xbd"
	check(t, bytesOf(n-1)+"\xff", word(bytesOf(n-1)+r)) // repaired: longer than may be, and read
	check(t, bytesOf(n-1)+"\x00", word(bytesOf(n-1)+r))
	check(t, strings.Repeat("\xff", n), word(strings.Repeat(r, n)))
	check(t, strings.Repeat("\x00", n), word(strings.Repeat(r, n)))
	check(t, strings.Repeat("&lt;", n/4), word(strings.Repeat("<", n/4)))
}

// rows tells all rows of up to n of the parts.
func rows(n int, parts ...string) []string {
	out := []string{""}
	for from := 0; n > 0; n-- {
		to := len(out)
		for _, s := range out[from:to] {
			for _, part := range parts {
				out = append(out, s+part)
			}
		}
		from = to
	}
	return out
}

// labelled tells text with unlike origins, by its bytes' places and a number.
func labelled(text string, number int) api.Str {
	var l []sign
	for i := range len(text) {
		l = append(l, sign{text[i], (i*number/3 + number) % 5})
	}
	return told(l)
}

func TestShortTextsAgainstModel(t *testing.T) { // P15.1
	parts := []string{"a", "\r", "\n", "\x00", "\xff", "\xe2", "\x82", "<p>", "</p>", "<br>", "<p ", "=", "'", ">", "<", "/", "&lt;", "&", "<!--", "<script>", "</script>"}
	for i, html := range rows(3, parts...) {
		checkModel(t, labelled(html, i%7))
	}
}

func TestLongerTextsAgainstModel(t *testing.T) { // P15.1: rows of all parts, the same ones each time
	parts := []string{"a", " ", "\r", "\r\n", "\n", "\x00", "\xff", "\xe2\x82", "\xe2\x82\xac", "<p>", "<b>", "</p>", "</b>", "<br>", "<hr/>", "<P a=1 ", "b='", "=", "'", "\"", ">", "<", "/", "&lt;", "&amp;", "&", ";", "<!--", "-->", "<style>", "</style>"}
	for seed := range uint64(2000) {
		var html strings.Builder
		at := seed
		for range 60 {
			at = at*6364136223846793005 + 1442695040888963407
			html.WriteString(parts[(at>>33)%uint64(len(parts))])
		}
		checkModel(t, labelled(html.String(), int(seed%9)))
	}
}

func TestReadAllBytes(t *testing.T) { // P15.1, P1 of DOC.md: two of any, and one in each place
	for a := range 256 {
		for b := range 256 {
			checkModel(t, str(string([]byte{byte(a), byte(b)}), 1, 1, 1, 2))
		}
		one := string([]byte{byte(a)})
		checkModel(t, labelled("x"+one+"<"+one+"p"+one+"a"+one+"="+one+"b"+one+">"+one+"</"+one+"p"+one+">"+one, 2))
		checkModel(t, labelled("<p a='"+one+"' b=\""+one+"\" c="+one+">&lt"+one+"&#6"+one+"&"+one+"<!"+one+"-"+one+"-->y", 3))
		checkModel(t, labelled("<script>"+one+"<"+one+"</"+one+"script"+one+"</script"+one+">"+one, 1))
	}
}

// strangeStrs are labelled texts of all kinds, as told and not.
func strangeStrs() []api.Str {
	return []api.Str{
		str(""), str("", 3, 3), str("", -1, math.MinInt), {Runs: []api.Run{}},
		str("ab"), str("ab", 2, 0), str("ab", 1, 0), str("ab", 1, 0, 1, 0), str("ab", 1, 0, 1, 1), str("ab", 1, 1, 1, 0), str("ab", 2, top), str("ab", 9, 0),
		str("ab", math.MaxInt, 0, math.MaxInt, 1), str("ab", math.MinInt, 5, 1, -1, 0, 5, 1, math.MinInt), str("ab", 1, top+1, 1, math.MaxInt),
		str("br"), str("br", 1, -7), str("hr", 9, 9), str("img", 1, 1, -1, 4, 1, 1), str("script", 2, 0, 9, 1), str("style", 1, 1, -1, 1, 4, 0),
		str("AB", 2, 0), str("a", 1, 0), str("a-", 2, 0), str("1a", 2, 0), str("abc", 3, 0), str("\x00\xff", 2, 0), str("\xff\x00"), str("\xc3", 1, 0), str("\xa9", 1, 1), str("\xc3\xa9&", 1, 1, 1, 0), str("a\x00", 1, 3, 9, 3),
		str("<&\"= \r>", 3, 0), str("<p>\r\nx</p", 3, 4, 2, 1), str("<a b=c>", 1, 2, 1, 2, 9, math.MaxInt), str("&lt;", 1, -1, 1, 1),
	}
}

func TestReadTextsNotAsTold(t *testing.T) { // P15.1, P5 of DOC.md: each is taken as chapter 1 says
	for _, s := range strangeStrs() {
		checkModel(t, s)
		checkRead(t, s, first(modelRead(mark.Fix(s)))...)
	}
}

func first(l []api.Tree, _ api.Errno) []api.Tree {
	return l
}

// parse writes a list from letters: x is a text, X a & of origin 1, < a < of origin 2, r a
// return of origin 1 and q a quote, . an empty text; p, b (br), s (script) and P (p of origin
// 3, with an attribute twice) begin elements, and ) ends one.
func parse(letters string) []api.Tree {
	l, _ := parsed(letters)
	return l
}

func parsed(letters string) ([]api.Tree, int) {
	plain := map[byte]api.Tree{'x': word("x"), 'X': text("&", 1), '<': text("<", 2), 'r': text("\r", 1), 'q': word("\""), '.': {}}
	begin := map[byte]api.Tree{'p': el("p"), 'b': el("br"), 's': el("script"), 'P': {Tag: mark.Of("p", 3), Attrs: []api.Attr{dyed("a", 4, "\"&lt;\r\n", 5), dyed("b-c", 1, "", 0), pair("a", "1")}}}
	var out []api.Tree
	at := 0
	for at < len(letters) {
		c := letters[at]
		at++
		if c == ')' {
			break
		}
		one, there := plain[c]
		if !there {
			one = begin[c]
			kids, n := parsed(letters[at:])
			one.Kids = kids
			at += n
		}
		out = append(out, one)
	}
	return out, at
}

// strangeTrees tells trees of strangeStrs in all fields, by turns: elements with texts,
// texts with attributes and kids.
func strangeTrees() []api.Tree {
	all := strangeStrs()
	pick := func(i int) api.Str { return all[i%len(all)] }
	var out []api.Tree
	for i := range 7 * len(all) {
		t := api.Tree{Text: pick(i)}
		if i%2 > 0 {
			t.Tag = pick(i*13 + i/len(all))
		}
		if i%3 > 0 {
			t.Attrs = []api.Attr{{Name: pick(i + 5), Value: pick(i * 3)}, {Name: pick(i + 6), Value: pick(i * 7)}}
		}
		if i%5 > 1 {
			t.Kids = trees(api.Tree{Text: pick(i + 2)}, api.Tree{Text: pick(i * 5)}, api.Tree{Tag: pick(i * 11), Text: pick(i + 1)})[:i%4]
		}
		out = append(out, t)
	}
	return out
}

// strangeLists tells lists of strangeTrees, and of trees with one strange text.
func strangeLists() [][]api.Tree {
	all := strangeTrees()
	out := [][]api.Tree{nil, {}, all, {{}}, trees(api.Tree{Kids: trees(el("A"))})}
	for i := range all {
		out = append(out, trees(all[i]), all[i:min(i+3, len(all))], trees(el("p", all[i]), all[(i*7)%len(all)]))
	}
	for _, s := range strangeStrs() {
		out = append(out,
			trees(api.Tree{Text: s}), trees(el("p", word("x"), api.Tree{Text: s})), trees(el("style", api.Tree{Text: s}, word("x"))), trees(el("hr", api.Tree{Text: s})),
			trees(api.Tree{Tag: s}), trees(api.Tree{Tag: s, Kids: trees(text("x", 1))}), trees(el("b", api.Tree{Tag: s, Kids: trees(el("i"))})),
			trees(with("p", api.Attr{Name: s, Value: mark.Of("v", 1)})), trees(with("p", api.Attr{Name: mark.Of("n", 1), Value: s}, pair("m", "w"))),
			trees(api.Tree{Tag: mark.Of("p", 1), Text: s, Kids: trees(word("x"))}), trees(with("br", api.Attr{Name: mark.Of("n", 1), Value: s})),
			trees(api.Tree{Text: mark.Of("x", 1), Kids: trees(api.Tree{Tag: s, Text: s}), Attrs: []api.Attr{{Name: s, Value: s}}}),
		)
	}
	return out
}

func TestThereAndBack(t *testing.T) { // P15.2
	checkBack(t)
	checkBack(t, word("x"))
	checkBack(t, el("p"))
	checkBack(t, el("br"), el("hr"), el("img"))
	checkBack(t, word("a"), el("p", word("b"), el("br"), word("c"), el("i", el("b", word("d")), el("b"))), word("e"))
	checkBack(t, with("p", pair("a", "1"), pair("b-c", ""), pair("-", "x y")))
	checkBack(t, full("h1", []api.Attr{pair("title", "a\"b")}, word("a<b")), el("img"))
	checkBack(t, full("img", []api.Attr{pair("src", "a"), pair("alt", "b")}))
	checkBack(t, el("p", el("p", el("p"))), el("p"), el("p", el("p"), el("p")))
}

func TestThereAndBackOfTexts(t *testing.T) { // P15.2: texts and values with what has a meaning in HTML
	for _, s := range []string{"&", "<", ">", "\"", "'", "\r", "\n", "\r\n", "\n\r", "\t", "\f", " ", "  x  ", "=", "/", "&amp;", "&lt;", "&amp;lt;", "&#60;", "&#13;", "&", "&;", "&lt", "&#x3C", "<p>", "</p>", "<!-- x -->", "-->", "<script>", "]]>", "</", "<!", "<?", "\xc3\xa9", "\xe2\x82\xac", "\xf0\x9f\x98\x80", "\xef\xbf\xbd", "\xef\xbb\xbf", "\x01", "\x7f", "\xc2\x80", "javascript:x", "a\"b", "a'b>c"} {
		checkBack(t, word(s))
		checkBack(t, el("p", text(s, 1)))
		checkBack(t, text(s, 1), el("br"), text(s, 2), text(s, 3), el("p"), text(s, 1))
		checkBack(t, with("p", pair("a", s)))
		checkBack(t, with("br", dyed("a", 1, s, 2), dyed("b", 3, s, 4)))
		checkBack(t, full("p", []api.Attr{pair("a", s)}, word(s), full("i", []api.Attr{pair("b", s)}, word(s))), word(s))
		var l []sign
		for i := range len(s) { // each byte of an origin of its own
			l = append(l, sign{s[i], i + 1})
		}
		checkBack(t, api.Tree{Text: told(l)}, api.Tree{Tag: mark.Of("p", 9), Attrs: []api.Attr{{Name: mark.Of("a", 8), Value: told(l)}}, Kids: trees(api.Tree{Text: told(l)})})
		if !strings.ContainsAny(s, "<\r") {
			checkBack(t, el("script", word(s)), el("style", text(s, 1), text(s, 2)))
			checkBack(t, el("p", el("style", api.Tree{Text: told(l)})), word(s))
		}
	}
	for n := rune(1); n < 0x500; n++ {
		checkBack(t, word("a"+string(n)+"b"), with("p", pair("a", string(n))))
	}
}

func TestThereAndBackOfRaw(t *testing.T) { // P15.2
	for _, name := range []string{"script", "style"} {
		checkBack(t, el(name))
		checkBack(t, el(name, word("")))
		checkBack(t, el(name, word("a&lt;b && c > \"d\" 'e'\n")))
		checkBack(t, el(name, word("&"), text("amp;", 1), word("x")), word("&amp;"))
		checkBack(t, word("a"), full(name, []api.Attr{pair("src", "x&y")}, text("b", 1)), word("c"), el(name), el(name, word("/"+name+">")))
	}
}

func TestThereAndBackOfOrigins(t *testing.T) { // P15.2
	one := api.Tree{Tag: str("h1", 1, 1, 1, 2), Attrs: []api.Attr{{Name: str("a-b", 1, 3, 1, 4, 1, 5), Value: str("x&\"y", 1, 6, 1, 7, 1, 8, 1, 9)}}, Kids: trees(api.Tree{Text: str("a<&\r", 1, top, 1, 1, 1, 2, 1, 0)})}
	checkBack(t, one)
	checkBack(t, text("a", 1), one, text("b", 2), text("c", 2), text("d", 3), one)
	checkBack(t, api.Tree{Tag: str("br", 1, 1, 1, 2)}, api.Tree{Tag: str("script", 3, 1, 3, 2), Kids: trees(api.Tree{Text: str("a&b", 1, 3, 1, 4, 1, 5)})})
	for origin := range 4 {
		checkBack(t, text("&amp;", origin), text("<", origin+1), text("&", origin))
	}
}

func TestThereAndBackOfWhatIsNotMerged(t *testing.T) { // P15.1, P15.2
	checkBack(t, word(""))
	checkBack(t, word(""), word(""), api.Tree{})
	checkBack(t, word("a"), word("b"))
	checkBack(t, word("a"), word(""), text("b", 1), el("p", word(""), word("c"), word("d"), word("")), word(""), word("e"), word("f"))
	checkBack(t, word("&"), word("lt;"), word("<"), word("p>"))
	checkBack(t, word("\r"), word("\n"))
	checkBack(t, with("p", pair("a", "1"), pair("a", "2"), pair("b", "3"), pair("a", "1")))
	checkBack(t, with("p", dyed("a", 1, "1", 1), dyed("a", 2, "2", 2)))
	checkBack(t, full("p", []api.Attr{pair("a", "1"), pair("a", "2")}, word("x"), word("y"), with("br", pair("c", "1"), pair("c", "1"))))
	both := el("p", word("x"))
	both.Text = mark.Of("y", 1) // fields that don't belong to an element, and to a text
	checkBack(t, both)
	checkBack(t, api.Tree{Text: mark.Of("x", 1), Attrs: []api.Attr{pair("A", "\xff")}, Kids: trees(el("B"))})
}

func TestThereAndBackOfManyShapes(t *testing.T) { // P15.1, P15.2
	fits := 0
	all := strangeLists()
	for _, letters := range append(rows(4, strings.Split("xX<rq.pPbs)", "")...), rows(7, strings.Split("xp)P", "")...)...) {
		all = append(all, parse(letters))
	}
	for _, l := range all {
		if !serial.Fits(l) {
			checkNotBack(t, l...)
			continue
		}
		fits++
		checkBack(t, l...)
	}
	if fits < 10000 {
		t.Errorf("only %d of %d lists can be put", fits, len(all))
	}
}

func TestNotBack(t *testing.T) { // P15.1: what can't be put, of each kind
	for _, bad := range []api.Tree{
		el("P"), el("1"), el("a b"), el("a-b"), el("\xc3\xa9"), el("p\x00"), el(" "),
		with("p", pair("", "x")), with("p", pair("A", "x")), with("p", pair("a1", "x")), with("p", pair("a=", "x")), with("p", pair("a", "\xff")), with("p", pair("a", "\x00")),
		word("\xff"), word("a\x00"), word("\xe2\x82"),
		el("br", word("x")), el("hr", el("p")), el("img", word("")),
		el("script", el("p")), el("style", el("br")), el("script", word("<")), el("style", word("\r")), el("script", word("\xff")), el("style", word("\x00")),
	} {
		checkNotBack(t, bad)
		checkNotBack(t, word("x"), bad)
		checkNotBack(t, bad, el("p"))
		checkNotBack(t, el("p", el("i", word("x"), bad)))
	}
	checkNotBack(t, word("\xe2"), word("\x82\xac")) // together they would be valid
	checkNotBack(t, with("p", pair("a", "x"), pair("a", "\xff")))
}

func TestBackOfLong(t *testing.T) { // P15.1, P15.2: as much as can be put, and more
	const n = 1 << 16
	checkBack(t, word(bytesOf(n)))
	checkBack(t, el("p", text(bytesOf(n-7), 1)))
	checkBack(t, slices.Repeat(trees(text("x", 1), text("y", 2)), n/2)...)
	checkBack(t, slices.Repeat(trees(el("br")), n/4)...)
	checkBack(t, with("p", pair("a", strings.Repeat("\"", (n-12)/6))))
	checkBack(t, text(strings.Repeat("\r", n/5), 1), word("x"))
	checkBack(t, el("style", text(bytesOf(n-15), 1)))
	checkNotBack(t, word(bytesOf(n+1)))
	checkNotBack(t, el("p", text(bytesOf(n-6), 1)))
	checkNotBack(t, word(strings.Repeat("&", n/5+1)))
	checkNotBack(t, slices.Repeat(trees(el("br")), n/4+1)...)
	checkNotBack(t, word(bytesOf(1<<24)))
}

func TestNames(t *testing.T) { // P15.1
	checkTrusted(t, "")
	checkTrusted(t, "", word("x"), word("y"), api.Tree{})
	checkTrusted(t, "p", el("p"))
	checkTrusted(t, "p i b", el("p", word("x"), el("i", el("b", word("y")))))
	checkTrusted(t, "p i b", el("p"), word("x"), el("i"), el("b"))
	checkTrusted(t, "p i b i q b", el("p", el("i", el("b")), el("i")), el("q", el("b")))
	checkTrusted(t, "p p p", el("p", el("p")), el("p")) // each as often as it is there
	checkTrusted(t, "p a b", with("p", pair("a", "1"), pair("b", "2")))
	checkTrusted(t, "p b a i c q", full("p", []api.Attr{pair("b", "1"), pair("a", "2")}, with("i", pair("c", "3"))), el("q")) // ahead of the kids, in their order
	checkTrusted(t, "p a i a q a", full("p", []api.Attr{pair("a", "1")}, full("i", []api.Attr{pair("a", "1")})), with("q", pair("a", "1")))
	checkTrusted(t, "br a script style", with("br", pair("a", "1")), el("script", word("x")), el("style"))
}

func TestNamesOfWhatIsNotMerged(t *testing.T) { // P15.1
	checkTrusted(t, "p a b", with("p", pair("a", "1"), pair("a", "2"), pair("b", "3"), pair("a", "4"), pair("b", "5")))
	checkTrusted(t, "p i", word("x"), word(""), el("p", word("y"), word("z"), el("i"), word("")), word(""))
	checkNames(t, trees(with("p", dyed("a", 1, "x", 5), dyed("a", 2, "y", 6))), mark.Of("p", 0), mark.Of("a", 1))
	checkNames(t, trees(with("p", pair("", "1"), pair("", "2"))), mark.Of("p", 0), api.Str{})
	checkTrusted(t, "", api.Tree{Text: mark.Of("x", 0), Attrs: []api.Attr{pair("a", "1")}, Kids: trees(el("p"))}) // a text has neither
	checkTrusted(t, "", api.Tree{Attrs: []api.Attr{pair("a", "1")}, Kids: trees(el("p"))})
	one := with("p", pair("a", "1"))
	one.Text = mark.Of("x", 0)
	checkTrusted(t, "p a", one)
	checkTrusted(t, "P 1 a=b br i", el("P"), with("1", pair("a=b", "\xff")), el("br", el("i"))) // also of what can't be put
	checkTrusted(t, "A a", with("A", pair("a", "")))
}

func TestNamesOrigins(t *testing.T) { // P15.1
	tag, name := str("abc", 1, 1, 2, 2), str("de", 1, 3, 1, top)
	one := api.Tree{Tag: tag, Attrs: []api.Attr{{Name: name, Value: mark.Of("v", 7)}}}
	checkNames(t, trees(one), tag, name)
	checkNames(t, trees(api.Tree{Tag: mark.Of("p", 4), Kids: trees(one, text("x", 9), one)}), mark.Of("p", 4), tag, name, tag, name)
	for _, s := range strangeStrs() {
		if s.Text != "" {
			checkNames(t, trees(api.Tree{Tag: s, Attrs: []api.Attr{{Name: s, Value: s}, {Name: s}}}), mark.Fix(s), mark.Fix(s))
		}
	}
}

func TestNamesAgainstModel(t *testing.T) { // P15.1, P1 and P5 of DOC.md
	all := strangeLists()
	for _, letters := range rows(5, strings.Split("xPp.)b", "")...) {
		all = append(all, parse(letters))
	}
	for _, l := range all {
		checkNames(t, l, modelNames(l)...)
		if got := Names(tree.Merge(l)); !slices.EqualFunc(got, Names(l), alike) {
			t.Fatalf("Names of %v merged are %v", l, got)
		}
	}
}

func TestNamesOfWhatIsRead(t *testing.T) { // P15.1
	l, _ := Read(mark.Of("<P B=1 a=2 b=3>x<br c><I>y</i></p>z<q", 1))
	var want []api.Str
	for _, name := range strings.Fields("p b a br c i") {
		want = append(want, mark.Of(name, 1))
	}
	checkNames(t, l, want...)
}

// stretch is memory. It keeps what it tells of: memory given back could be given to another
// answer ahead of the comparison.
type stretch struct {
	kept unsafe.Pointer
	size uintptr
}

func (s stretch) from() uintptr { return uintptr(s.kept) }
func (s stretch) to() uintptr   { return s.from() + s.size }

// stretchOf tells the memory of a list, and what it could grow into.
func stretchOf[T any](l []T) stretch {
	var one T
	return stretch{unsafe.Pointer(unsafe.SliceData(l)), uintptr(cap(l)) * unsafe.Sizeof(one)}
}

// stretchesOf tells the memory of labelled texts.
func stretchesOf(l ...api.Str) []stretch {
	var out []stretch
	for _, s := range l {
		out = append(out, stretchOf(s.Runs), textStretch(s.Text))
	}
	return out
}

func textStretch(text string) stretch {
	return stretch{unsafe.Pointer(unsafe.StringData(text)), uintptr(len(text))}
}

func attrStretches(l []api.Attr) []stretch {
	out := []stretch{stretchOf(l)}
	for _, a := range l {
		out = append(out, stretchesOf(a.Name, a.Value)...)
	}
	return out
}

func treeStretches(l []api.Tree) []stretch {
	out := []stretch{stretchOf(l)}
	for _, t := range l {
		out = append(out, stretchesOf(t.Tag, t.Text)...)
		out = append(out, attrStretches(t.Attrs)...)
		out = append(out, treeStretches(t.Kids)...)
	}
	return out
}

// answerStretches asks both calls that tell more than yes or no, and tells the memory of the
// answers.
func answerStretches(s api.Str, l []api.Tree) []stretch {
	read, _ := Read(s)
	names := Names(l)
	out := slices.Concat(treeStretches(read), listStretches(names))
	return slices.DeleteFunc(out, func(s stretch) bool { return s.size == 0 })
}

// listStretches tells the memory of a list of labelled texts.
func listStretches(l []api.Str) []stretch {
	return append(stretchesOf(l...), stretchOf(l))
}

// apart tells whether no two stretches have memory in common.
func apart(l []stretch) bool {
	slices.SortFunc(l, func(a, b stretch) int { return cmp.Compare(a.from(), b.from()) })
	for i := 1; i < len(l); i++ {
		if l[i].from() < l[i-1].to() {
			return false
		}
	}
	return true
}

// meets tells whether a stretch of the one has memory in common with one of the other.
func meets(a, b []stretch) bool {
	return slices.ContainsFunc(a, func(x stretch) bool {
		return slices.ContainsFunc(b, func(y stretch) bool { return x.from() < y.to() && y.from() < x.to() })
	})
}

// memoryTexts are texts of which Read has something to tell.
func memoryTexts() []api.Str {
	out := strangeStrs()
	for i, html := range []string{"one text alone", "a&lt;b\r\nc\xffd", "<name name=name name=name other='text'>name<name>x</name></name>name", "<br a=b><br a=b>text<br>text", "<script>text</script><style>text</style>", "<p>a<p>b<p>c</p>d</p>e"} {
		out = append(out, mark.Of(html, 0), mark.Of(html, 1), labelled(html, i+1))
	}
	return out
}

// memoryLists are lists of which Names has something to tell, some with a part that stands in
// them more than once.
func memoryLists() [][]api.Tree {
	part := full("part", []api.Attr{pair("name", "value"), pair("other", "text"), pair("name", "two")}, word("x"), el("name"))
	return append(strangeLists(),
		trees(part, part), trees(part, el("p", part, part), part), trees(el("name")), trees(word("one text alone")),
		trees(with("name", pair("name", "name"))), trees(el("a", el("b", el("c")), el("d"))), parse("pPx)Px)"), parse("PPPP"), parse("p)p)P)xP)"),
	)
}

// pairsOf goes through all texts and lists of these, by turns.
func pairsOf(texts []api.Str, lists [][]api.Tree, do func(s api.Str, l []api.Tree)) {
	for i := range max(len(texts), len(lists)) {
		do(texts[i%len(texts)], lists[i%len(lists)])
	}
}

func TestAnswersAreNewMemory(t *testing.T) { // P15.3
	pairsOf(memoryTexts(), memoryLists(), func(s api.Str, l []api.Tree) {
		got := append(answerStretches(s, l), answerStretches(s, l)...)
		if meets(got, append(treeStretches(l), stretchesOf(s)...)) {
			t.Fatalf("answers to %v and %v share memory with what was handed in", s, l)
		}
		if !apart(got) {
			t.Fatalf("answers to %v and %v share memory with one another, or within one", s, l)
		}
	})
}

// over writes over all that a labelled text can reach.
func over(s api.Str) {
	runs := s.Runs[:cap(s.Runs)]
	for i := range runs {
		runs[i] = api.Run{Len: -9, Origin: -9}
	}
}

// scribble writes over all that a list of trees can reach.
func scribble(l []api.Tree) {
	for _, t := range l {
		over(t.Tag)
		over(t.Text)
		for _, a := range t.Attrs {
			over(a.Name)
			over(a.Value)
		}
		scribble(t.Kids)
		l := t.Attrs[:cap(t.Attrs)]
		for i := range l {
			l[i] = pair("scribbled", "x")
		}
	}
	l = l[:cap(l)]
	for i := range l {
		l[i] = el("scribbled", word("x"))
	}
}

func TestAnswersWrittenOver(t *testing.T) { // P15.3
	pairsOf(memoryTexts(), memoryLists(), func(s api.Str, l []api.Tree) {
		text, list := clone(s), clones(l)
		want, names, back := first(modelRead(s)), modelNames(l), Back(l)
		readAgain, namesAgain := first(Read(s)), Names(l)
		scribble(first(Read(s)))
		scribbled := Names(l)
		for i := range scribbled {
			over(scribbled[i])
		}
		scribbled = scribbled[:cap(scribbled)]
		for i := range scribbled {
			scribbled[i] = mark.Of("scribbled", 1)
		}
		if !alike(s, text) || !alikeTrees(l, list) {
			t.Fatalf("answers written over change what was handed in: from %v and %v to %v and %v", text, list, s, l)
		}
		if !alikeTrees(readAgain, want) || !slices.EqualFunc(namesAgain, names, alike) || !alikeTrees(first(Read(s)), want) || !slices.EqualFunc(Names(l), names, alike) || Back(l) != back {
			t.Fatalf("answers written over change other answers to %v and %v", s, l)
		}
	})
}

// clone tells a copy of a labelled text, runs as they are.
func clone(s api.Str) api.Str {
	return api.Str{Text: strings.Clone(s.Text), Runs: slices.Clone(s.Runs)}
}

// clones tells a copy of all that is handed in, runs as they are.
func clones(l []api.Tree) []api.Tree {
	var out []api.Tree
	for _, t := range l {
		n := api.Tree{Tag: clone(t.Tag), Kids: clones(t.Kids), Text: clone(t.Text)}
		for _, a := range t.Attrs {
			n.Attrs = append(n.Attrs, api.Attr{Name: clone(a.Name), Value: clone(a.Value)})
		}
		out = append(out, n)
	}
	return out
}

// askAll asks all calls.
func askAll(s api.Str, l []api.Tree) {
	Read(s)
	Back(l)
	Names(l)
}

func TestArgumentsAreNotChanged(t *testing.T) { // P15.3
	pairsOf(memoryTexts(), memoryLists(), func(s api.Str, l []api.Tree) {
		text, list := clone(s), clones(l)
		askAll(s, l)
		if !alike(s, text) || !alikeTrees(l, list) {
			t.Fatalf("from %v and %v to %v and %v", text, list, s, l)
		}
	})
	own := trees(word("a"), full("p", []api.Attr{pair("a", "1"), pair("a", "2"), pair("b", "3")}, word("c"), word("d"), el("i")), word("b"), word(""), el("br"), word("e")) // an append in place would write behind what is handed in
	want := clones(own)
	for n := range len(own) {
		askAll(api.Str{}, own[:n])
		askAll(api.Str{}, own[n:])
	}
	for n := range 3 {
		askAll(api.Str{}, trees(full("p", own[1].Attrs[:n], own[1].Kids[:n]...)))
	}
	if !alikeTrees(own, want) {
		t.Fatalf("memory behind what is handed in changed: %v", own)
	}
	runs := []api.Run{{Len: 1, Origin: 1}, {Len: 1, Origin: 2}, {Len: 1, Origin: 3}}
	s := api.Str{Text: "abc", Runs: runs[:1]}
	askAll(s, trees(api.Tree{Text: s}, api.Tree{Tag: s, Attrs: []api.Attr{{Name: s, Value: s}}, Kids: trees(api.Tree{Text: s}, api.Tree{Text: s})}))
	if !slices.Equal(runs, []api.Run{{Len: 1, Origin: 1}, {Len: 1, Origin: 2}, {Len: 1, Origin: 3}}) {
		t.Errorf("memory behind the runs changed: %v", runs)
	}
}

func TestNothingIsKept(t *testing.T) { // P15.3, and P3 of DOC.md
	runs := []api.Run{{Len: 2, Origin: 1}}
	s := api.Str{Text: "xy", Runs: runs}
	l := trees(api.Tree{Tag: s, Attrs: []api.Attr{{Name: s, Value: s}}})
	read, names := first(Read(s)), Names(l)
	runs[0].Origin = 9 // what was handed in is changed afterwards
	l[0].Attrs[0] = pair("p", "q")
	l[0] = el("xyz")
	as := mark.Of("xy", 1)
	if !alikeTrees(read, trees(api.Tree{Text: as})) || len(names) != 2 || !alike(names[0], as) || !alike(names[1], as) {
		t.Errorf("answers changed to %v and %v", read, names)
	}
	pairsOf(memoryTexts(), memoryLists(), func(s api.Str, l []api.Tree) {
		read, names, back := first(Read(s)), Names(l), Back(l)
		askAll(mark.Of("<p><script>left open", 1), trees(with("other", pair("a", "other")), el("style", word("<"))))
		if !alikeTrees(read, first(Read(s))) || !slices.EqualFunc(names, Names(l), alike) || back != Back(l) {
			t.Fatalf("answers to %v and %v differ", s, l)
		}
	})
}

// deep tells n elements in one another, and in them end.
func deep(n int, end ...api.Tree) []api.Tree {
	for range n {
		end = trees(el("p", end...))
	}
	return end
}

func TestDeep(t *testing.T) { // P1 of DOC.md: as many levels as may be
	const n = 1 << 16
	l := deep(n, with("i", pair("a", "1"), pair("a", "2")))
	names := Names(l)
	if len(names) != n+2 || !alike(names[n-1], mark.Of("p", 0)) || !alike(names[n], mark.Of("i", 0)) || !alike(names[n+1], mark.Of("a", 0)) {
		t.Errorf("Names of %d levels: %d", n, len(names))
	}
	checkNotBack(t, l...) // too long
	checkNotBack(t, deep(n, word("\xff"))...)
	checkBack(t, deep(api.MaxHtml/7)...)
	checkBack(t, deep(api.MaxHtml/7-1, text("&", 1))...)
	read, err := Read(mark.Of(strings.Repeat("<p>", api.MaxHtml/3), 1))
	if got := tree.Depth(read); err != api.OK || got != api.MaxHtml/3 || len(Names(read)) != got {
		t.Errorf("Read %d levels, %d", got, err)
	}
}

func TestLong(t *testing.T) { // P1 of DOC.md: an end within bearable time
	const n = 1 << 17
	var l []api.Tree
	var pairs []api.Attr
	for i := range n {
		l = append(l, el("p"+strconv.Itoa(i), text("x", i%9)))
		pairs = append(pairs, pair("a"+strconv.Itoa(i%(n/2)), "x"))
	}
	if got := Names(l); len(got) != n || got[n-1].Text != "p"+strconv.Itoa(n-1) {
		t.Errorf("Names of %d elements: %d", n, len(got))
	}
	if got := Names(trees(with("p", pairs...))); len(got) != n/2+1 {
		t.Errorf("Names of %d attributes: %d", n, len(got))
	}
	checkTrusted(t, "", slices.Repeat(trees(word("x")), n)...)
	checkNotBack(t, l...)
	checkNotBack(t, append(l, el("P"))...)
	for _, part := range []string{"<", "</", "<!", "<a ", "<a b=", "</a>", "<br>", "&", "&lt", "&#", "\r", "\x00", "\xe2\x82", "<script>", "</script", "<p>x</p>", "<p a=1 a=2>"} {
		for number := range 2 {
			checkModel(t, labelled(strings.Repeat(part, api.MaxHtml/len(part)), number))
		}
	}
}
