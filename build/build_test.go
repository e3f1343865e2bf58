package build

import (
	"cmp"
	"math"
	"slices"
	"strconv"
	"strings"
	"testing"
	"unsafe"

	"glazier/api"
	"glazier/mark"
	"glazier/serial"
	"glazier/token"
	"glazier/tree"
)

const top = api.MaxOrigin

// str writes a labelled text: lens and origins by turns.
func str(text string, pairs ...int) api.Str {
	s := api.Str{Text: text}
	for i := 0; i+1 < len(pairs); i += 2 {
		s.Runs = append(s.Runs, api.Run{Len: pairs[i], Origin: pairs[i+1]})
	}
	return s
}

// The tokens of the tests, all of them trusted.

func tokens(l ...api.Token) []api.Token {
	return l
}

func start(name string, l ...api.Attr) api.Token {
	return api.Token{Kind: 1, Name: mark.Of(name, 0), Attrs: l}
}

// closed writes a start tag with Close.
func closed(name string, l ...api.Attr) api.Token {
	t := start(name, l...)
	t.Close = true
	return t
}

func end(name string) api.Token {
	return api.Token{Kind: 2, Name: mark.Of(name, 0)}
}

func words(text string) api.Token {
	return api.Token{Kind: 3, Text: mark.Of(text, 0)}
}

func note(text string) api.Token {
	return api.Token{Kind: 4, Text: mark.Of(text, 0)}
}

// whole writes a token of a kind with all fields set.
func whole(kind int) api.Token {
	return api.Token{Kind: kind, Name: mark.Of("n", 1), Attrs: []api.Attr{pair("a", "1")}, Close: true, Text: mark.Of("t", 2)}
}

// The trees of the tests, all of them trusted.

func trees(l ...api.Tree) []api.Tree {
	return l
}

func word(text string) api.Tree {
	return api.Tree{Text: mark.Of(text, 0)}
}

func el(tag string, kids ...api.Tree) api.Tree {
	return api.Tree{Tag: mark.Of(tag, 0), Kids: kids}
}

// with writes an element without kids.
func with(tag string, l ...api.Attr) api.Tree {
	return api.Tree{Tag: mark.Of(tag, 0), Attrs: l}
}

func pair(name, value string) api.Attr {
	return api.Attr{Name: mark.Of(name, 0), Value: mark.Of(value, 0)}
}

// alike holds two texts against each other field by field.
func alike(a, b api.Str) bool {
	return a.Text == b.Text && slices.Equal(a.Runs, b.Runs)
}

func alikeAttr(a, b api.Attr) bool {
	return alike(a.Name, b.Name) && alike(a.Value, b.Value)
}

// alikeTrees holds two lists against each other field by field, whatever is an element.
func alikeTrees(a, b []api.Tree) bool {
	return slices.EqualFunc(a, b, func(x, y api.Tree) bool {
		return alike(x.Tag, y.Tag) && slices.EqualFunc(x.Attrs, y.Attrs, alikeAttr) && alike(x.Text, y.Text) && alikeTrees(x.Kids, y.Kids)
	})
}

func alikeTokens(a, b []api.Token) bool {
	return slices.EqualFunc(a, b, func(x, y api.Token) bool {
		return x.Kind == y.Kind && alike(x.Name, y.Name) && slices.EqualFunc(x.Attrs, y.Attrs, alikeAttr) && x.Close == y.Close && alike(x.Text, y.Text)
	})
}

// The model of the tests: all that begins is written down in one row, with the place of what
// it stands in, and never moved; whether it is open is noted beside it.

type entry struct {
	within int // the place of what it stands in, -1: nothing
	open   bool
	tag    api.Str
	attrs  []api.Attr
	signs  []sign // of a text
}

// sign is a byte with its origin.
type sign struct {
	b      byte
	origin int
}

// signs tells the bytes of s with their origins, as chapter 1 takes them.
func signs(s api.Str) []sign {
	var out []sign
	for _, r := range s.Runs {
		for n := 0; n < r.Len && len(out) < len(s.Text); n++ {
			out = append(out, sign{s.Text[len(out)], min(max(r.Origin, 0), top)})
		}
	}
	for len(out) < len(s.Text) {
		out = append(out, sign{s.Text[len(out)], top})
	}
	return out
}

// told tells the one labelled text of these signs that is as told.
func told(l []sign) api.Str {
	var s api.Str
	var text []byte
	for i, c := range l {
		text = append(text, c.b)
		if i == 0 || l[i-1].origin != c.origin {
			s.Runs = append(s.Runs, api.Run{Origin: c.origin})
		}
		s.Runs[len(s.Runs)-1].Len++
	}
	s.Text = string(text)
	return s
}

// entries tells what l begins, in its order.
func entries(l []api.Token) []entry {
	var out []entry
	last := func(wanted func(e entry) bool) int { // the place of the last open one wanted, or -1
		for i := len(out) - 1; i >= 0; i-- {
			if out[i].open && wanted(out[i]) {
				return i
			}
		}
		return -1
	}
	anyone := func(entry) bool { return true }
	for _, t := range l {
		name := t.Name.Text
		if t.Kind == 1 && len(name) > 0 {
			leaf := slices.Contains([]string{"br", "hr", "img"}, name)
			out = append(out, entry{within: last(anyone), open: !leaf, tag: told(signs(t.Name)), attrs: modelOnce(t.Attrs)})
		}
		if t.Kind == 2 {
			at := last(func(e entry) bool { return e.tag.Text == name })
			for i := range out {
				out[i].open = out[i].open && (at < 0 || i < at)
			}
		}
		if t.Kind == 3 {
			out = append(out, entry{within: last(anyone), signs: signs(t.Text)})
		}
	}
	return out
}

// modelOnce tells of each name the first, as chapter 10 has it.
func modelOnce(l []api.Attr) []api.Attr {
	var out []api.Attr
	for _, a := range l {
		if !slices.ContainsFunc(out, func(b api.Attr) bool { return a.Name.Text == b.Name.Text }) {
			out = append(out, api.Attr{Name: told(signs(a.Name)), Value: told(signs(a.Value))})
		}
	}
	return out
}

// kidsOf tells what stands in the place at, merged sign by sign.
func kidsOf(l []entry, at int) []api.Tree {
	var out []api.Tree
	var text []sign
	endText := func() {
		if len(text) > 0 {
			out = append(out, api.Tree{Text: told(text)})
		}
		text = nil
	}
	for i, e := range l {
		switch {
		case e.within != at:
		case e.tag.Text == "":
			text = append(text, e.signs...)
		default:
			endText()
			out = append(out, api.Tree{Tag: e.tag, Attrs: e.attrs, Kids: kidsOf(l, i)})
		}
	}
	endText()
	return out
}

func modelTrees(l []api.Token) []api.Tree {
	return kidsOf(entries(l), -1)
}

func modelOpen(l []api.Token) []string {
	var out []string
	for _, e := range entries(l) {
		if e.open {
			out = append(out, e.tag.Text)
		}
	}
	return out
}

// checkModel holds both calls against the model.
func checkModel(t *testing.T, l []api.Token) {
	t.Helper()
	if got, want := Trees(l), modelTrees(l); !alikeTrees(got, want) {
		t.Fatalf("Trees(%v) = %v, want %v", l, got, want)
	}
	if got, want := Open(l), modelOpen(l); !slices.Equal(got, want) {
		t.Fatalf("Open(%v) = %q, want %q", l, got, want)
	}
}

// check holds both calls against what is wanted, what is open as names with blanks between; and
// against the model behind each of the tokens.
func check(t *testing.T, l []api.Token, open string, want ...api.Tree) {
	t.Helper()
	if got := Trees(l); !alikeTrees(got, want) {
		t.Errorf("Trees(%v) = %v, want %v", l, got, want)
	}
	if got, want := Open(l), strings.Fields(open); !slices.Equal(got, want) {
		t.Errorf("Open(%v) = %q, want %q", l, got, want)
	}
	for n := range len(l) + 1 {
		checkModel(t, l[:n])
	}
}

func TestExample(t *testing.T) { // P14.1: the chapter's
	check(t, tokens(start("b"), words("data")), "b", el("b", word("data")))
}

func TestNothing(t *testing.T) { // P14.1: no tokens
	check(t, nil, "")
	check(t, tokens(), "")
	check(t, tokens(api.Token{}), "")
	check(t, tokens(end("b"), note("c"), words(""), start("")), "")
}

func TestStartTags(t *testing.T) { // P14.1: what begins stands within what is open
	check(t, tokens(start("a")), "a", el("a"))
	check(t, tokens(start("a"), start("b"), start("c")), "a b c", el("a", el("b", el("c"))))
	check(t, tokens(start("a"), start("a"), start("a")), "a a a", el("a", el("a", el("a"))))
	check(t, tokens(words("x"), start("a"), words("y"), start("b"), words("z")), "a b", word("x"), el("a", word("y"), el("b", word("z"))))
	check(t, tokens(start("a"), end("a"), start("b"), end("b")), "", el("a"), el("b"))
	check(t, tokens(start("a"), start("b"), end("b"), start("c"), words("x"), end("c"), words("y")), "a", el("a", el("b"), el("c", word("x")), word("y")))
	check(t, tokens(start("a", pair("b", "c"), pair("d", "e"))), "a", with("a", pair("b", "c"), pair("d", "e")))
}

func TestVoid(t *testing.T) { // P14.1: br, hr and img have no kids, and are not open
	for _, name := range []string{"br", "hr", "img"} {
		for _, one := range tokens(start(name), closed(name)) {
			check(t, tokens(one), "", el(name))
			check(t, tokens(one, words("x")), "", el(name), word("x"))
			check(t, tokens(words("x"), one, words("y"), one, one, words("z")), "", word("x"), el(name), word("y"), el(name), el(name), word("z"))
			check(t, tokens(one, start("a"), one, words("x"), start("b"), one), "a b", el(name), el("a", el(name), word("x"), el("b", el(name))))
			check(t, tokens(one, end(name), words("x")), "", el(name), word("x"))
			check(t, tokens(start("a"), words("x"), one, words("y"), end(name), words("z"), end("a"), end(name)), "", el("a", word("x"), el(name), word("yz")))
			check(t, tokens(start("a"), one, end("a"), words("x")), "", el("a", el(name)), word("x"))
			check(t, tokens(start("a"), words("x"), end("a"), one, words("y")), "", el("a", word("x")), el(name), word("y"))
		}
		check(t, tokens(end(name)), "")
		check(t, tokens(words("x"), end(name), words("y")), "", word("xy"))
		check(t, tokens(start(name, pair("src", "x"), pair("src", "y")), words("z")), "", with(name, pair("src", "x")), word("z"))
		for _, other := range []string{strings.ToUpper(name), name + "s", name[:len(name)-1], name + " ", " " + name, name + "/", name + "\x00"} {
			check(t, tokens(start(other), words("x"), end(name), end(other), words("y")), "", el(other, word("x")), word("y"))
		}
	}
	for _, name := range []string{"area", "base", "col", "embed", "input", "link", "meta", "source", "track", "wbr", "p", "script", "style"} {
		check(t, tokens(closed(name), words("x")), name, el(name, word("x")))
	}
}

func TestClose(t *testing.T) { // P14.1: of what is not void it tells nothing
	check(t, tokens(closed("a"), words("x")), "a", el("a", word("x")))
	check(t, tokens(closed("a", pair("b", "c")), closed("d")), "a d", api.Tree{Tag: mark.Of("a", 0), Attrs: []api.Attr{pair("b", "c")}, Kids: trees(el("d"))})
	check(t, tokens(start("a"), closed("b"), words("x"), end("b"), words("y")), "a", el("a", el("b", word("x")), word("y")))
	check(t, tokens(start("a"), api.Token{Kind: 2, Name: mark.Of("a", 0), Close: true}, api.Token{Kind: 3, Text: mark.Of("x", 0), Close: true}), "", el("a"), word("x"))
}

func TestNamesWithoutBytes(t *testing.T) { // P14.1: a start tag of no name is nothing
	check(t, tokens(start("")), "")
	check(t, tokens(start("", pair("a", "b")), words("x")), "", word("x"))
	check(t, tokens(closed("", pair("a", "b"))), "")
	check(t, tokens(start(""), end("")), "")
	check(t, tokens(start("a"), words("x"), start("", pair("b", "c")), words("y"), end(""), words("z")), "a", el("a", word("xyz")))
	check(t, tokens(start("a"), start(""), start("b"), end("a")), "", el("a", el("b")))
	check(t, tokens(api.Token{Kind: 1, Name: str("", 3, 1), Text: mark.Of("x", 0)}), "")
	check(t, tokens(start("a"), api.Token{Kind: 2, Name: str("", 3, 1), Text: mark.Of("x", 0)}), "a", el("a"))
}

func TestEndTags(t *testing.T) { // P14.1: they end what is open up to the last one of their name
	opened := tokens(start("a"), start("b"), start("c"), start("b"), start("d"))
	behind := func(l ...api.Token) []api.Token {
		return append(slices.Clone(opened), append(l, words("x"))...)
	}
	check(t, behind(end("d")), "a b c b", el("a", el("b", el("c", el("b", el("d"), word("x"))))))
	check(t, behind(end("b")), "a b c", el("a", el("b", el("c", el("b", el("d")), word("x")))))
	check(t, behind(end("c")), "a b", el("a", el("b", el("c", el("b", el("d"))), word("x"))))
	check(t, behind(end("a")), "", el("a", el("b", el("c", el("b", el("d"))))), word("x"))
	check(t, behind(end("b"), end("b")), "a", el("a", el("b", el("c", el("b", el("d")))), word("x")))
	check(t, behind(end("b"), end("b"), end("b")), "a", el("a", el("b", el("c", el("b", el("d")))), word("x")))
	check(t, behind(end("b"), end("d")), "a b c", el("a", el("b", el("c", el("b", el("d")), word("x")))))
	check(t, behind(end("e")), "a b c b d", el("a", el("b", el("c", el("b", el("d", word("x")))))))
	check(t, behind(end("")), "a b c b d", el("a", el("b", el("c", el("b", el("d", word("x")))))))
	check(t, tokens(end("a")), "")
	check(t, tokens(end("a"), start("a"), words("x")), "a", el("a", word("x")))
	check(t, tokens(start("a"), end("a"), end("a"), words("x")), "", el("a"), word("x"))
	check(t, tokens(start("a"), end("a"), start("b"), end("a"), words("x")), "b", el("a"), el("b", word("x"))) // what has ended is not open
	check(t, tokens(start("a"), start("b"), end("a"), end("b"), words("x")), "", el("a", el("b")), word("x"))
	check(t, tokens(start("a"), start("b"), end("a"), start("b"), start("a"), end("b"), words("x")), "", el("a", el("b")), el("b", el("a")), word("x"))
	check(t, tokens(start("a"), words("x"), start("b"), words("y"), start("c"), words("z"), end("a")), "", el("a", word("x"), el("b", word("y"), el("c", word("z")))))
}

func TestNamesHeldAgainstEachOther(t *testing.T) { // P14.1: by their bytes alone
	for _, other := range []string{"B", "b ", " b", "bb", "b\x00", "\xc2b", "b/", "p", "\x62\xff"} {
		check(t, tokens(start("b"), end(other), words("x")), "b", el("b", word("x")))
		check(t, tokens(start(other), end("b"), words("x"), end(other)), "", el(other, word("x")))
		check(t, tokens(start("b"), start(other), end("b"), words("x"), end(other)), "", el("b", el(other)), word("x"))
	}
	check(t, tokens(start("B"), start("b"), words("x"), end("B")), "", el("B", el("b", word("x"))))
	dyed := func(kind int, origin int) api.Token { return api.Token{Kind: kind, Name: mark.Of("bc", origin)} }
	tagged := func(origin int, kids ...api.Tree) api.Tree {
		return api.Tree{Tag: mark.Of("bc", origin), Kids: kids}
	}
	check(t, tokens(dyed(1, 1), words("x"), dyed(2, 2), words("y")), "", tagged(1, word("x")), word("y"))
	check(t, tokens(dyed(1, 0), dyed(1, 1), dyed(2, 0), words("x")), "bc", tagged(0, tagged(1), word("x")))
	check(t, tokens(dyed(1, 3), api.Token{Kind: 2, Name: api.Str{Text: "bc"}}), "", tagged(3))
	check(t, tokens(api.Token{Kind: 1, Name: str("bc", 1, 1, 1, 2)}, api.Token{Kind: 2, Name: str("bc", 1, 2, 1, 1)}), "", api.Tree{Tag: str("bc", 1, 1, 1, 2)})
	check(t, tokens(api.Token{Kind: 1, Name: mark.Of("br", 1)}, words("x")), "", api.Tree{Tag: mark.Of("br", 1)}, word("x"))
}

func TestData(t *testing.T) { // P14.1: data is a text, what is beside each other is one
	check(t, tokens(words("x")), "", word("x"))
	check(t, tokens(words("x"), words("y"), words("z")), "", word("xyz"))
	check(t, tokens(words("")), "")
	check(t, tokens(words(""), words("x"), words(""), words("y"), words("")), "", word("xy"))
	check(t, tokens(words("x"), note("c"), words("y"), note("d"), note("e"), words("z")), "", word("xyz"))
	check(t, tokens(words("x"), start(""), words("y")), "", word("xy"))
	check(t, tokens(words("x"), end("b"), words("y"), end(""), words("z")), "", word("xyz"))
	check(t, tokens(words("x"), api.Token{Kind: 5}, words("y")), "", word("xy"))
	check(t, tokens(start("a"), words("x"), end("b"), words("y"), note("c"), words("z"), end("a"), words("x"), end("a"), words("y")), "", el("a", word("xyz")), word("xy"))
	check(t, tokens(words("x"), start("a"), words(""), end("a"), words("y")), "", word("x"), el("a"), word("y")) // an empty element stands between
	check(t, tokens(words("x"), start("br"), words(""), start("br"), words("y")), "", word("x"), el("br"), el("br"), word("y"))
	check(t, tokens(words(" \n"), start("a"), words("\t"), end("a")), "", word(" \n"), el("a", word("\t")))
	check(t, tokens(words("<b>&amp;"), words("</b>")), "", word("<b>&amp;</b>")) // texts are not read
}

func TestOtherKinds(t *testing.T) { // P14.1: comments and kinds that are none are nothing
	for _, kind := range []int{4, 0, 5, 6, -1, -2, -3, 7, 255, 257, 259, 1 << 16, 1<<16 + 1, 1<<16 + 3, math.MaxInt, math.MinInt, math.MinInt + 1, math.MinInt + 2, math.MinInt + 3} {
		one := whole(kind)
		check(t, tokens(one), "")
		check(t, tokens(words("x"), one, words("y")), "", word("xy"))
		check(t, tokens(start("n"), one, words("x"), one), "n", el("n", word("x")))
		one.Name = mark.Of("br", 0)
		check(t, tokens(start("br"), one, start("a"), one), "a", el("br"), el("a"))
	}
}

func TestOtherFields(t *testing.T) { // P14.1: an element keeps its name and attributes alone, a text its text
	n := mark.Of("n", 1)
	check(t, tokens(whole(1)), "n", api.Tree{Tag: n, Attrs: []api.Attr{pair("a", "1")}})
	check(t, tokens(whole(3)), "", api.Tree{Text: mark.Of("t", 2)})
	check(t, tokens(whole(2)), "")
	check(t, tokens(whole(1), whole(3), whole(2), whole(3)), "", api.Tree{Tag: n, Attrs: []api.Attr{pair("a", "1")}, Kids: trees(api.Tree{Text: mark.Of("t", 2)})}, api.Tree{Text: mark.Of("t", 2)})
	br := whole(1)
	br.Name = mark.Of("br", 0)
	check(t, tokens(br, whole(3)), "", with("br", pair("a", "1")), api.Tree{Text: mark.Of("t", 2)})
	bare := whole(3)
	bare.Text = api.Str{}
	check(t, tokens(bare), "")
	check(t, tokens(words("x"), bare, words("y")), "", word("xy"))
	bare = whole(1)
	bare.Name = api.Str{}
	check(t, tokens(words("x"), bare, words("y")), "", word("xy"))
}

func TestAttributes(t *testing.T) { // P14.1: of each name the first, as chapter 10 has it
	check(t, tokens(start("a", pair("x", "1"), pair("x", "2"))), "a", with("a", pair("x", "1")))
	check(t, tokens(start("a", pair("x", "1"), pair("y", "2"), pair("x", "3"), pair("y", "4"), pair("z", ""))), "a", with("a", pair("x", "1"), pair("y", "2"), pair("z", "")))
	check(t, tokens(start("a", pair("x", "1"), pair("X", "2"))), "a", with("a", pair("x", "1"), pair("X", "2")))
	check(t, tokens(start("a", pair("", "1"), pair("x", "2"), pair("", "3"))), "a", with("a", pair("", "1"), pair("x", "2")))
	check(t, tokens(start("img", pair("x", "1"), pair("x", "2"), pair("", ""))), "", with("img", pair("x", "1"), pair("", "")))
	one := api.Attr{Name: mark.Of("x", 1), Value: mark.Of("1", 2)}
	check(t, tokens(start("a", one, pair("x", "1"))), "a", with("a", one)) // origins don't tell names apart
	end := end("a")
	end.Attrs = []api.Attr{pair("y", "2")}
	check(t, tokens(start("a", pair("x", "1")), end), "", with("a", pair("x", "1")))
}

func TestOrigins(t *testing.T) { // P14.1: each byte keeps its own
	name, value := str("ab", 1, 1, 1, 2), str("cde", 1, 3, 1, 0, 1, top)
	tag := api.Token{Kind: 1, Name: str("xyz", 2, 5, 1, 6), Attrs: []api.Attr{{Name: name, Value: value}}}
	want := api.Tree{Tag: str("xyz", 2, 5, 1, 6), Attrs: []api.Attr{{Name: name, Value: value}}}
	check(t, tokens(tag), "xyz", want)
	data := func(text string, pairs ...int) api.Token { return api.Token{Kind: 3, Text: str(text, pairs...)} }
	text := func(text string, pairs ...int) api.Tree { return api.Tree{Text: str(text, pairs...)} }
	check(t, tokens(data("ab", 1, 1, 1, 2), data("cd", 1, 2, 1, 3), data("e", 1, 3)), "", text("abcde", 1, 1, 2, 2, 2, 3))
	check(t, tokens(data("a", 1, 7), note("b"), data("c", 1, 7)), "", text("ac", 2, 7))
	check(t, tokens(data("a", 1, 7), words("b"), data("c", 1, 7)), "", text("abc", 1, 7, 1, 0, 1, 7))
	want.Kids = trees(text("a", 1, 4))
	check(t, tokens(data("f", 1, 8), tag, data("a", 1, 4), end("xyz"), data("g", 1, 9)), "", text("f", 1, 8), want, text("g", 1, 9))
}

// parse writes tokens from letters: a, b and c are start tags, A, B and C end tags of theirs;
// d is a start tag of a with Close, of another origin, with attributes; r is one of br, h one
// of hr with Close, R an end tag of br; x and y are data, Y is y of origin 1, . is empty data;
// ! is a comment, ? no kind; 0 a start tag of no name, 9 an end tag of none.
func parse(letters string) []api.Token {
	var out []api.Token
	for i := range len(letters) {
		c := letters[i : i+1]
		one := api.Token{}
		switch c {
		case "a", "b", "c":
			one = start(c)
		case "A", "B", "C":
			one = end(strings.ToLower(c))
		case "d":
			one = api.Token{Kind: 1, Name: mark.Of("a", 1), Close: true, Attrs: []api.Attr{pair("m", "1"), pair("n", "2"), pair("m", "3")}}
		case "r":
			one = start("br")
		case "h":
			one = closed("hr", pair("m", "1"), pair("m", "2"))
		case "R":
			one = end("br")
		case "x", "y":
			one = words(c)
		case "Y":
			one = api.Token{Kind: 3, Text: mark.Of("y", 1)}
		case ".":
			one = words("")
		case "!":
			one = note("n")
		case "?":
			one = whole(5)
		case "0":
			one = start("", pair("m", "1"))
		case "9":
			one = end("")
		}
		out = append(out, one)
	}
	return out
}

// rows tells all texts of up to n of the letters.
func rows(letters string, n int) []string {
	out := []string{""}
	for from := 0; n > 0; n-- {
		to := len(out)
		for _, s := range out[from:to] {
			for i := range len(letters) {
				out = append(out, s+letters[i:i+1])
			}
		}
		from = to
	}
	return out
}

func TestShortListsAgainstModel(t *testing.T) { // P14.1
	for _, letters := range slices.Concat(rows("abABdrhRxY.!?09", 4), rows("abABxr", 6), rows("abcABC", 6)) {
		checkModel(t, parse(letters))
	}
}

func TestLongerListsAgainstModel(t *testing.T) { // P14.1: rows of all letters, the same ones each time
	const letters = "abcABCdrhRxyY.!?09aAbB"
	for seed := range uint64(500) {
		row := make([]byte, 120)
		at := seed
		for i := range row {
			at = at*6364136223846793005 + 1442695040888963407
			row[i] = letters[(at>>33)%uint64(len(letters))]
		}
		checkModel(t, parse(string(row)))
	}
}

// strangeStrs are labelled texts of all kinds, as told and not.
func strangeStrs() []api.Str {
	return []api.Str{
		str(""), str("", 3, 3), str("", -1, math.MinInt), {Runs: []api.Run{}},
		str("ab"), str("ab", 2, 0), str("ab", 1, 0), str("ab", 1, 0, 1, 0), str("ab", 1, 0, 1, 1), str("ab", 1, 1, 1, 0), str("ab", 2, top), str("ab", 9, 0),
		str("ab", math.MaxInt, 0, math.MaxInt, 1), str("ab", math.MinInt, 5, 1, -1, 0, 5, 1, math.MinInt), str("ab", 1, top+1, 1, math.MaxInt),
		str("br"), str("br", 1, -7), str("hr", 9, 9), str("img", 1, 1, -1, 4, 1, 1),
		str("AB", 2, 0), str("a", 1, 0), str("abc", 3, 0), str("\x00\xff", 2, 0), str("\xff\x00"), str("\xc3", 1, 0), str("\xa9", 1, 1), str("a\x00", 1, 3, 9, 3), str("<&\"= \r>", 3, 0),
	}
}

// strangeTokens tells tokens of strangeStrs in all fields, of kinds that are and that are not,
// by turns.
func strangeTokens() []api.Token {
	all := strangeStrs()
	kinds := []int{1, 3, 2, 1, 4, 1, 3, 1, 2, 0, 3, 1, -1, 5, math.MaxInt, 3, math.MinInt}
	pick := func(i int) api.Str { return all[i%len(all)] }
	var out []api.Token
	for i := range 5 * len(all) {
		one := api.Token{Kind: kinds[i%len(kinds)], Name: pick(i * 3), Close: i%2 > 0, Text: pick(i*5 + 1)}
		for j := range i % 5 {
			one.Attrs = append(one.Attrs, api.Attr{Name: pick(i + j*7), Value: pick(i*11 + j)})
		}
		out = append(out, one)
	}
	return out
}

// strangeLists tells lists of strangeTokens, of lengths by turns.
func strangeLists() [][]api.Token {
	all := strangeTokens()
	out := [][]api.Token{nil, {}, {{}}, all}
	for i := range all {
		out = append(out, all[i:i+1], all[i:min(i+1+i%9, len(all))], slices.Repeat(all[i:min(i+3, len(all))], 2))
	}
	return out
}

func TestStrangeListsAgainstModel(t *testing.T) { // P14.1, P1 and P5 of DOC.md
	for _, l := range strangeLists() {
		checkModel(t, l)
	}
}

func TestTextsNotAsTold(t *testing.T) { // P14.1, P5 of DOC.md: each is taken as chapter 1 says, in each field
	for _, s := range strangeStrs() {
		as := mark.Fix(s)
		check(t, tokens(api.Token{Kind: 1, Name: mark.Of("a", 0), Attrs: []api.Attr{{Name: s, Value: s}}}), "a", with("a", api.Attr{Name: as, Value: as}))
		if s.Text == "" {
			continue
		}
		check(t, tokens(api.Token{Kind: 3, Text: s}), "", api.Tree{Text: as})
		check(t, tokens(api.Token{Kind: 1, Name: s}, api.Token{Kind: 2, Name: s}), "", api.Tree{Tag: as})
		both := mark.Cat(as, as)
		check(t, tokens(api.Token{Kind: 3, Text: s}, api.Token{Kind: 3, Text: s}), "", api.Tree{Text: both})
	}
}

func TestAllBytes(t *testing.T) { // P14.1: names, texts and values of any byte are kept as they are
	for b := range 256 {
		s := string([]byte{byte(b)})
		check(t, tokens(start("p", pair(s, s)), words(s), start(s+"x"), words("y"), end(s+"x"), words("z")), "p", api.Tree{Tag: mark.Of("p", 0), Attrs: []api.Attr{pair(s, s)}, Kids: trees(word(s), el(s+"x", word("y")), word("z"))})
		if got := Open(tokens(start(s), start("p"), start(s))); !slices.Equal(got, []string{s, "p", s}) {
			t.Errorf("Open = %q with %q", got, s)
		}
	}
}

func TestWhatIsMergedStays(t *testing.T) { // P14.1: what is told is merged, as chapter 11 has it
	all := strangeLists()
	for _, letters := range rows("adAxY.r!9", 4) {
		all = append(all, parse(letters))
	}
	for _, l := range all {
		if got := Trees(l); !alikeTrees(got, tree.Merge(got)) {
			t.Fatalf("Trees(%v) = %v is not merged", l, got)
		}
	}
}

func TestOfHtml(t *testing.T) { // P14.1: of what token reads
	read := func(html string) []api.Tree { return Trees(token.Tokens(mark.Of(html, 0))) }
	for html, want := range map[string][]api.Tree{
		"<b>x":                            trees(el("b", word("x"))),
		"<P>x<br>y<BR/>z</p>w":            trees(el("p", word("x"), el("br"), word("y"), el("br"), word("z")), word("w")),
		"<b/>x</b>y":                      trees(el("b", word("x")), word("y")),
		"x<!-- c -->y</>z":                trees(word("xyz")),
		"<a><b><c></b>x</a>y":             trees(el("a", el("b", el("c")), word("x")), word("y")),
		"<script>a<b></script><p>&lt;</p": trees(el("script", word("a<b>")), el("p", word("<"))),
	} {
		if got := read(html); !alikeTrees(got, want) {
			t.Errorf("of %s: %v, want %v", html, got, want)
		}
	}
	l := trees(word("a<"), api.Tree{Tag: mark.Of("p", 0), Attrs: []api.Attr{{Name: mark.Of("title", 0), Value: mark.Of("a\"b", 1)}}, Kids: trees(el("br"), word("x"), el("i", word("y")), el("style", word("z")))}, el("img"), word("w"))
	html, err := serial.Html(l)
	if got := Trees(token.Tokens(html)); err != api.OK || !alikeTrees(got, l) {
		t.Errorf("of %v: %v", html, got)
	}
}

// stretch is memory. It keeps what it tells of: memory given back could be given to another
// answer ahead of the comparison.
type stretch struct {
	kept unsafe.Pointer
	size uintptr
}

func (s stretch) from() uintptr { return uintptr(s.kept) }
func (s stretch) to() uintptr   { return s.from() + s.size }

// stretchOf tells the memory of a list, and what it could grow into.
func stretchOf[T any](l []T) stretch {
	var one T
	return stretch{unsafe.Pointer(unsafe.SliceData(l)), uintptr(cap(l)) * unsafe.Sizeof(one)}
}

// stretchesOf tells the memory of labelled texts.
func stretchesOf(l ...api.Str) []stretch {
	var out []stretch
	for _, s := range l {
		out = append(out, stretchOf(s.Runs), textStretch(s.Text))
	}
	return out
}

func textStretch(text string) stretch {
	return stretch{unsafe.Pointer(unsafe.StringData(text)), uintptr(len(text))}
}

func attrStretches(l []api.Attr) []stretch {
	out := []stretch{stretchOf(l)}
	for _, a := range l {
		out = append(out, stretchesOf(a.Name, a.Value)...)
	}
	return out
}

func treeStretches(l []api.Tree) []stretch {
	out := []stretch{stretchOf(l)}
	for _, t := range l {
		out = append(out, stretchesOf(t.Tag, t.Text)...)
		out = append(out, attrStretches(t.Attrs)...)
		out = append(out, treeStretches(t.Kids)...)
	}
	return out
}

func tokenStretches(l []api.Token) []stretch {
	out := []stretch{stretchOf(l)}
	for _, t := range l {
		out = append(out, stretchesOf(t.Name, t.Text)...)
		out = append(out, attrStretches(t.Attrs)...)
	}
	return out
}

// answerStretches asks both calls of l, and tells the memory of the answers.
func answerStretches(l []api.Token) []stretch {
	names := Open(l)
	out := append(treeStretches(Trees(l)), stretchOf(names))
	for _, name := range names {
		out = append(out, textStretch(name))
	}
	return slices.DeleteFunc(out, func(s stretch) bool { return s.size == 0 })
}

// apart tells whether no two stretches have memory in common.
func apart(l []stretch) bool {
	slices.SortFunc(l, func(a, b stretch) int { return cmp.Compare(a.from(), b.from()) })
	for i := 1; i < len(l); i++ {
		if l[i].from() < l[i-1].to() {
			return false
		}
	}
	return true
}

// meets tells whether a stretch of the one has memory in common with one of the other.
func meets(a, b []stretch) bool {
	return slices.ContainsFunc(a, func(x stretch) bool {
		return slices.ContainsFunc(b, func(y stretch) bool { return x.from() < y.to() && y.from() < x.to() })
	})
}

// memoryLists are lists of which each call has something to tell, some with a part that
// stands in them more than once.
func memoryLists() [][]api.Token {
	part := start("part", pair("name", "value"), pair("other", "text"), pair("name", "two"))
	br := start("br", part.Attrs...)
	out := append(strangeLists(),
		tokens(part, part, words("one"), part, words("one"), end("part"), part),
		tokens(br, words("two"), br, part, br, words("two"), words("three"), br),
		tokens(words("one text alone")),
		tokens(start("name")),
		tokens(start("name", pair("name", "name")), words("name"), start("name", pair("name", "name"))),
		tokens(start("a"), words("x"), start("b"), words("y"), end("b"), words("z"), start("c"), end("c"), start("d"), end("d"), words("w")),
	)
	for _, letters := range []string{"axyYbdr", "dddAdd", "xaxbxcxAxaxBx", "aAaAaAaA", "rrrrrr", "arbrcrA"} {
		out = append(out, parse(letters))
	}
	return out
}

func TestAnswersAreNewMemory(t *testing.T) { // P14.2
	for _, l := range memoryLists() {
		got := append(answerStretches(l), answerStretches(l)...)
		if meets(got, tokenStretches(l)) {
			t.Fatalf("answers to %v share memory with what was handed in", l)
		}
		if !apart(got) {
			t.Fatalf("answers to %v share memory with one another, or within one", l)
		}
	}
}

// scribble writes over all that an answer can reach.
func scribble(l []api.Tree) {
	over := func(s api.Str) {
		runs := s.Runs[:cap(s.Runs)]
		for i := range runs {
			runs[i] = api.Run{Len: -9, Origin: -9}
		}
	}
	for _, t := range l {
		over(t.Tag)
		over(t.Text)
		for _, a := range t.Attrs {
			over(a.Name)
			over(a.Value)
		}
		scribble(t.Kids)
		l := t.Attrs[:cap(t.Attrs)]
		for i := range l {
			l[i] = pair("scribbled", "x")
		}
	}
	l = l[:cap(l)]
	for i := range l {
		l[i] = el("scribbled", word("x"))
	}
}

func TestAnswersWrittenOver(t *testing.T) { // P14.2
	for _, l := range memoryLists() {
		before, want, names := clones(l), modelTrees(l), modelOpen(l)
		again, namesAgain := Trees(l), Open(l)
		scribble(Trees(l))
		over := Open(l)
		over = over[:cap(over)]
		for i := range over {
			over[i] = "scribbled"
		}
		if !alikeTokens(l, before) {
			t.Fatalf("answers written over change what was handed in: from %v to %v", before, l)
		}
		if !alikeTrees(again, want) || !slices.Equal(namesAgain, names) || !alikeTrees(Trees(l), want) || !slices.Equal(Open(l), names) {
			t.Fatalf("answers written over change other answers to %v", l)
		}
	}
}

// clones tells a copy of all that is handed in, runs as they are.
func clones(l []api.Token) []api.Token {
	clone := func(s api.Str) api.Str {
		return api.Str{Text: strings.Clone(s.Text), Runs: slices.Clone(s.Runs)}
	}
	var out []api.Token
	for _, t := range l {
		n := api.Token{Kind: t.Kind, Name: clone(t.Name), Close: t.Close, Text: clone(t.Text)}
		for _, a := range t.Attrs {
			n.Attrs = append(n.Attrs, api.Attr{Name: clone(a.Name), Value: clone(a.Value)})
		}
		out = append(out, n)
	}
	return out
}

// askAll asks both calls.
func askAll(l []api.Token) {
	Trees(l)
	Open(l)
}

func TestArgumentsAreNotChanged(t *testing.T) { // P14.2
	for _, l := range memoryLists() {
		before := clones(l)
		askAll(l)
		if !alikeTokens(l, before) {
			t.Fatalf("from %v to %v", before, l)
		}
	}
	own := tokens(words("a"), start("p", pair("a", "1"), pair("a", "2"), pair("b", "3")), words("b"), note("c"), start("br"), words(""), end("p"), words("d")) // an append in place would write behind what is handed in
	want := clones(own)
	for n := range len(own) {
		askAll(own[:n])
		askAll(own[n:])
	}
	for n := range 3 {
		askAll(tokens(start("p", own[1].Attrs[:n]...), start("br", own[1].Attrs[:n]...)))
	}
	if !alikeTokens(own, want) {
		t.Fatalf("memory behind what is handed in changed: %v", own)
	}
	runs := []api.Run{{Len: 1, Origin: 1}, {Len: 1, Origin: 2}, {Len: 1, Origin: 3}}
	s := api.Str{Text: "abc", Runs: runs[:1]}
	data := api.Token{Kind: 3, Text: s}
	askAll(tokens(data, data, api.Token{Kind: 1, Name: s, Attrs: []api.Attr{{Name: s, Value: s}}}, data, api.Token{Kind: 2, Name: s}, data))
	if !slices.Equal(runs, []api.Run{{Len: 1, Origin: 1}, {Len: 1, Origin: 2}, {Len: 1, Origin: 3}}) {
		t.Errorf("memory behind the runs changed: %v", runs)
	}
}

func TestNothingIsKept(t *testing.T) { // P14.2, and P3 of DOC.md
	runs := []api.Run{{Len: 2, Origin: 1}}
	s := api.Str{Text: "xy", Runs: runs}
	l := tokens(api.Token{Kind: 1, Name: s, Attrs: []api.Attr{{Name: s, Value: s}}}, api.Token{Kind: 3, Text: s})
	got, names := Trees(l), Open(l)
	runs[0].Origin = 9 // what was handed in is changed afterwards
	l[0].Attrs[0] = pair("p", "q")
	l[1] = end("xy")
	as := mark.Of("xy", 1)
	if !alikeTrees(got, trees(api.Tree{Tag: as, Attrs: []api.Attr{{Name: as, Value: as}}, Kids: trees(api.Tree{Text: as})})) || !slices.Equal(names, []string{"xy"}) {
		t.Errorf("answers changed to %v and %q", got, names)
	}
	for _, l := range memoryLists() {
		got, names := Trees(l), Open(l)
		askAll(tokens(start("a"), start("b"), start("name"), words("left open")))
		if !alikeTrees(got, Trees(l)) || !slices.Equal(names, Open(l)) {
			t.Fatalf("answers to %v differ", l)
		}
	}
}

// many tells n tokens, by their numbers.
func many(n int, one func(i int) api.Token) []api.Token {
	out := make([]api.Token, n)
	for i := range out {
		out[i] = one(i)
	}
	return out
}

// counts tells how many elements and texts l has, and how many elements stand in one another,
// level by level: so it goes as deep as may be.
func counts(l []api.Tree) (elements, texts, depth int) {
	for len(l) > 0 {
		var below []api.Tree
		before := elements
		for _, t := range l {
			if t.Tag.Text == "" {
				texts++
				continue
			}
			elements++
			below = append(below, t.Kids...)
		}
		if elements > before {
			depth++
		}
		l = below
	}
	return elements, texts, depth
}

// checkCounts asks how many elements and texts a long list tells, how deep they are, and how
// many are open.
func checkCounts(t *testing.T, what string, l []api.Token, elements, texts, depth, open int) {
	t.Helper()
	if e, x, d := counts(Trees(l)); e != elements || x != texts || d != depth {
		t.Errorf("%s: %d elements, %d texts, %d deep, want %d, %d, %d", what, e, x, d, elements, texts, depth)
	}
	if got := Open(l); len(got) != open {
		t.Errorf("%s: %d are open, want %d", what, len(got), open)
	}
}

func TestLongLists(t *testing.T) { // P1 of DOC.md: an end within bearable time
	const n = 1 << 16
	same := func(l ...api.Token) []api.Token { return slices.Repeat(l, n) }
	numbered := func(kind int) []api.Token {
		return many(n, func(i int) api.Token { return api.Token{Kind: kind, Name: mark.Of("p"+strconv.Itoa(i), 0)} })
	}
	checkCounts(t, "in one another", same(start("a")), n, 0, n, n)
	checkCounts(t, "in one another, texts between", same(start("a"), words("x")), n, n, n, n)
	checkCounts(t, "each ended", append(same(start("a")), same(end("a"), words("x"))...), n, n, n, 0)
	checkCounts(t, "none ended", append(same(start("a")), same(end("b"))...), n, 0, n, n)
	checkCounts(t, "none ended, texts between", append(same(start("a")), same(words("x"), end("b"), end(""))...), n, 1, n, n)
	checkCounts(t, "the last one ended", append(same(start("a")), same(start("b"), end("b"))...), 2*n, 0, n+1, n)
	checkCounts(t, "all ended at once", slices.Concat(tokens(start("b")), same(start("a")), tokens(end("b"), words("x"))), n+1, 1, n+1, 0)
	checkCounts(t, "all but one ended at once", slices.Concat(same(start("a")), tokens(start("b")), same(start("c")), tokens(end("b"))), 2*n+1, 0, 2*n+1, n)
	checkCounts(t, "unlike names in one another", append(numbered(1), numbered(2)...), n, 0, n, 0)
	back := numbered(2)
	slices.Reverse(back)
	checkCounts(t, "unlike names, ended from the last on", append(numbered(1), back...), n, 0, n, 0)
	checkCounts(t, "beside each other", same(start("a"), words("x"), end("a")), n, n, 1, 0)
	checkCounts(t, "void", same(start("br"), words("x"), end("br")), n, n, 1, 0)
	checkCounts(t, "void within", append(same(start("a")), same(closed("br"))...), 2*n, 0, n+1, n)
	checkCounts(t, "data", same(words("x"), note("y"), end("z"), start(""), words("")), 0, 1, 0, 0)
	checkCounts(t, "nothing", same(end("a"), note("b"), start(""), api.Token{}), 0, 0, 0, 0)
	got := Trees(many(n, func(i int) api.Token { return api.Token{Kind: 3, Text: mark.Of(strconv.Itoa(i%10), i%3)} }))
	if len(got) != 1 || len(got[0].Text.Text) != n || len(got[0].Text.Runs) != n {
		t.Errorf("many texts are %d", len(got))
	}
	pairs := make([]api.Attr, n)
	for i := range pairs {
		pairs[i] = pair("n"+strconv.Itoa(i), "x")
	}
	if got := Trees(tokens(start("a", slices.Concat(pairs, pairs)...))); len(got) != 1 || len(got[0].Attrs) != n {
		t.Errorf("an element of many attributes: %d trees", len(got))
	}
}

func TestEndedAllAgainAndAgain(t *testing.T) { // P1 of DOC.md
	const n = 1 << 8
	inner := slices.Repeat(tokens(start("i")), n)
	round := slices.Concat(tokens(start("o")), inner, tokens(words("x"), end("o")))
	checkCounts(t, "all ended", slices.Repeat(round, n), n*(n+1), n, n+1, 0)
	below := slices.Concat(inner, slices.Repeat(round, n))
	checkCounts(t, "all of these ended, within others", below, n*(n+2), n, 2*n+1, n)
	none := slices.Concat(inner, slices.Repeat(tokens(start("o"), end("p"), end("o"), end("o")), n*n))
	checkCounts(t, "one ended, others of no name that is open", none, n*n+n, 0, n+1, n)
}

func TestDeep(t *testing.T) { // P1 of DOC.md: a list of tokens is not deep, however many are open
	const n = 1 << 20
	checkCounts(t, "in one another", slices.Repeat(tokens(start("a")), n), n, 0, n, n)
}
