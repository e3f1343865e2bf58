package token

import (
	"cmp"
	"fmt"
	"math"
	"math/rand"
	"regexp"
	"slices"
	"strconv"
	"strings"
	"testing"
	"unsafe"

	"glazier/api"
	"glazier/entity"
	"glazier/mark"
)

const top = api.MaxOrigin

// str writes a labelled text: lens and origins by turns.
func str(text string, pairs ...int) api.Str {
	s := api.Str{Text: text}
	for i := 0; i+1 < len(pairs); i += 2 {
		s.Runs = append(s.Runs, api.Run{Len: pairs[i], Origin: pairs[i+1]})
	}
	return s
}

// start writes a start tag, all of it trusted: a name, then names and values by turns.
func start(name string, pairs ...string) api.Token {
	t := api.Token{Kind: 1, Name: mark.Of(name, 0)}
	for i := 0; i < len(pairs); i += 2 {
		t.Attrs = append(t.Attrs, api.Attr{Name: mark.Of(pairs[i], 0), Value: mark.Of(pairs[i+1], 0)})
	}
	return t
}

// closed writes a start tag with Close.
func closed(name string, pairs ...string) api.Token {
	t := start(name, pairs...)
	t.Close = true
	return t
}

// end writes an end tag, trusted.
func end(name string) api.Token {
	return api.Token{Kind: 2, Name: mark.Of(name, 0)}
}

// words writes data, trusted.
func words(text string) api.Token {
	return api.Token{Kind: 3, Text: mark.Of(text, 0)}
}

// note writes a comment, trusted.
func note(text string) api.Token {
	return api.Token{Kind: 4, Text: mark.Of(text, 0)}
}

// alike holds two texts against each other field by field.
func alike(a, b api.Str) bool {
	return a.Text == b.Text && slices.Equal(a.Runs, b.Runs)
}

func alikeAttr(a, b api.Attr) bool {
	return alike(a.Name, b.Name) && alike(a.Value, b.Value)
}

func alikeToken(a, b api.Token) bool {
	return a.Kind == b.Kind && alike(a.Name, b.Name) && slices.EqualFunc(a.Attrs, b.Attrs, alikeAttr) && a.Close == b.Close && alike(a.Text, b.Text)
}

func alikes(a, b []api.Token) bool {
	return slices.EqualFunc(a, b, alikeToken)
}

// The model of the tests: a machine that is fed signs, bytes with their origins, one by one,
// and never looks ahead.

type sign struct {
	b      byte
	origin int
}

// signs tells the bytes of s with their origins, as chapter 1 takes them.
func signs(s api.Str) []sign {
	var out []sign
	for _, r := range s.Runs {
		for n := 0; n < r.Len && len(out) < len(s.Text); n++ {
			out = append(out, sign{s.Text[len(out)], min(max(r.Origin, 0), top)})
		}
	}
	for len(out) < len(s.Text) {
		out = append(out, sign{s.Text[len(out)], top})
	}
	return out
}

// told tells the one labelled text of these signs that is as told.
func told(l []sign) api.Str {
	var text []byte
	var s api.Str
	for i, c := range l {
		text = append(text, c.b)
		if i == 0 || l[i-1].origin != c.origin {
			s.Runs = append(s.Runs, api.Run{Origin: c.origin})
		}
		s.Runs[len(s.Runs)-1].Len++
	}
	s.Text = string(text)
	return s
}

// toldLower tells them with A to Z as a to z.
func toldLower(l []sign) api.Str {
	s := told(l)
	text := []byte(s.Text)
	for i, b := range text {
		if 'A' <= b && b <= 'Z' {
			text[i] = b + 32
		}
	}
	s.Text = string(text)
	return s
}

// The states of the machine: what was fed last.
const (
	inData     = iota
	atOpen     // <
	atSlash    // </
	inBang     // <! and what may be a -
	inOther    // a comment that > ends
	inDashes   // <!-- and what follows
	inName     // < or </ and a letter, and what follows
	aheadAttr  // within a tag, and not in any of the following
	inAttr     // an attribute's name
	behindAttr // a space behind that
	aheadValue // = and spaces
	inQuotes   // " or ' and what follows
	inPlain    // a value without signs
	inRaw      // behind a start tag of script or style
)

type machine struct {
	state  int
	last   byte   // what was fed last
	piece  []sign // data that is not decoded yet
	data   []sign // data that is
	buffer []sign // what is in work: a comment's text, a name, a value, raw data
	quote  byte
	tag    api.Token
	name   api.Str // of the attribute in work
	out    []api.Token
}

func isSpace(b byte) bool {
	return b == 9 || b == 10 || b == 12 || b == 32
}

func isLetter(b byte) bool {
	return strings.Contains("abcdefghijklmnopqrstuvwxyzABCDEFGHIJKLMNOPQRSTUVWXYZ", string(rune(b))) && b < 128
}

func isEither(b byte, those string) bool {
	return strings.Contains(those, string([]byte{b}))
}

// endPiece decodes what is data so far.
func (m *machine) endPiece() {
	m.data = append(m.data, signs(entity.Decode(told(m.piece)))...)
	m.piece = nil
}

// put tells a token, and the data ahead of it.
func (m *machine) put(t api.Token) {
	m.endPiece()
	if len(m.data) > 0 {
		m.out = append(m.out, api.Token{Kind: 3, Text: told(m.data)})
		m.data = nil
	}
	if t.Kind > 0 {
		m.out = append(m.out, t)
	}
	m.buffer = nil
	m.state = inData
}

// putTag tells the tag in work.
func (m *machine) putTag() {
	m.tag.Close = m.last == '/'
	t := m.tag
	if t.Kind == 2 {
		t = api.Token{Kind: 2, Name: t.Name}
	}
	m.put(t)
	if t.Kind == 1 && isRawModel(t.Name.Text) {
		m.state = inRaw
	}
}

func isRawModel(name string) bool {
	return slices.Contains([]string{"script", "style"}, name)
}

// putAttr adds the attribute in work, if it is the first of its name.
func (m *machine) putAttr(value []sign) {
	fresh := !slices.ContainsFunc(m.tag.Attrs, func(a api.Attr) bool { return a.Name.Text == m.name.Text })
	if fresh {
		m.tag.Attrs = append(m.tag.Attrs, api.Attr{Name: m.name, Value: entity.Decode(told(value))})
	}
	m.buffer = nil
}

func (m *machine) feed(c sign) {
	switch {
	case m.state <= atSlash:
		m.feedData(c)
	case m.state <= inDashes:
		m.feedComment(c)
	case m.state == inRaw:
		m.feedRaw(c)
	default:
		m.feedTag(c)
	}
	m.last = c.b
}

func (m *machine) feedData(c sign) {
	switch {
	case m.state == inData && c.b == '<':
		m.endPiece()
		m.buffer, m.state = []sign{c}, atOpen
	case m.state == inData:
		m.piece = append(m.piece, c)
	case isLetter(c.b):
		m.tag = api.Token{Kind: 1 + m.state - atOpen}
		m.buffer, m.state = []sign{c}, inName
	case m.state == atOpen && c.b == '/':
		m.buffer, m.state = append(m.buffer, c), atSlash
	case m.state == atOpen && c.b == '!':
		m.buffer, m.state = nil, inBang
	case m.state == atOpen && c.b == '?':
		m.buffer, m.state = nil, inOther
	case m.state == atOpen: // the < is data, and this byte begins anew
		m.piece, m.buffer, m.state = append(m.piece, m.buffer...), nil, inData
		m.feedData(c)
	case c.b == '>':
		m.buffer, m.state = nil, inData
	default:
		m.buffer, m.state = []sign{c}, inOther
	}
}

func (m *machine) feedComment(c sign) {
	if m.state != inDashes && c.b == '>' {
		m.put(api.Token{Kind: 4, Text: told(m.buffer)})
		return
	}
	m.buffer = append(m.buffer, c)
	at := max(len(m.buffer)-3, 0)
	last := told(m.buffer[at:]).Text
	switch {
	case m.state == inBang && last == "--":
		m.buffer, m.state = nil, inDashes
	case m.state == inBang && last != "-":
		m.state = inOther
	case m.state == inDashes && last == "-->":
		m.put(api.Token{Kind: 4, Text: told(m.buffer[:at])})
	}
}

func (m *machine) feedRaw(c sign) {
	end := "</" + m.tag.Name.Text
	at := max(len(m.buffer)-len(end), 0)
	if toldLower(m.buffer[at:]).Text == end && (isSpace(c.b) || isEither(c.b, "/>")) {
		name := m.buffer[at+2:]
		m.data = append(m.data, m.buffer[:at]...)
		m.put(api.Token{})
		m.tag, m.buffer, m.state = api.Token{Kind: 2}, name, inName
		m.feedTag(c)
		return
	}
	m.buffer = append(m.buffer, c)
}

func (m *machine) feedTag(c sign) {
	ends := isSpace(c.b) || isEither(c.b, "/>")
	switch {
	case m.state == inName && ends:
		m.tag.Name = toldLower(m.buffer)
		m.buffer, m.state = nil, aheadAttr
		m.feedTag(c)
	case m.state == aheadAttr && c.b == '>':
		m.putTag()
	case m.state == aheadAttr && ends:
	case m.state == aheadAttr:
		m.buffer, m.state = []sign{c}, inAttr
	case m.state == inAttr && (ends || c.b == '='):
		m.name = toldLower(m.buffer)
		m.buffer, m.state = nil, behindAttr
		m.feedTag(c)
	case m.state == behindAttr && c.b == '=':
		m.state = aheadValue
	case (m.state == behindAttr || m.state == aheadValue) && isSpace(c.b):
	case m.state == behindAttr:
		m.putAttr(nil)
		m.state = aheadAttr
		m.feedTag(c)
	case m.state == aheadValue && isEither(c.b, `"'`):
		m.quote, m.state = c.b, inQuotes
	case m.state == aheadValue:
		m.state = inPlain
		m.feedTag(c)
	case m.state == inQuotes && c.b == m.quote:
		m.putAttr(m.buffer)
		m.state = aheadAttr
	case m.state == inPlain && (isSpace(c.b) || c.b == '>'):
		m.putAttr(m.buffer)
		m.state = aheadAttr
		m.feedTag(c)
	default: // of a name or a value
		m.buffer = append(m.buffer, c)
	}
}

// finish ends what is in work with the text.
func (m *machine) finish() {
	switch m.state {
	case atOpen, atSlash:
		m.piece = m.buffer
	case inBang, inOther, inDashes:
		m.put(api.Token{Kind: 4, Text: told(m.buffer)})
	case inRaw:
		m.data = m.buffer
	}
	m.put(api.Token{})
}

func modelTokens(s api.Str) []api.Token {
	var m machine
	for _, c := range signs(s) {
		m.feed(c)
	}
	m.finish()
	return m.out
}

var tagForm = regexp.MustCompile(`^</?[A-Za-z]`)

func modelTag(s api.Str) (api.Token, int, bool) {
	var m machine
	for i, c := range signs(s) {
		m.feed(c)
		if tagForm.MatchString(s.Text) && len(m.out) > 0 {
			return m.out[0], i + 1, true
		}
	}
	return api.Token{}, 0, false
}

func modelData(l []api.Token) api.Str {
	var out []sign
	for _, t := range l {
		if t.Kind == 3 {
			out = append(out, signs(t.Text)...)
		}
	}
	return told(out)
}

// The checks: each holds a call's answer against what is wanted.

// shown tells what was handed in or told, as much of it as can be read.
func shown(x any) string {
	all := strconv.Quote(fmt.Sprintf("%+v", x))
	if len(all) > 600 {
		return all[:600] + " .."
	}
	return all
}

// check asks Tokens of a trusted text, and holds the model against what is wanted too.
func check(t *testing.T, text string, want ...api.Token) {
	t.Helper()
	if got := Tokens(mark.Of(text, 0)); !alikes(got, want) {
		t.Errorf("Tokens(%s) = %s, want %s", shown(text), shown(got), shown(want))
	}
	if got := modelTokens(mark.Of(text, 0)); !alikes(got, want) {
		t.Errorf("the model of %s tells %s, want %s", shown(text), shown(got), shown(want))
	}
	checkOne(t, spotted(text))
}

// checkStr asks Tokens of a labelled text.
func checkStr(t *testing.T, s api.Str, want ...api.Token) {
	t.Helper()
	if got := Tokens(s); !alikes(got, want) {
		t.Errorf("Tokens(%s) = %s, want %s", shown(s), shown(got), shown(want))
	}
	checkOne(t, s)
}

// checkOne holds all calls of a text against the model.
func checkOne(t *testing.T, s api.Str) {
	t.Helper()
	got, want := Tokens(s), modelTokens(s)
	if !alikes(got, want) {
		t.Fatalf("Tokens(%s) = %s, want %s", shown(s), shown(got), shown(want))
	}
	if got, want := Data(got), modelData(want); !alike(got, want) {
		t.Fatalf("Data of the tokens of %s = %s, want %s", shown(s), shown(got), shown(want))
	}
	tag, n, ok := Tag(s)
	wantTag, wantN, wantOk := modelTag(s)
	if !alikeToken(tag, wantTag) || n != wantN || ok != wantOk {
		t.Fatalf("Tag(%s) = %s, %d, %v, want %s, %d, %v", shown(s), shown(tag), n, ok, shown(wantTag), wantN, wantOk)
	}
}

// checkTag asks Tag of a trusted text that begins with a tag of n bytes.
func checkTag(t *testing.T, text string, n int, want api.Token) {
	t.Helper()
	if got, size, ok := Tag(mark.Of(text, 0)); !alikeToken(got, want) || size != n || !ok {
		t.Errorf("Tag(%s) = %s, %d, %v, want %s, %d", shown(text), shown(got), size, ok, shown(want), n)
	}
	checkOne(t, spotted(text))
}

// checkNoTag asks Tag of texts that begin with none, or with one that does not end.
func checkNoTag(t *testing.T, texts ...string) {
	t.Helper()
	for _, text := range texts {
		for _, s := range []api.Str{mark.Of(text, 0), mark.Of(text, 3), spotted(text), {Text: text}} {
			if got, n, ok := Tag(s); !alikeToken(got, api.Token{}) || n != 0 || ok {
				t.Errorf("Tag(%s) = %s, %d, %v", shown(s), shown(got), n, ok)
			}
		}
		checkOne(t, spotted(text))
	}
}

// The texts of the tests.

// spotted writes a labelled text whose bytes are of unlike origins, neighbours always.
func spotted(text string) api.Str {
	s := api.Str{Text: text}
	for i := range len(text) {
		s.Runs = append(s.Runs, api.Run{Len: 1, Origin: i*7%5*3 + i%2})
	}
	return s
}

// rows tells all texts of up to n of the parts.
func rows(n int, parts ...string) []string {
	out := []string{""}
	for from := 0; n > 0; n-- {
		to := len(out)
		for _, s := range out[from:to] {
			for _, part := range parts {
				out = append(out, s+part)
			}
		}
		from = to
	}
	return out
}

// letters tells the bytes of text, each as a part.
func letters(text string) []string {
	return strings.Split(text, "")
}

func allBytes() string {
	var out []byte
	for b := range 256 {
		out = append(out, byte(b))
	}
	return string(out)
}

// someTexts are texts of all kinds.
func someTexts() []string {
	return []string{
		"", "a", "one text alone", "<", "</", "<!", "<?", "</>", "<>", "< ", "<1", "<a", "</a", "<a>", "</a>", "<A>", "</A>", "<a/>", "<a />", "<a b>", "<a b=c>", "<a b='c'>", "<a b=\"c\">", "</a b=c>", "<a b='c", "<a b=c", "<a b=", "<a b",
		"<B x=1>", "<p title=\"a&quot;b\">text &amp; more</p>", "<a x=1 y=2 X=3 z>", "<a =b==c/=/>", "<a b=c/>", "<a b='&lt;>' c=\"'\">", "a<b>c</b>d<!-- e -->f<?g>h</ i>j</>k", "a&am</>p;&amp;</>b", "a < b &lt; c", "<<b><</b>",
		"<!-->-->a", "<!--a--b->c--->d", "<!DOCTYPE html>", "<!-a->b-->", "<!---->", "</!>", "<script>a<b>&lt;</scrip></SCRIPT x>c", "<STYLE/></style", "<style>", "<script></script><style></style>", "<script>a</style></script >&amp;", "<sCRipt a='</script>'>b</ScripT/>c", "<scripts>&lt;</scripts>",
		"\x00\xff<\x00a><\xff><a\x00b \xff=\xfe c='\x80'>\x80</a\xff>", "<br>" + allBytes() + "<br " + allBytes() + "'\">", strings.Repeat("<a b=c>d</a>", 9), strings.Repeat("</>x", 9), strings.Repeat("<a b='c'", 9), strings.Repeat("<!--", 9),
	}
}

// labels are runs of all kinds, as told for some texts and not for others.
func labels() [][]api.Run {
	return [][]api.Run{
		nil, {},
		{{Len: 1, Origin: 0}},
		{{Len: 1, Origin: 4}, {Len: 1, Origin: 9}, {Len: 1, Origin: 2}},
		{{Len: 1, Origin: 0}, {Len: 1, Origin: 1}, {Len: 1, Origin: 0}, {Len: 1, Origin: 1}, {Len: 1, Origin: 0}},
		{{Len: 4, Origin: 0}, {Len: 1, Origin: 7}, {Len: 9, Origin: 0}},
		{{Len: 5, Origin: 1}, {Len: 5, Origin: 0}, {Len: 5, Origin: 2}},
		{{Len: 1, Origin: 3}, {Len: 1, Origin: 3}, {Len: 2, Origin: 3}},
		{{Len: math.MaxInt, Origin: 0}},
		{{Len: math.MaxInt, Origin: 5}, {Len: math.MaxInt, Origin: 6}},
		{{Len: math.MinInt, Origin: 8}, {Len: 1, Origin: -1}, {Len: 0, Origin: 8}, {Len: 4, Origin: math.MinInt}},
		{{Len: 1, Origin: top + 1}, {Len: 1, Origin: math.MaxInt}, {Len: 9, Origin: 0}},
		{{Len: 1, Origin: top}, {Len: -1, Origin: 0}, {Len: 2, Origin: top - 1}},
	}
}

// someStrs tells each of someTexts with each of labels, and spotted.
func someStrs() []api.Str {
	var out []api.Str
	for _, text := range someTexts() {
		for _, runs := range labels() {
			out = append(out, api.Str{Text: text, Runs: slices.Clone(runs)})
		}
		out = append(out, spotted(text))
	}
	return out
}

func TestData(t *testing.T) { // P13.1: what is data, and what begins something else
	check(t, "<B x=1>", start("b", "x", "1")) // the chapter's example
	check(t, "")
	for _, text := range []string{"a", "a b\n", ">", "a>b", "/", "!--", "\"'=", "\r", "\x00", "\xff\x80", "-->", "</", "<", "<<", "a<", "a</", "<</", "<<<</"} {
		check(t, text, words(text))
	}
	for _, behind := range []string{" ", "\t", "\n", "\f", "\r", "1", "9", ">", "=", "-", "\"", "&", ";", "@", "[", "`", "{", ".", "\x00", "\x7f", "\xc3\xa9", "\xc3", "\xff"} {
		check(t, "<"+behind, words("<"+behind))
		check(t, "a<"+behind+"b", words("a<"+behind+"b"))
		check(t, "<i>a<"+behind+"<i>", start("i"), words("a<"+behind), start("i"))
	}
	check(t, "<<b>", words("<"), start("b"))
	check(t, "<<</b><<", words("<<"), end("b"), words("<<"))
	check(t, "a<<!b><<?c><</>d", words("a<"), note("b"), words("<"), note("c"), words("<d"))
	check(t, "a<b>c<d>e", words("a"), start("b"), words("c"), start("d"), words("e"))
	check(t, "<a><b></b></a>", start("a"), start("b"), end("b"), end("a"))
	check(t, "<a>\n<b> </b>\r</a>\x00", start("a"), words("\n"), start("b"), words(" "), end("b"), words("\r"), end("a"), words("\x00"))
}

func TestDataByByte(t *testing.T) { // P13.1: which byte behind a < begins what
	for b := range 256 {
		c := string([]byte{byte(b)})
		switch {
		case isLetter(byte(b)):
			check(t, "a<"+c+">b", words("a"), start(strings.ToLower(c)), words("b"))
			check(t, "a</"+c+">b", words("a"), end(strings.ToLower(c)), words("b"))
		case c == "/":
			check(t, "a</>b", words("ab"))
			check(t, "a<//>b", words("a"), note("/"), words("b"))
		case c == "!", c == "?":
			check(t, "a<"+c+">b", words("a"), note(""), words("b"))
			check(t, "a</"+c+">b", words("a"), note(c), words("b"))
		case c == ">":
			check(t, "a<>>b", words("a<>>b"))
			check(t, "a</>>b", words("a>b"))
		default:
			check(t, "a<"+c+">b", words("a<"+c+">b"))
			check(t, "a</"+c+">b", words("a"), note(c), words("b"))
		}
	}
}

func TestNothing(t *testing.T) { // P13.1: </> is nothing, what stands on both sides of it is beside each other
	check(t, "</>")
	check(t, "</></></>")
	check(t, "a</>b", words("ab"))
	check(t, "a</></>b</>", words("ab"))
	check(t, "</>a</>", words("a"))
	check(t, "<a></><b>", start("a"), start("b"))
	check(t, "a</><b></>c</>d", words("a"), start("b"), words("cd"))
	check(t, "<</><</>", words("<<"))
	check(t, "<</>b>", words("<b>")) // what is joined is not looked at again
	check(t, "<</>/b>", words("</b>"))
	check(t, "a<</>!--b-->", words("a<!--b-->"))
	check(t, "a<!---->b", words("a"), note(""), words("b")) // a comment stands between
	check(t, "a<!>b<?>c</b>d", words("a"), note(""), words("b"), note(""), words("c"), end("b"), words("d"))
	check(t, "a</ >b", words("a"), note(" "), words("b"))
	checkStr(t, str("a</>b", 1, 1, 3, 2, 1, 1), api.Token{Kind: 3, Text: mark.Of("ab", 1)})
	checkStr(t, str("a</>b", 1, 1, 4, 2), api.Token{Kind: 3, Text: str("ab", 1, 1, 1, 2)})
}

func TestNames(t *testing.T) { // P13.1: how far names go, and that they are lower
	for _, space := range []string{" ", "\t", "\n", "\f"} {
		check(t, "<a"+space+">", start("a"))
		check(t, "</a"+space+">", end("a"))
		check(t, "<a"+space+"b"+space+"c=d"+space+">", start("a", "b", "", "c", "d"))
	}
	check(t, "<a\rb>", start("a\rb")) // a return is no space
	check(t, "<a\vb\x00c>", start("a\vb\x00c"))
	check(t, "<a\xc2\xa0b>", start("a\xc2\xa0b"))
	check(t, "<a/b>", start("a", "b", ""))
	check(t, "<a/>", closed("a"))
	check(t, "<a>b>", start("a"), words("b>"))
	check(t, "</a/b>", end("a"))
	check(t, "<a<b>", start("a<b"))
	check(t, "<a=b>", start("a=b"))
	check(t, "<a='b'>", start("a='b'"))
	check(t, "<a\"b&amp;!?-.:_9>", start("a\"b&amp;!?-.:_9"))
	check(t, "</a<b=\"&lt;>", end("a<b=\"&lt;"))
	check(t, "<ABCXYZ><aBcXyZ></ABCXYZ>", start("abcxyz"), start("abcxyz"), end("abcxyz"))
	check(t, "<A@[`{Z\xc3\x89>", start("a@[`{z\xc3\x89"))
	check(t, "<a ABCXYZ=ABC aZ>", start("a", "abcxyz", "ABC", "az", ""))
	check(t, "<a @[`{\xc3\x89=\xc3\x89>", start("a", "@[`{\xc3\x89", "\xc3\x89"))
}

func TestNamesByByte(t *testing.T) { // P13.1
	for b := range 256 {
		c := string([]byte{byte(b)})
		name := c
		if 'A' <= b && b <= 'Z' {
			name = strings.ToLower(c)
		}
		switch {
		case isSpace(byte(b)), c == "/":
			check(t, "<x"+c+"y>", start("x", "y", ""))
			check(t, "</x"+c+"y>", end("x"))
			check(t, "<x "+c+"n>", start("x", "n", ""))
			check(t, "<x n"+c+"m>", start("x", "n", "", "m", ""))
		case c == ">":
			check(t, "<x"+c+"y>", start("x"), words("y>"))
			check(t, "</x"+c+"y>", end("x"), words("y>"))
			check(t, "<x n"+c+"m>", start("x", "n", ""), words("m>"))
		case c == "=":
			check(t, "<x=y>", start("x=y"))
			check(t, "<x =n>", start("x", "=n", ""))
			check(t, "<x n=m>", start("x", "n", "m"))
		default:
			check(t, "<x"+c+"y>", start("x"+name+"y"))
			check(t, "</x"+c+"y>", end("x"+name+"y"))
			check(t, "<x "+c+"n>", start("x", name+"n", ""))
			check(t, "<x n"+c+"m>", start("x", "n"+name+"m", ""))
			check(t, "<x "+c+">", start("x", name, ""))
		}
	}
}

func TestAttributes(t *testing.T) { // P13.1: what stands ahead of, in and behind names of attributes
	for _, between := range []string{" ", "/", "\t\n\f ", "//", " / ", "/ /\n/"} {
		check(t, "<a"+between+"b>", start("a", "b", ""))
		check(t, "<a"+between+"b=c d>", start("a", "b", "c", "d", ""))
		check(t, "<a b"+between+"c>", start("a", "b", "", "c", ""))
		check(t, "<a b='c'"+between+"d>", start("a", "b", "c", "d", ""))
	}
	check(t, "<a b='c'd=\"e\"f>", start("a", "b", "c", "d", "e", "f", "")) // nothing between
	check(t, "<a b=''c>", start("a", "b", "", "c", ""))
	check(t, "<a b c d>", start("a", "b", "", "c", "", "d", ""))
	check(t, "<a d c b>", start("a", "d", "", "c", "", "b", ""))
	check(t, "<a =>", start("a", "=", ""))
	check(t, "<a ==>", start("a", "=", ""))
	check(t, "<a =b>", start("a", "=b", ""))
	check(t, "<a =b=c>", start("a", "=b", "c"))
	check(t, "<a ==c>", start("a", "=", "c"))
	check(t, "<a ===c>", start("a", "=", "=c"))
	check(t, "<a = c>", start("a", "=", "", "c", ""))
	check(t, "<a = =c>", start("a", "=", "c"))
	check(t, "<a/=b>", start("a", "=b", ""))
	check(t, "<a b/=c>", start("a", "b", "", "=c", ""))
	check(t, "<a b =c>", start("a", "b", "c"))
	check(t, "<a b= c>", start("a", "b", "c"))
	check(t, "<a b\t\n\f =\t\n\f c>", start("a", "b", "c"))
	check(t, "<a b \t=\n\f'c'>", start("a", "b", "c"))
	check(t, "<a b / =c>", start("a", "b", "", "=c", ""))
	check(t, "<a b =>", start("a", "b", ""))
	check(t, "<a b = >", start("a", "b", ""))
	check(t, "<a b\r=\rc>", start("a", "b\r", "\rc"))
	check(t, "<a \"b\" 'c' <d &amp;=&amp;>", start("a", "\"b\"", "", "'c'", "", "<d", "", "&amp;", "&"))
	check(t, "<a \"b=c\" '=d'>", start("a", "\"b", "c\"", "'", "d'"))
}

func TestValues(t *testing.T) { // P13.1
	for _, q := range []string{"\"", "'"} {
		other := map[string]string{"\"": "'", "'": "\""}[q]
		check(t, "<a b="+q+q+">", start("a", "b", ""))
		check(t, "<a b="+q+"c"+q+">", start("a", "b", "c"))
		check(t, "<a b="+q+other+q+">", start("a", "b", other))
		check(t, "<a b="+q+"c"+other+"d"+other+q+">", start("a", "b", "c"+other+"d"+other))
		check(t, "<a b="+q+" c>d</a><!--\t\r\n/= "+q+">e", start("a", "b", " c>d</a><!--\t\r\n/= "), words("e"))
		check(t, "<a b="+q+"c"+q+q+">", start("a", "b", "c", q, ""))
		check(t, "<a b="+q+"c"+q+"=d>", start("a", "b", "c", "=d", ""))
		check(t, "<a b= "+q+"c"+q+">", start("a", "b", "c"))
		check(t, "<a b=c"+q+"d e"+q+">", start("a", "b", "c"+q+"d", "e"+q, ""))
		check(t, "<a b=="+q+"c"+q+">", start("a", "b", "="+q+"c"+q))
	}
	check(t, "<a b=>", start("a", "b", ""))
	check(t, "<a b= >c", start("a", "b", ""), words("c"))
	check(t, "<a b>", start("a", "b", ""))
	for _, value := range []string{"c", "/c", "c/d", "//", "c\"", "c'd'", "=", "=c", "==", "c=d", "<", "<c", "</c", "\r", "\x00\xff", "A&B", "a;", "&amp", "\xc2\xa0", "--"} {
		check(t, "<a b="+value+" >", start("a", "b", value))
		check(t, "<a b="+value+" c>d", start("a", "b", value, "c", ""), words("d"))
		check(t, "<a b="+value+"\nc="+value+"\tb= 'e'>", start("a", "b", value, "c", value))
		check(t, "</a b="+value+">c", end("a"), words("c"))
		if !strings.HasSuffix(value, "/") {
			check(t, "<a b="+value+">", start("a", "b", value))
			check(t, "<a b="+value+">d", start("a", "b", value), words("d"))
		}
	}
	check(t, "<a b=c>d>", start("a", "b", "c"), words("d>"))
}

func TestValuesByByte(t *testing.T) { // P13.1
	for b := range 256 {
		c := string([]byte{byte(b)})
		if c != "'" {
			check(t, "<x n='"+c+"'>", start("x", "n", c))
			check(t, "<x n='v"+c+"w'>", start("x", "n", "v"+c+"w"))
		}
		if c != "\"" {
			check(t, "<x n=\""+c+"\">", start("x", "n", c))
		}
		switch {
		case isSpace(byte(b)):
			check(t, "<x n="+c+"v>", start("x", "n", "v"))
			check(t, "<x n=v"+c+"w>", start("x", "n", "v", "w", ""))
		case c == ">":
			check(t, "<x n=>v>", start("x", "n", ""), words("v>"))
			check(t, "<x n=v>w>", start("x", "n", "v"), words("w>"))
		default:
			check(t, "<x n=v"+c+"w>", start("x", "n", "v"+c+"w"))
			if c != "\"" && c != "'" {
				check(t, "<x n="+c+"v>", start("x", "n", c+"v"))
			}
		}
	}
}

func TestClose(t *testing.T) { // P13.1: a / right ahead of the >
	check(t, "<a/>", closed("a"))
	check(t, "<a />", closed("a"))
	check(t, "<a//>", closed("a"))
	check(t, "<a/ />", closed("a"))
	check(t, "<a\n/>b", closed("a"), words("b"))
	check(t, "<a/ >", start("a"))
	check(t, "<a / >", start("a"))
	check(t, "<a/\n>", start("a"))
	check(t, "<a /b>", start("a", "b", ""))
	check(t, "<a b/>", closed("a", "b", ""))
	check(t, "<a b />", closed("a", "b", ""))
	check(t, "<a b/ >", start("a", "b", ""))
	check(t, "<a b='c'/>", closed("a", "b", "c"))
	check(t, "<a b='c' />", closed("a", "b", "c"))
	check(t, "<a b='c'/ >", start("a", "b", "c"))
	check(t, "<a b='/'>", start("a", "b", "/"))
	check(t, "<a b=c />", closed("a", "b", "c"))
	check(t, "<a b=c/ >", start("a", "b", "c/"))
	check(t, "<a b=/c>", start("a", "b", "/c"))
	check(t, "<a b=c/>", closed("a", "b", "c/")) // it is of the value, and stands right ahead
	check(t, "<a b=/>", closed("a", "b", "/"))
	check(t, "<a b= />", closed("a", "b", "/"))
	check(t, "<a =/>", closed("a", "=", ""))
	check(t, "</a/>", end("a"))
	check(t, "</a b='c' />", end("a"))
	check(t, "<a/><b>", closed("a"), start("b"))
}

func TestNamesTwice(t *testing.T) { // P13.1: of one name the first attribute counts
	check(t, "<a b=1 b=2>", start("a", "b", "1"))
	check(t, "<a b=1 B=2>", start("a", "b", "1"))
	check(t, "<a B=1 b=2>", start("a", "b", "1"))
	check(t, "<a bC=1 d BC=2 Bc d=3 e>", start("a", "bc", "1", "d", "", "e", ""))
	check(t, "<a b b=2>", start("a", "b", ""))
	check(t, "<a b='' b=2>", start("a", "b", ""))
	check(t, "<a === ==b =c>", start("a", "=", "=", "=c", ""))
	check(t, "<a b=1><a b=2>", start("a", "b", "1"), start("a", "b", "2"))
	check(t, "<a \xc3\x89=1 \xc3\xa9=2>", start("a", "\xc3\x89", "1", "\xc3\xa9", "2"))
	check(t, "<a a=1 &=2 &amp;=3>", start("a", "a", "1", "&", "2", "&amp;", "3")) // names are not decoded
	checkStr(t, str("<a b=1 B=2>", 3, 0, 1, 1, 3, 2, 1, 3, 3, 4), api.Token{Kind: 1, Name: mark.Of("a", 0), Attrs: []api.Attr{{Name: mark.Of("b", 1), Value: mark.Of("1", 2)}}})
}

func TestTagWithoutEnd(t *testing.T) { // P13.1: it ends with the text, and is none
	whole := []string{"<a/ b c = 'd\"' e=\"f'>\"/g=h i", "</Ab/ b = c", "<script a='b", "<a == '>\""}
	for _, text := range whole {
		for n := 2; n <= len(text); n++ {
			if !tagForm.MatchString(text[:n]) {
				continue
			}
			check(t, text[:n])
			check(t, "x"+text[:n], words("x"))
			check(t, "<b>&lt;</b>"+text[:n], start("b"), words("<"), end("b"))
		}
	}
	check(t, "<a b='c>d</a>")
	check(t, "<a b=\"c'>d</a><e>")
	check(t, "<a <b <c </d <!-- <?")
	check(t, "x<a b='>' c=\">", words("x"))
	check(t, "x</>y<a </>", words("xy"), closed("a", "<", "")) // what looks like other things is of the tag
	check(t, "<a <!--b-->c", start("a", "<!--b--", ""), words("c"))
}

func TestComments(t *testing.T) { // P13.1
	check(t, "<!---->", note(""))
	check(t, "<!--a-->", note("a"))
	check(t, "a<!-- b -->c", words("a"), note(" b "), words("c"))
	check(t, "<!--a>b-c--d<e--!>f->-->g-->", note("a>b-c--d<e--!>f->"), words("g-->"))
	check(t, "<!--a--->", note("a-"))
	check(t, "<!------>", note("--"))
	check(t, "<!--->", note("->"))
	check(t, "<!-->", note(">"))
	check(t, "<!-->-->a", note(">"), words("a"))
	check(t, "<!--->-->a", note("->"), words("a"))
	check(t, "<!--->a-->b", note("->a"), words("b"))
	check(t, "<!--", note(""))
	check(t, "<!---", note("-"))
	check(t, "<!----", note("--"))
	check(t, "<!--a", note("a"))
	check(t, "<!--a--", note("a--"))
	check(t, "<!--a--><!--b--><!--c", note("a"), note("b"), note("c"))
	check(t, "<!--a<b>c</b>d", note("a<b>c</b>d"))
	check(t, "<!-- -- > -->", note(" -- > "))
	check(t, "<!-a-->b", note("-a--"), words("b"))
	check(t, "<!->a-->b", note("-"), words("a-->b"))
	check(t, "<!- -a>", note("- -a"))
	check(t, "<?--a>b-->", note("--a"), words("b-->"))
	check(t, "</--a>b-->", note("--a"), words("b-->"))
	check(t, "<!--&lt;\r\n\x00A\xff-->", note("&lt;\r\n\x00A\xff"))
}

func TestOtherComments(t *testing.T) { // P13.1
	for _, begin := range []string{"<!", "<?", "</ ", "</\n", "</1", "</!", "</?", "</-", "<//", "</<", "</\x00", "</\xff", "</=", "</@", "</[", "</`", "</{"} {
		own := begin[2:]
		check(t, begin+">", note(own))
		check(t, begin, note(own))
		check(t, begin+">a", note(own), words("a"))
		check(t, begin+"A b='>'", note(own+"A b='"), words("'"))
		check(t, begin+"a<b&lt;\r-- -c>d>", note(own+"a<b&lt;\r-- -c"), words("d>"))
		check(t, begin+"a<b c", note(own+"a<b c"))
		check(t, "a"+begin+"b><c></c>", words("a"), note(own+"b"), start("c"), end("c"))
		check(t, begin+"a>"+begin+"b>"+begin, note(own+"a"), note(own+"b"), note(own))
	}
	check(t, "<!DOCTYPE html><p>", note("DOCTYPE html"), start("p"))
	check(t, "<?xml version='1.0'?>", note("xml version='1.0'?"))
	check(t, "<![CDATA[a>b]]>", note("[CDATA[a"), words("b]]>"))
}

func TestReferences(t *testing.T) { // P13.1: what is decoded, and what is not
	check(t, "&lt;&gt;&amp;&quot;&apos;&#65;&#x41;&#X41;&nbsp;&#x80;", words("<>&\"'AAA\xc2\xa0\xe2\x82\xac"))
	check(t, "&lt;b&gt;", words("<b>")) // what is decoded begins nothing
	check(t, "&amp;lt;", words("&lt;"))
	check(t, "&lt&LT;&copy;&;", words("&lt&LT;&copy;&;"))
	check(t, "a&lt;b<c>d&gt;e", words("a<b"), start("c"), words("d>e"))
	check(t, "&am</>p;", words("&amp;")) // each piece by itself
	check(t, "&am</>p;&amp;</>lt;</>&", words("&amp;&lt;&"))
	check(t, "&</>amp;&#</>6</>5;", words("&amp;&#65;"))
	check(t, "&amp</>;", words("&amp;"))
	check(t, "&</>lt;</>&lt;", words("&lt;<"))
	check(t, "&<amp;", words("&"))
	check(t, "&< amp;", words("&< amp;"))
	check(t, "&am<1p;", words("&am<1p;"))
	check(t, "&am<!>p;", words("&am"), note(""), words("p;"))
	check(t, "&am<b>p;", words("&am"), start("b"), words("p;"))
	check(t, "<&lt;<&lt;<", words("<<<<<"))
	check(t, "&lt", words("&lt"))
	check(t, "<a b=&lt; c='&quot;&apos;' d=\"&#34;&gt;&#x3E;\" e=&amp;lt; f=&amp>", start("a", "b", "<", "c", "\"'", "d", "\">>", "e", "&lt;", "f", "&amp"))
	check(t, "<a b=&#32;c=d>", start("a", "b", " c=d"))
	check(t, "<a b=&#39;c>", start("a", "b", "'c"))
	check(t, "<a b='&am' c='p;'>", start("a", "b", "&am", "c", "p;"))
	check(t, "<a b='&a<mp;&lt;'>", start("a", "b", "&a<mp;<"))
	check(t, "<a b=&quot;c d&quot;>", start("a", "b", "\"c", "d&quot;", "")) // d&quot; is a name
	check(t, "<a&lt; b&gt;=c></a&amp;>", start("a&lt;", "b&gt;", "c"), end("a&amp;"))
	check(t, "<!--&lt;--><!&lt;><?&lt;></&lt;>", note("&lt;"), note("&lt;"), note("&lt;"), note("&lt;"))
	check(t, "<script>&lt;</script>&lt;", start("script"), words("&lt;"), end("script"), words("<"))
	check(t, "<style a=&lt;>&lt;&amp;", start("style", "a", "<"), words("&lt;&amp;"))
	checkStr(t, str("&lt;&gt;x", 1, 1, 1, 5, 2, 0, 4, 2, 1, 0), api.Token{Kind: 3, Text: str("<>x", 1, 5, 1, 2, 1, 0)})
	checkStr(t, str("&am</>p;", 3, 1, 3, 2, 2, 0), api.Token{Kind: 3, Text: str("&amp;", 3, 1, 2, 0)})
}

func TestRaw(t *testing.T) { // P13.1: behind a start tag of script or style
	for _, name := range []string{"script", "style"} {
		upper := strings.ToUpper(name)
		mixed := upper[:2] + name[2:]
		other := map[string]string{"script": "style", "style": "script"}[name]
		for _, begin := range []string{name, upper, mixed} {
			for _, last := range []string{name, upper, mixed} {
				check(t, "<"+begin+">a<b>c</"+last+">d", start(name), words("a<b>c"), end(name), words("d"))
				check(t, "<"+begin+"></"+last+">", start(name), end(name))
			}
		}
		for _, behind := range []string{">", " >", "\t>", "\n>", "\f>", "/>", " />", "/a>", " a='>'>", "\nb/ c=>"} {
			check(t, "<"+name+">a</"+name+behind+"b", start(name), words("a"), end(name), words("b"))
		}
		for _, behind := range []string{"", "\r>", "s>", "S>", "1>", "<>", "=>", "\x00>", "\xff>", "\v>", "\xc2\xa0>", "-->", "\">"} {
			check(t, "<"+name+">a</"+name+behind, start(name), words("a</"+name+behind))
			check(t, "<"+name+">a</"+name+behind+"</"+name+">", start(name), words("a</"+name+behind), end(name))
		}
		for _, inner := range []string{
			"a", " ", "<", "</", "</>", "<!--", "<!--a", "<!--</scrip>-->", "<b>", "</b>", "</b", "</" + other + ">", "<" + other + ">", "<" + name + ">", "<" + name + "/>", "</ " + name + ">", "<//" + name + ">", "< /" + name + ">",
			"</" + name[:len(name)-1] + ">", "</" + name + name + ">", "<?>", "<!>", "'", "\"</", "&lt;", "&amp;&", "\r\n\x00\xff", "A-Z", name + ">", "/" + name + ">", "<<</", "</</",
		} {
			check(t, "<"+name+">"+inner+"</"+name+">a", start(name), words(inner), end(name), words("a"))
			check(t, "<"+name+">"+inner, start(name), words(inner))
			check(t, "x<"+name+" b='>'>"+inner+"</"+upper+"\n>", words("x"), start(name, "b", ">"), words(inner), end(name))
		}
		check(t, "<"+name+">", start(name))
		check(t, "<"+name+"/>a<b></"+name+">", closed(name), words("a<b>"), end(name))
		check(t, "<"+name+" />", closed(name))
		check(t, "<"+name+" a=b/>&lt;", closed(name, "a", "b/"), words("&lt;"))
		check(t, "<"+name+">a</"+name+" ", start(name), words("a")) // its end tag does not end
		check(t, "<"+name+">a</"+name+" b='></"+name+">", start(name), words("a"))
		check(t, "</"+name+">&lt;<b>", end(name), words("<"), start("b")) // behind an end tag nothing is raw
		check(t, "<"+name+">a</"+name+">&lt;</"+name+">&gt;<b>", start(name), words("a"), end(name), words("<"), end(name), words(">"), start("b"))
		check(t, "<"+name+">a</"+name+"><"+name+">&lt;", start(name), words("a"), end(name), start(name), words("&lt;"))
		check(t, "<"+name+">a</"+other+"></"+name+"><"+other+"></"+name+"></"+other+">", start(name), words("a</"+other+">"), end(name), start(other), words("</"+name+">"), end(other))
		check(t, "<"+name+"s>&lt;<b>", start(name+"s"), words("<"), start("b"))
		check(t, "<"+name+" <b>", start(name, "<b", ""))
	}
	for _, name := range []string{"scrip", "styl", "cript", "textarea", "title", "xmp", "noscript", "p", "script\r", "scr\xc4\xb1pt", "\xc5\xbfcript", "s\xc5\xbf"} {
		if tagForm.MatchString("<" + name) {
			check(t, "<"+name+">&lt;<b>", start(name), words("<"), start("b"))
		}
	}
	check(t, "<script>a</\xc5\xbfcript></script>", start("script"), words("a</\xc5\xbfcript>"), end("script"))
}

func TestEndTags(t *testing.T) { // P13.1: they tell their name alone
	check(t, "</a b>", end("a"))
	check(t, "</A b=1 C='>' d/ >e", end("a"), words("e"))
	check(t, "</a/b/>", end("a"))
	check(t, "</a b='c", []api.Token{}...)
	check(t, "</a></a></b>", end("a"), end("a"), end("b"))
}

func TestOrigins(t *testing.T) { // P13.1: each byte told keeps its origin
	checkStr(t, str("<Ab Cd=Ef>g<!--h-->", 1, 0, 1, 1, 1, 2, 1, 9, 1, 3, 1, 4, 1, 9, 1, 5, 1, 6, 1, 9, 1, 7, 4, 9, 1, 8, 3, 9),
		api.Token{Kind: 1, Name: str("ab", 1, 1, 1, 2), Attrs: []api.Attr{{Name: str("cd", 1, 3, 1, 4), Value: str("Ef", 1, 5, 1, 6)}}},
		api.Token{Kind: 3, Text: mark.Of("g", 7)}, api.Token{Kind: 4, Text: mark.Of("h", 8)})
	checkStr(t, str("</aB>c<?d></ e>", 2, 5, 1, 1, 1, 2, 1, 5, 1, 3, 2, 5, 1, 4, 1, 5, 2, 6, 1, 7, 1, 8, 1, 9),
		api.Token{Kind: 2, Name: str("ab", 1, 1, 1, 2)}, api.Token{Kind: 3, Text: mark.Of("c", 3)},
		api.Token{Kind: 4, Text: mark.Of("d", 4)}, api.Token{Kind: 4, Text: str(" e", 1, 7, 1, 8)})
	checkStr(t, str("<script>a<b</script>", 8, 1, 1, 2, 1, 3, 1, 4, 9, 5),
		api.Token{Kind: 1, Name: mark.Of("script", 1)}, api.Token{Kind: 3, Text: str("a<b", 1, 2, 1, 3, 1, 4)}, api.Token{Kind: 2, Name: mark.Of("script", 5)})
	checkStr(t, str("<a b='&lt;c' d=\"\"e>", 6, 1, 1, 0, 1, 7, 2, 0, 1, 3, 8, 1),
		api.Token{Kind: 1, Name: mark.Of("a", 1), Attrs: []api.Attr{{Name: mark.Of("b", 1), Value: str("<c", 1, 7, 1, 3)}, {Name: mark.Of("d", 1)}, {Name: mark.Of("e", 1)}}})
	checkStr(t, str("a<b", 1, 1, 1, 2, 1, 3), api.Token{Kind: 3, Text: mark.Of("a", 1)})
	checkStr(t, str("a<1", 1, 1, 1, 2, 1, 3), api.Token{Kind: 3, Text: str("a<1", 1, 1, 1, 2, 1, 3)})
	checkStr(t, str("a</", 1, 1, 1, 2, 1, 3), api.Token{Kind: 3, Text: str("a</", 1, 1, 1, 2, 1, 3)})
	for _, origin := range []int{0, 1, top} {
		checkStr(t, mark.Of("<a b=c>d<!e></f>", origin),
			api.Token{Kind: 1, Name: mark.Of("a", origin), Attrs: []api.Attr{{Name: mark.Of("b", origin), Value: mark.Of("c", origin)}}},
			api.Token{Kind: 3, Text: mark.Of("d", origin)}, api.Token{Kind: 4, Text: mark.Of("e", origin)}, api.Token{Kind: 2, Name: mark.Of("f", origin)})
	}
	checkStr(t, api.Str{Text: "<a>b"}, api.Token{Kind: 1, Name: mark.Of("a", top)}, api.Token{Kind: 3, Text: mark.Of("b", top)})
	checkStr(t, str("<a>b", -1, 9, 2, -5, 0, 3, 1, top+1, 1, math.MaxInt), api.Token{Kind: 1, Name: mark.Of("a", 0)}, api.Token{Kind: 3, Text: mark.Of("b", top)})
	checkStr(t, str("<ab>", 2, 1, 1, 1, 9, 2), api.Token{Kind: 1, Name: mark.Of("ab", 1)})
	checkStr(t, str("<ab>c", math.MaxInt, 1, math.MaxInt, 2), api.Token{Kind: 1, Name: mark.Of("ab", 1)}, api.Token{Kind: 3, Text: mark.Of("c", 1)})
}

func TestTag(t *testing.T) { // P13.1
	checkTag(t, "<B x=1>", 7, start("b", "x", "1"))
	checkTag(t, "<a>", 3, start("a"))
	checkTag(t, "<a>b</a>", 3, start("a"))
	checkTag(t, "</a>", 4, end("a"))
	checkTag(t, "</A b='c>' / >d>", 14, end("a"))
	checkTag(t, "<a/>>", 4, closed("a"))
	checkTag(t, "<a b=c/>", 8, closed("a", "b", "c/"))
	checkTag(t, "<a b=\">\" c='>'>>", 15, start("a", "b", ">", "c", ">"))
	checkTag(t, "<a b=1 B=2 c>", 13, start("a", "b", "1", "c", ""))
	checkTag(t, "<script>a</script>", 8, start("script"))
	checkTag(t, "</STYLE\n>&lt;", 9, end("style"))
	checkTag(t, "<a<b>", 5, start("a<b"))
	checkTag(t, "<z =\x00\xff>", 7, start("z", "=\x00\xff", ""))
	checkTag(t, "<a b='&lt;&amp;'><", 17, start("a", "b", "<&"))
	checkNoTag(t, "", "a", " <a>", "a<b>", "<", "</", "<>", "</>", "< a>", "</ a>", "<!a>", "<?a>", "<!--a-->", "<1>", "</1>", "<//a>", "<<a>", "</<a>", "&lt;a>", "<\xc3\xa9>", "<@>", "<[>", "<`>", "<{>", "</@>", "</{>", "<\x00a>", "\x00<a>", ">")
	checkNoTag(t, "<a", "</a", "<a ", "<a/", "<a b", "<a b ", "<a b=", "<a b= ", "<a b=c", "<a b='c", "<a b='c>", "<a b='c'", "<a b=\"c>", "<a b=\"c' d='e>", "</a b='>", "<a <b <c", "<script", "<a =='>'")
	s := str("</Ab>c", 2, 1, 1, 2, 9, 3)
	if got, n, ok := Tag(s); !alikeToken(got, api.Token{Kind: 2, Name: str("ab", 1, 2, 1, 3)}) || n != 5 || !ok {
		t.Errorf("Tag(%v) = %v, %d, %v", s, got, n, ok)
	}
	got, n, ok := Tag(api.Str{Text: "<a b>"})
	if !alikeToken(got, api.Token{Kind: 1, Name: mark.Of("a", top), Attrs: []api.Attr{{Name: mark.Of("b", top)}}}) || n != 5 || !ok {
		t.Errorf("Tag without runs = %v, %d, %v", got, n, ok)
	}
}

func TestTagIsOfTokens(t *testing.T) { // P13.1: the first token is the tag, the others are what Tokens tells of the rest
	for _, s := range someStrs() {
		tag, n, ok := Tag(s)
		if !ok || IsRaw(tag.Name.Text) {
			continue
		}
		want := append([]api.Token{tag}, Tokens(mark.Cut(s, n, len(s.Text)))...)
		if got := Tokens(s); !alikes(got, want) {
			t.Fatalf("Tokens(%s) = %s, want %s", shown(s), shown(got), shown(want))
		}
	}
}

func TestDataOf(t *testing.T) { // P13.1
	for _, c := range []struct {
		l    []api.Token
		want api.Str
	}{
		{nil, api.Str{}}, {[]api.Token{}, api.Str{}}, {[]api.Token{{}}, api.Str{}},
		{[]api.Token{words("a")}, mark.Of("a", 0)},
		{[]api.Token{words("")}, api.Str{}},
		{[]api.Token{words("a"), words("b"), words(""), words("a")}, mark.Of("aba", 0)},
		{Tokens(mark.Of("a<b c=d>e</f>g<!--h-->i<script>j<k></script>l", 0)), mark.Of("aegij<k>l", 0)},
		{[]api.Token{{Kind: 3, Text: mark.Of("a", 1)}, {Kind: 3, Text: mark.Of("b", 1)}, {Kind: 3, Text: mark.Of("c", 2)}}, str("abc", 2, 1, 1, 2)},
		{[]api.Token{{Kind: 3, Text: api.Str{Text: "ab"}}, {Kind: 3, Text: str("cd", 1, -1, 9, top+1)}}, str("abcd", 2, top, 1, 0, 1, top)},
		{[]api.Token{{Kind: 3, Text: str("&lt;", 2, 1, 2, 2)}}, str("&lt;", 2, 1, 2, 2)}, // as it is
		{[]api.Token{{Kind: 3, Name: mark.Of("n", 0), Close: true, Attrs: start("a", "b", "c").Attrs, Text: mark.Of("t", 0)}}, mark.Of("t", 0)},
		{[]api.Token{{Kind: 3, Text: str("", 3, 3)}, {Kind: 3, Text: str("\xc3", 1, 1)}, {Kind: 4}, {Kind: 3, Text: str("\xa9\x00", 2, 1)}}, str("\xc3\xa9\x00", 3, 1)},
	} {
		if got := Data(c.l); !alike(got, c.want) {
			t.Errorf("Data(%v) = %v, want %v", c.l, got, c.want)
		}
	}
	for _, kind := range []int{0, 1, 2, 4, 5, -1, -3, 3 + 256, 3 - 1<<32, 3 + 1<<32, math.MaxInt, math.MinInt} {
		other := api.Token{Kind: kind, Name: mark.Of("n", 0), Attrs: start("a", "b", "c").Attrs, Text: mark.Of("t", 0)}
		if got := Data([]api.Token{other}); !alike(got, api.Str{}) {
			t.Errorf("Data of kind %d = %v", kind, got)
		}
		if got := Data([]api.Token{words("a"), other, words("b")}); !alike(got, mark.Of("ab", 0)) {
			t.Errorf("Data with kind %d between = %v", kind, got)
		}
	}
}

func TestIsRaw(t *testing.T) { // P13.1
	for _, name := range []string{"script", "style"} {
		if !IsRaw(name) {
			t.Errorf("IsRaw(%q) is false", name)
		}
		for i := range len(name) {
			if short := name[:i] + name[i+1:]; IsRaw(short) {
				t.Errorf("IsRaw(%q)", short)
			}
			for b := range 256 {
				c := string([]byte{byte(b)})
				for _, n := range []string{name[:i] + c + name[i+1:], name[:i] + c + name[i:], name + c} {
					if IsRaw(n) != (n == name) {
						t.Errorf("IsRaw(%q)", n)
					}
				}
			}
		}
	}
	for _, name := range []string{"", "SCRIPT", "STYLE", "Script", "Style", "scriptstyle", "script style", "stylescript", "p", "br", "title", "textarea", "noscript", " script", "script ", "\x00", "\xff", "scr\xc4\xb1pt", "<script>"} {
		if IsRaw(name) {
			t.Errorf("IsRaw(%q)", name)
		}
	}
}

func TestAgainstModel(t *testing.T) { // P13.1: all short texts of what matters
	var texts []string
	for _, c := range []struct {
		begin string
		rows  []string
	}{
		{"", rows(5, letters("<>/!-a ")...)},
		{"<!--", rows(6, letters("->a")...)},
		{"<!", rows(5, letters("->a<")...)},
		{"<a ", rows(5, letters("b=>/' B")...)},
		{"</a ", rows(3, letters("b=>/\" \r")...)},
		{"<a b=\"", rows(4, letters("\"'>/= c")...)},
		{"", rows(4, "&", "am", "p;", "&lt;", "<", "</>", "<b>", "<!>", " ")},
		{"<script>", rows(4, "</script", "</SCRIPT", "</style", "<", "/", ">", " ", "a", "&lt;")},
		{"<STYLE/>", rows(3, "</sTyle", "</style", "</script", "<", "/", ">", "\t", "\r", "&amp;")},
		{"", rows(3, "<script", "<style>", "</Style>", "</script\n", "<!--", "-->", "</", "'", "<p", ">", " x", "=\"", "\x00", "\xff")},
	} {
		for _, row := range c.rows {
			texts = append(texts, c.begin+row)
		}
	}
	for i, text := range texts {
		checkOne(t, spotted(text))
		if i%17 == 0 {
			checkOne(t, api.Str{Text: text, Runs: labels()[i%len(labels())]})
		}
	}
}

func TestAgainstModelLabelled(t *testing.T) { // P13.1, P5 of DOC.md: labelled texts of all kinds
	for _, s := range someStrs() {
		checkOne(t, s)
		checkOne(t, mark.Fix(s))
		if !alikes(Tokens(s), Tokens(mark.Fix(s))) {
			t.Fatalf("Tokens(%s) hangs on more than what is taken", shown(s))
		}
	}
}

func TestAgainstModelMixed(t *testing.T) { // P13.1: long rows of what matters, the same ones each time
	parts := []string{
		"<", ">", "/", "=", "\"", "'", " ", "\n", "\r", "-", "--", "-->", "!", "?", "a", "B", "x=y", "<a ", "<A>", "</a>", "</A", "<!--", "<!", "</>", "</", "&lt;", "&#65;", "&am", "p;", "&", ";",
		"<script>", "</script>", "<STYLE ", "</style ", "b='c'", "c=\"d'>\"", "\x00", "\xff", "\xc3\xa9", "0", "/>",
	}
	chance := rand.New(rand.NewSource(13))
	for range 20000 {
		var text strings.Builder
		for range 1 + chance.Intn(24) {
			text.WriteString(parts[chance.Intn(len(parts))])
		}
		s := api.Str{Text: text.String()}
		for range chance.Intn(9) {
			s.Runs = append(s.Runs, api.Run{Len: chance.Intn(9) - 1, Origin: chance.Intn(4)})
		}
		checkOne(t, s)
	}
}

func TestWhatIsToldIsAsTold(t *testing.T) { // P13.1, P4 and P5 of DOC.md: fields that are not named are zero, texts as told
	for _, s := range someStrs() {
		for i, one := range Tokens(s) {
			for _, x := range strs([]api.Token{one}) {
				if mark.Check(x) != api.OK {
					t.Fatalf("of %s: %v is not as told", shown(s), x)
				}
			}
			ok := false
			switch one.Kind {
			case 1:
				ok = one.Name.Text != "" && alike(one.Text, api.Str{})
			case 2:
				ok = one.Name.Text != "" && len(one.Attrs) == 0 && !one.Close && alike(one.Text, api.Str{})
			case 3:
				ok = one.Text.Text != "" && alike(one.Name, api.Str{}) && len(one.Attrs) == 0 && !one.Close
			case 4:
				ok = alike(one.Name, api.Str{}) && len(one.Attrs) == 0 && !one.Close
			}
			if !ok {
				t.Fatalf("of %s: the %d-th token is %v", shown(s), i, one)
			}
		}
	}
}

// stretch is memory. It keeps what it tells of: memory given back could be given to another
// answer ahead of the comparison.
type stretch struct {
	kept unsafe.Pointer
	size uintptr
}

func (s stretch) from() uintptr { return uintptr(s.kept) }
func (s stretch) to() uintptr   { return s.from() + s.size }

func stretchOf[T any](l []T) stretch {
	var one T
	return stretch{unsafe.Pointer(unsafe.SliceData(l)), uintptr(cap(l)) * unsafe.Sizeof(one)}
}

// stretches tells all memory of a list of tokens.
func stretches(l []api.Token) []stretch {
	out := []stretch{stretchOf(l)}
	for _, t := range l {
		out = append(out, stretchOf(t.Attrs))
	}
	for _, s := range strs(l) {
		out = append(out, stretchesOf(s)...)
	}
	return slices.DeleteFunc(out, func(s stretch) bool { return s.size == 0 })
}

// stretchesOf tells the memory of a labelled text.
func stretchesOf(s api.Str) []stretch {
	return []stretch{stretchOf(s.Runs), {unsafe.Pointer(unsafe.StringData(s.Text)), uintptr(len(s.Text))}}
}

// strs tells all labelled texts of a list.
func strs(l []api.Token) []api.Str {
	var out []api.Str
	for _, t := range l {
		out = append(out, t.Name, t.Text)
		for _, a := range t.Attrs {
			out = append(out, a.Name, a.Value)
		}
	}
	return out
}

// apart tells whether no two stretches have memory in common.
func apart(l []stretch) bool {
	slices.SortFunc(l, func(a, b stretch) int { return cmp.Compare(a.from(), b.from()) })
	for i := 1; i < len(l); i++ {
		if l[i].from() < l[i-1].to() {
			return false
		}
	}
	return true
}

// meets tells whether a stretch of the one has memory in common with one of the other.
func meets(a, b []stretch) bool {
	return slices.ContainsFunc(a, func(x stretch) bool {
		return slices.ContainsFunc(b, func(y stretch) bool { return x.from() < y.to() && y.from() < x.to() })
	})
}

// answers asks Tokens and Tag of a text, and Data of a list: what Data tells comes as a token.
func answers(s api.Str, l []api.Token) [][]api.Token {
	tag, _, _ := Tag(s)
	return [][]api.Token{Tokens(s), {tag}, {{Kind: 3, Text: Data(l)}}}
}

// memoryStrs are texts of which each call has something to tell, some of one part alone, some
// with a part that stands in them more than once.
func memoryStrs() []api.Str {
	return append(someStrs(),
		mark.Of("one text alone", 0), mark.Of("&lt;", 3), mark.Of("<!--one comment alone-->", 1), mark.Of("<script>one text alone", 2), mark.Of("x", 1),
		mark.Of("<part a=b c='d' a=e>ab</part><part a=b c='d' a=e>ab</part>", 2), spotted("<part a=b c='d' a=e>ab</part><part a=b c='d' a=e>ab</part>"),
		mark.Of("ab</>ab</>ab<!--ab--><!ab><?ab></ab x><ab x>", 1), spotted("<name name=name name2=name>name<!name>"),
	)
}

func clone(s api.Str) api.Str {
	return api.Str{Text: strings.Clone(s.Text), Runs: slices.Clone(s.Runs)}
}

// clones tells a copy of all of a list, runs as they are.
func clones(l []api.Token) []api.Token {
	var out []api.Token
	for _, t := range l {
		n := api.Token{Kind: t.Kind, Name: clone(t.Name), Close: t.Close, Text: clone(t.Text)}
		for _, a := range t.Attrs {
			n.Attrs = append(n.Attrs, api.Attr{Name: clone(a.Name), Value: clone(a.Value)})
		}
		out = append(out, n)
	}
	return out
}

func alikeAnswers(a, b [][]api.Token) bool {
	return slices.EqualFunc(a, b, alikes)
}

func TestAnswersAreNewMemory(t *testing.T) { // P13.2
	for _, s := range memoryStrs() {
		l := Tokens(clone(s))
		var got []stretch
		for _, answer := range append(answers(s, l), answers(s, l)...) {
			got = append(got, stretches(answer)...)
		}
		if meets(got, append(stretchesOf(s), stretches(l)...)) {
			t.Fatalf("answers to %s share memory with what was handed in", shown(s))
		}
		if !apart(got) {
			t.Fatalf("answers to %s share memory with one another, or within one", shown(s))
		}
	}
}

func TestAnswersWrittenOver(t *testing.T) { // P13.2
	over := func(s api.Str) {
		runs := s.Runs[:cap(s.Runs)]
		for i := range runs {
			runs[i] = api.Run{Len: -9, Origin: -9}
		}
	}
	for _, s := range memoryStrs() {
		l := Tokens(clone(s))
		before, beforeList, want := clone(s), clones(l), answers(clone(s), clones(l))
		again := answers(s, l)
		for _, answer := range answers(s, l) {
			for i, one := range answer {
				over(one.Name)
				over(one.Text)
				for j, a := range one.Attrs {
					over(a.Name)
					over(a.Value)
					one.Attrs[j] = api.Attr{}
				}
				answer[i] = api.Token{Kind: -9}
			}
		}
		if !alike(s, before) || !alikes(l, beforeList) {
			t.Fatalf("answers written over change what was handed in: %s", shown(before))
		}
		if !alikeAnswers(again, want) || !alikeAnswers(answers(s, l), want) {
			t.Fatalf("answers written over change other answers to %s", shown(s))
		}
	}
}

func TestArgumentsAreNotChanged(t *testing.T) { // P13.2
	for _, s := range memoryStrs() {
		l := Tokens(clone(s))
		before, beforeList := clone(s), clones(l)
		answers(s, l)
		if !alike(s, before) || !alikes(l, beforeList) {
			t.Fatalf("from %s to %s", shown(before), shown(s))
		}
	}
	runs := []api.Run{{Len: 1, Origin: 1}, {Len: 1, Origin: 2}, {Len: 1, Origin: 3}} // an append in place would write behind what is handed in
	list := []api.Token{words("a"), words("b"), note("c"), words("d")}
	want := clones(list)
	for _, text := range []string{"abc", "<a>", "</a>", "<!a>", "a<b c=d>e", "<script>abc", "a</>b"} {
		for n := range len(runs) {
			answers(api.Str{Text: text, Runs: runs[:n]}, list[:n])
			Data([]api.Token{{Kind: 3, Text: api.Str{Text: text, Runs: runs[:n]}}, words("x")})
		}
	}
	if !slices.Equal(runs, []api.Run{{Len: 1, Origin: 1}, {Len: 1, Origin: 2}, {Len: 1, Origin: 3}}) {
		t.Errorf("memory behind the runs changed: %v", runs)
	}
	if !alikes(list, want) {
		t.Errorf("memory behind the list changed: %v", list)
	}
}

func TestNothingIsKept(t *testing.T) { // P13.2, and P3 of DOC.md
	runs := []api.Run{{Len: 18, Origin: 1}}
	s := api.Str{Text: "<a b=c>d<!--e--></", Runs: runs}
	l := []api.Token{{Kind: 3, Text: s}}
	got := answers(s, l)
	runs[0].Origin = 9 // what was handed in is changed afterwards
	l[0] = note("x")
	tag := api.Token{Kind: 1, Name: mark.Of("a", 1), Attrs: []api.Attr{{Name: mark.Of("b", 1), Value: mark.Of("c", 1)}}}
	want := [][]api.Token{
		{tag, {Kind: 3, Text: mark.Of("d", 1)}, {Kind: 4, Text: mark.Of("e", 1)}, {Kind: 3, Text: mark.Of("</", 1)}},
		{tag}, {{Kind: 3, Text: mark.Of(s.Text, 1)}},
	}
	if !alikeAnswers(got, want) {
		t.Errorf("answers changed to %v", got)
	}
	for _, s := range memoryStrs() {
		l := Tokens(s)
		first := answers(s, l)
		answers(mark.Of("<script a=b>x<!--", 1), l)
		Tag(mark.Of("<a b='", 2))
		if !alikeAnswers(first, answers(s, l)) {
			t.Fatalf("answers to %s differ", shown(s))
		}
	}
}

// many tells a text of n parts, by their numbers.
func many(n int, part func(i int) string) string {
	var out strings.Builder
	for i := range n {
		out.WriteString(part(i))
	}
	return out.String()
}

// checkCount asks of a long text how many tokens it has, and Data of them.
func checkCount(t *testing.T, text string, want int, data int) {
	t.Helper()
	for _, s := range []api.Str{mark.Of(text, 1), spotted(text), {Text: text}} {
		got := Tokens(s)
		if len(got) != want {
			t.Errorf("%s has %d tokens, want %d", shown(text), len(got), want)
		}
		if d := Data(got); len(d.Text) != data {
			t.Errorf("%s has %d bytes of data, want %d", shown(text), len(d.Text), data)
		}
		Tag(s)
	}
}

func TestLongTexts(t *testing.T) { // P1 of DOC.md: an end within bearable time
	const n = 1 << 15
	same := func(part string) string { return strings.Repeat(part, n) }
	checkCount(t, same("<a b=c>d</a>"), 3*n, n)
	checkCount(t, same("<b>"), n, 0)
	checkCount(t, same("x"), 1, n)
	checkCount(t, same("<"), 1, n)
	checkCount(t, same("</>x"), 1, n)
	checkCount(t, same("</>"), 0, 0)
	checkCount(t, same("< &amp;"), 1, 3*n)
	checkCount(t, same("&"), 1, n)
	checkCount(t, same("<!-- "), 1, 0)
	checkCount(t, same("<!--a-->"), n, 0)
	checkCount(t, same("<!"), 1, 0)
	checkCount(t, same("<?>"), n, 0)
	checkCount(t, same("</ "), 1, 0)
	checkCount(t, same("<a "), 0, 0)
	checkCount(t, same("<a b='"), 0, 0)
	checkCount(t, same("<a b=\"'>"), n/2, 0)
	checkCount(t, same("<a b=\">"), n/2, 0)
	checkCount(t, same("</a b='"), 0, 0)
	checkCount(t, "<script>"+same("</script"), 2, 8*n)
	checkCount(t, "<script>"+same("</"), 2, 2*n)
	checkCount(t, "<style>"+same("</STYL"), 2, 6*n)
	checkCount(t, same("<script>"), 2, 8*(n-1))
	checkCount(t, same("<style>x</style>"), 3*n, n)
	checkCount(t, "<a"+same(" b=c")+">", 1, 0)
	checkCount(t, "<a"+same("/")+">", 1, 0)
	checkCount(t, "<a"+same(" =")+">", 1, 0)
	checkCount(t, "<a"+same(" b"), 0, 0)
	checkCount(t, "<"+same("a")+" "+same("b")+"="+same("c")+">", 1, 0)
	unlike := "<a" + many(n, func(i int) string { return " n" + strconv.Itoa(i) + "=" + strconv.Itoa(i) }) + ">"
	checkCount(t, unlike, 1, 0)
	if tag, size, ok := Tag(spotted(unlike)); len(tag.Attrs) != n || size != len(unlike) || !ok {
		t.Errorf("Tag tells %d attributes, %d bytes, %v", len(tag.Attrs), size, ok)
	}
	long := mark.Of(strings.Repeat("x", 1<<24), 1)
	if got := Tokens(long); len(got) != 1 || !alike(got[0].Text, long) {
		t.Errorf("of a long text %d tokens are told", len(got))
	}
}

func TestManyTokensAsData(t *testing.T) { // P1 of DOC.md
	l := slices.Repeat([]api.Token{words("a"), note("b"), {Kind: 3, Text: mark.Of("c", 1)}, {}}, 1<<16)
	if got := Data(l); len(got.Text) != 1<<17 || len(got.Runs) != 1<<17 {
		t.Errorf("Data has %d bytes, %d runs", len(got.Text), len(got.Runs))
	}
}
