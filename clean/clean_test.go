package clean

import (
	"cmp"
	"math"
	"slices"
	"strconv"
	"strings"
	"sync"
	"testing"
	"unsafe"

	"glazier/api"
	"glazier/mark"
	"glazier/reader"
	"glazier/serial"
	"glazier/tree"
	"glazier/utf"
)

const top = api.MaxOrigin

// The rows of the chapters, each name with a blank ahead and behind.
const (
	tagRow     = " div span p a ul li b i em strong h1 h2 br hr img script style "
	attrRow    = " class id title alt name "
	addressRow = " href src "
	handlerRow = " onclick oninput onkey "
	rawRow     = " script style "
	voidRow    = " br hr img "
	schemeRow  = " http https mailto "
)

// str writes a labelled text: lens and origins by turns.
func str(text string, pairs ...int) api.Str {
	s := api.Str{Text: text}
	for i := 0; i+1 < len(pairs); i += 2 {
		s.Runs = append(s.Runs, api.Run{Len: pairs[i], Origin: pairs[i+1]})
	}
	return s
}

// The views of the tests.

func views(l ...api.View) []api.View {
	return l
}

// text writes words, all of them of one origin.
func text(s string, origin int) api.View {
	return api.View{Kind: api.Words, Text: mark.Of(s, origin)}
}

// word writes trusted words.
func word(s string) api.View {
	return text(s, 0)
}

// labelled writes words of a labelled text.
func labelled(s api.Str) api.View {
	return api.View{Kind: api.Words, Text: s}
}

// el writes an element, its tag trusted.
func el(tag string, kids ...api.View) api.View {
	return api.View{Kind: api.Element, Tag: mark.Of(tag, 0), Kids: kids}
}

// tagged writes an element of a labelled tag.
func tagged(tag api.Str) api.View {
	return api.View{Kind: api.Element, Tag: tag}
}

// with writes an element without kids, its tag trusted.
func with(tag string, l ...api.Attr) api.View {
	return api.View{Kind: api.Element, Tag: mark.Of(tag, 0), Attrs: l}
}

// slot writes a slot.
func slot(n int) api.View {
	return api.View{Kind: api.Slot, Slot: n}
}

// keyed writes a view with a key.
func keyed(key string, v api.View) api.View {
	v.Key = key
	return v
}

// full writes a view of a kind that has something in every field.
func full(kind int) api.View {
	return api.View{
		Kind: kind, Tag: mark.Of("div", 0), Key: "key", Slot: 2, Text: mark.Of("text", 0),
		Attrs: []api.Attr{pair("id", "one")},
		Hooks: []api.Hook{{Event: 1, Name: 1}},
		Kids:  views(word("kid")),
	}
}

// pair writes an attribute, all of it trusted.
func pair(name, value string) api.Attr {
	return dyed(name, 0, value, 0)
}

// dyed writes an attribute, its name and its value of one origin each.
func dyed(name string, nameOrigin int, value string, valueOrigin int) api.Attr {
	return api.Attr{Name: mark.Of(name, nameOrigin), Value: mark.Of(value, valueOrigin)}
}

// valued writes an attribute with a trusted name and a labelled value.
func valued(name string, value api.Str) api.Attr {
	return api.Attr{Name: mark.Of(name, 0), Value: value}
}

// alike holds two texts against each other field by field.
func alike(a, b api.Str) bool {
	return a.Text == b.Text && slices.Equal(a.Runs, b.Runs)
}

func alikeAttr(a, b api.Attr) bool {
	return alike(a.Name, b.Name) && alike(a.Value, b.Value)
}

func alikeAttrs(a, b []api.Attr) bool {
	return slices.EqualFunc(a, b, alikeAttr)
}

// alikeViews holds two lists against each other field by field, whatever their kind.
func alikeViews(a, b []api.View) bool {
	return slices.EqualFunc(a, b, func(x, y api.View) bool {
		return x.Kind == y.Kind && alike(x.Tag, y.Tag) && x.Key == y.Key && alikeAttrs(x.Attrs, y.Attrs) && slices.Equal(x.Hooks, y.Hooks) && alikeViews(x.Kids, y.Kids) && alike(x.Text, y.Text) && x.Slot == y.Slot
	})
}

// alikeTrees holds two lists against each other field by field, whatever is an element.
func alikeTrees(a, b []api.Tree) bool {
	return slices.EqualFunc(a, b, func(x, y api.Tree) bool {
		return alike(x.Tag, y.Tag) && alikeAttrs(x.Attrs, y.Attrs) && alike(x.Text, y.Text) && alikeTrees(x.Kids, y.Kids)
	})
}

// The models of the tests go along texts sign by sign.

// sign is a byte with its origin.
type sign struct {
	b      byte
	origin int
}

// signs tells the bytes of s with their origins, as chapter 1 takes them.
func signs(s api.Str) []sign {
	var out []sign
	for _, r := range s.Runs {
		for n := 0; n < r.Len && len(out) < len(s.Text); n++ {
			out = append(out, sign{s.Text[len(out)], min(max(r.Origin, 0), top)})
		}
	}
	for len(out) < len(s.Text) {
		out = append(out, sign{s.Text[len(out)], top})
	}
	return out
}

// joined tells the one labelled text of these signs that is as told.
func joined(l []sign) api.Str {
	var s api.Str
	var text []byte
	for i, c := range l {
		text = append(text, c.b)
		if i == 0 || l[i-1].origin != c.origin {
			s.Runs = append(s.Runs, api.Run{Origin: c.origin})
		}
		s.Runs[len(s.Runs)-1].Len++
	}
	s.Text = string(text)
	return s
}

// bytesOf tells the bytes of signs.
func bytesOf(l []sign) string {
	return joined(l).Text
}

// pure tells whether no byte of these is not trusted.
func pure(l []sign) bool {
	return !slices.ContainsFunc(l, func(c sign) bool { return c.origin != 0 })
}

// in tells whether a name stands in a row.
func in(row, name string) bool {
	return name != "" && !strings.Contains(name, " ") && strings.Contains(row, " "+name+" ")
}

// modelLower tells l with small letters.
func modelLower(l []sign) []sign {
	out := slices.Clone(l)
	for i, c := range out {
		if c.b >= 'A' && c.b <= 'Z' {
			out[i].b += 32
		}
	}
	return out
}

// modelRepair tells l as chapter 2 repairs it, part by part.
func modelRepair(l []sign) []sign {
	var out []sign
	for len(l) > 0 {
		n, right := utf.Next(bytesOf(l))
		if right && l[0].b != 0 {
			out = append(out, l[:n]...)
		} else {
			worst := 0
			for _, c := range l[:n] {
				worst = max(worst, c.origin)
			}
			out = append(out, sign{0xEF, worst}, sign{0xBF, worst}, sign{0xBD, worst})
		}
		l = l[n:]
	}
	return out
}

// modelReady tells l, an address, as chapter 6 makes it ready.
func modelReady(l []sign) []sign {
	for len(l) > 0 && l[0].b <= 32 {
		l = l[1:]
	}
	for len(l) > 0 && l[len(l)-1].b <= 32 {
		l = l[:len(l)-1]
	}
	return slices.DeleteFunc(slices.Clone(l), func(c sign) bool { return c.b == 9 || c.b == 10 || c.b == 13 })
}

// modelSafe tells whether l, an address that is ready, may be, as chapter 7 has it.
func modelSafe(l []sign) bool {
	const letters = "abcdefghijklmnopqrstuvwxyz"
	l = modelLower(l)
	name, _, ok := strings.Cut(bytesOf(l), ":")
	if !ok || name == "" || !strings.Contains(letters, name[:1]) || strings.Trim(name, letters+"0123456789+-.") != "" {
		return true
	}
	for i := range len(name) { // Trim looks at both ends alone
		if !strings.Contains(letters+"0123456789+-.", name[i:i+1]) {
			return true
		}
	}
	return in(schemeRow, name) && pure(l[:len(name)+1])
}

// modelAttrs tells the attributes that are left.
func modelAttrs(l []api.Attr) []api.Attr {
	var out []api.Attr
	met := " "
	for _, a := range l {
		name, value := modelLower(signs(a.Name)), modelRepair(signs(a.Value))
		n := bytesOf(name)
		if in(addressRow, n) {
			value = modelReady(value)
		}
		may := in(attrRow, n) || in(addressRow, n) && modelSafe(value) || in(handlerRow, n) && pure(value)
		if may && pure(name) && !in(met, n) {
			met += n + " "
			out = append(out, api.Attr{Name: joined(name), Value: joined(value)})
		}
	}
	return out
}

// modelViews tells what is left of views.
func modelViews(l []api.View) []api.View {
	var out []api.View
	for _, v := range l {
		n := api.View{Kind: v.Kind, Key: v.Key}
		switch {
		case v.Kind == 2 && len(v.Text.Text) > 0:
			n.Text = joined(modelRepair(signs(v.Text)))
		case v.Kind == 3 && (v.Slot == 1 || v.Slot == 2 || v.Slot == 3):
			n.Slot = v.Slot
		case v.Kind == 1 && in(tagRow, strings.ToLower(v.Tag.Text)) && pure(signs(v.Tag)):
			n.Tag = joined(modelLower(signs(v.Tag)))
			n.Attrs = modelAttrs(v.Attrs)
			for _, h := range v.Hooks {
				if slices.Contains([]int{1, 2, 3, 4, 5, 6, 7, 8}, h.Event) && h.Name > -1 {
					n.Hooks = append(n.Hooks, h)
				}
			}
			if !in(voidRow, n.Tag.Text) {
				n.Kids = modelViews(v.Kids)
			}
			if in(rawRow, n.Tag.Text) && !modelHarmless(n) {
				continue
			}
		default:
			continue
		}
		out = append(out, n)
	}
	return out
}

// modelHarmless tells whether what is left of a script or style may stay.
func modelHarmless(v api.View) bool {
	for _, kid := range v.Kids {
		if kid.Kind != 2 || !pure(signs(kid.Text)) || strings.Contains(kid.Text.Text, "<") || strings.Contains(kid.Text.Text, "\r") {
			return false
		}
	}
	for _, a := range v.Attrs {
		if !pure(signs(a.Value)) {
			return false
		}
	}
	return true
}

// modelTree tells views as trees.
func modelTree(l []api.View) []api.Tree {
	var out []api.Tree
	for _, v := range l {
		var n api.Tree
		switch v.Kind {
		case 1:
			n.Tag = joined(signs(v.Tag))
			for i, a := range v.Attrs {
				if !slices.ContainsFunc(v.Attrs[:i], func(b api.Attr) bool { return a.Name.Text == b.Name.Text }) {
					n.Attrs = append(n.Attrs, api.Attr{Name: joined(signs(a.Name)), Value: joined(signs(a.Value))})
				}
			}
			n.Kids = modelTree(v.Kids)
		case 2:
			n.Text = joined(signs(v.Text))
		case 3:
			n.Tag = str("div", 3, 0)
		default:
			continue
		}
		out = append(out, n)
	}
	return out
}

// The checks: each holds a call's answer against what is wanted.

// checkViews asks Views of the list, and View of each of it.
func checkViews(t *testing.T, l, want []api.View) {
	t.Helper()
	if got := Views(l); !alikeViews(got, want) {
		t.Errorf("Views(%v) = %v, want %v", l, got, want)
	}
	var each []api.View
	for _, v := range l {
		one := View(v)
		if len(one) > 1 {
			t.Errorf("View(%v) tells %d views", v, len(one))
		}
		each = append(each, one...)
	}
	if !alikeViews(each, want) {
		t.Errorf("View of each of %v: %v, want %v", l, each, want)
	}
}

// checkView wants that of v one view is left: want.
func checkView(t *testing.T, v, want api.View) {
	t.Helper()
	checkViews(t, views(v), views(want))
}

// checkNothing wants that nothing is left of v.
func checkNothing(t *testing.T, v api.View) {
	t.Helper()
	checkViews(t, views(v), nil)
}

func checkAttrs(t *testing.T, l, want []api.Attr) {
	t.Helper()
	if got := Attrs(l); !alikeAttrs(got, want) {
		t.Errorf("Attrs(%v) = %v, want %v", l, got, want)
	}
	checkView(t, with("p", l...), with("p", want...)) // as an element has them
}

func checkTree(t *testing.T, l []api.View, want ...api.Tree) {
	t.Helper()
	if got := Tree(l); !alikeTrees(got, want) {
		t.Errorf("Tree(%v) = %v, want %v", l, got, want)
	}
}

// checkOne holds all calls, asked of l and of its attributes, against the models.
func checkOne(t *testing.T, l []api.View) {
	t.Helper()
	checkViews(t, l, modelViews(l))
	checkTree(t, l, modelTree(l)...)
	for _, v := range l {
		if got := Attrs(v.Attrs); !alikeAttrs(got, modelAttrs(v.Attrs)) {
			t.Errorf("Attrs(%v) = %v", v.Attrs, got)
		}
	}
}

// The views of all kinds, told by turns.

// draws tells a function that tells numbers from 0, below n, the same ones each time.
func draws(seed uint64) func(n int) int {
	return func(n int) int {
		seed = seed*6364136223846793005 + 1442695040888963407
		return int(seed >> 33 % uint64(n))
	}
}

// pick tells one of the list.
func pick[T any](draw func(n int) int, l ...T) T {
	return l[draw(len(l))]
}

// drawStr tells one of the texts, of origins of all kinds, mostly trusted.
func drawStr(draw func(n int) int, texts ...string) api.Str {
	s := str(pick(draw, texts...))
	n := len(s.Text)
	switch draw(12) {
	case 0:
		s.Runs = []api.Run{{Len: n, Origin: 1 + draw(2)}}
	case 1:
		s.Runs = []api.Run{{Len: draw(n + 1), Origin: 0}, {Len: n, Origin: 1}}
	case 2:
		s.Runs = []api.Run{{Len: draw(n + 1), Origin: 1}, {Len: n, Origin: 0}}
	case 3: // not as told: no runs
	case 4: // not as told, yet trusted
		s.Runs = []api.Run{{Len: -1, Origin: 5}, {Len: 1, Origin: -2}, {Len: math.MaxInt, Origin: 0}, {Len: math.MaxInt, Origin: 9}}
	case 5: // not as told: too short, too great origins
		s.Runs = []api.Run{{Len: draw(n + 1), Origin: 0}, {Len: 1, Origin: math.MaxInt}}
	default:
		s.Runs = []api.Run{{Len: n, Origin: 0}}
	}
	return s
}

func drawAttrs(draw func(n int) int) []api.Attr {
	var out []api.Attr
	for range draw(5) {
		name := drawStr(draw, "class", "id", "TITLE", "alt", "name", "href", "HRef", "src", "onclick", "oninput", "OnKey", "style", "onload", "", "hre", "class ")
		value := drawStr(draw, "", "x", "\x00", "a\xff<\"", "/a?b#c", "https://x/", " HTTPS:y\n", "ht\ttp:z", "javascript:x", "\x00javascript:x", " java\nscript:x ", "mailto:", ":x", "1a:x", "a/b:c", "data:x", "\r \t", "http\xc3:x")
		out = append(out, api.Attr{Name: name, Value: value})
	}
	return out
}

func drawViews(draw func(n int) int, depth int) []api.View {
	var out []api.View
	for range draw(4) {
		v := api.View{Kind: pick(draw, 0, 1, 1, 1, 1, 1, 1, 2, 2, 2, 3, 3, 4, -1, 2+1<<32), Slot: pick(draw, -1, 0, 1, 2, 3, 4), Key: pick(draw, "", "", "k", "\x00\xff")}
		v.Tag = drawStr(draw, "div", "P", "span", "script", "Script", "style", "style", "br", "IMG", "iframe", "", "h1", "h3", "a\x00")
		v.Text = drawStr(draw, "", "x", "<", "a\rb", "\xe2\x82A", "\x00", "x > y", "e\xcc\x81")
		v.Attrs = drawAttrs(draw)
		for range draw(3) {
			v.Hooks = append(v.Hooks, api.Hook{Event: draw(10), Capture: draw(2) == 0, Name: pick(draw, -1, 0, 1, math.MaxInt, math.MinInt)})
		}
		if depth > 0 {
			v.Kids = drawViews(draw, depth-1)
		}
		out = append(out, v)
	}
	return out
}

// strangeLists tells n lists of views of all kinds.
func strangeLists(n int) [][]api.View {
	out := [][]api.View{nil, {}, {{}}, {full(0), full(1), full(2), full(3), full(4)}}
	draw := draws(17)
	for range n {
		out = append(out, drawViews(draw, 4))
	}
	return out
}

func TestExample(t *testing.T) { // P17.1: the chapter's example
	checkNothing(t, el("script", text("alert(1)", 1)))
}

func TestNothing(t *testing.T) { // P17.1
	checkViews(t, nil, nil)
	checkViews(t, []api.View{}, nil)
	checkNothing(t, api.View{})
	checkAttrs(t, nil, nil)
	checkAttrs(t, []api.Attr{}, nil)
	checkAttrs(t, []api.Attr{{}}, nil)
	checkTree(t, nil)
	checkTree(t, []api.View{})
	checkTree(t, views(api.View{}, api.View{}))
}

func TestKinds(t *testing.T) { // P17.1: of each kind what its words say, of others nothing
	checkView(t, full(1), api.View{Kind: 1, Tag: mark.Of("div", 0), Key: "key", Attrs: []api.Attr{pair("id", "one")}, Hooks: []api.Hook{{Event: 1, Name: 1}}, Kids: views(word("kid"))})
	checkView(t, full(2), api.View{Kind: 2, Key: "key", Text: mark.Of("text", 0)})
	checkView(t, full(3), api.View{Kind: 3, Key: "key", Slot: 2})
	for _, kind := range []int{0, -1, -2, -3, 4, 5, 257, 1 << 32, 1<<32 + 1, math.MaxInt, math.MinInt} {
		checkNothing(t, full(kind))
		checkTree(t, views(full(kind)))
		checkView(t, el("p", full(kind), word("x")), el("p", word("x"))) // nor within an element
	}
	checkViews(t, views(full(0), full(2), full(9), full(3), full(-1)), views(keyed("key", word("text")), keyed("key", slot(2))))
}

func TestWords(t *testing.T) { // P17.1
	for _, s := range []api.Str{
		str("ab", 2, 0), str("ab", 2, 1), str("ab", 1, 0, 1, top), str(" ", 1, 0), str("\r\n\t", 3, 2), str("<script>", 8, 1), str("&amp;\"", 6, 0), str("\xc3\xa9", 2, 5), str("\xc3\xa9", 1, 0, 1, 1),
	} {
		checkView(t, labelled(s), labelled(s))
		checkView(t, keyed("k", labelled(s)), keyed("k", labelled(s)))
		checkView(t, el("p", labelled(s)), el("p", labelled(s)))
	}
	const wrong = "\xef\xbf\xbd"
	for _, c := range [][2]api.Str{
		{str("\x00", 1, 0), str(wrong, 3, 0)}, // repaired
		{str("\xff", 1, 7), str(wrong, 3, 7)},
		{str("\xe2\x82A", 1, 1, 1, 3, 1, 0), str(wrong+"A", 3, 3, 1, 0)},
		{str("a\xc0\x80b", 4, 0), str("a"+wrong+wrong+"b", 8, 0)},
		{str("\xed\xa0\x80", 3, 1), str(wrong+wrong+wrong, 9, 1)},
		{str("ab"), str("ab", 2, top)}, // not as told
		{str("ab", 1, 0), str("ab", 1, 0, 1, top)},
		{str("ab", 9, -9), str("ab", 2, 0)},
		{str("ab", 1, 4, -1, 3, 1, 4), str("ab", 2, 4)},
		{str("ab", math.MaxInt, math.MaxInt), str("ab", 2, top)},
	} {
		checkView(t, labelled(c[0]), labelled(c[1]))
	}
	for _, s := range []api.Str{{}, str("", 1, 1), str("", -1, -1), {Runs: []api.Run{}}} { // no bytes
		checkNothing(t, labelled(s))
		checkNothing(t, keyed("k", labelled(s)))
	}
}

func TestSlots(t *testing.T) { // P17.1
	for n := 1; n <= 3; n++ {
		checkView(t, slot(n), slot(n))
		checkView(t, keyed("k", slot(n)), keyed("k", slot(n)))
	}
	for _, n := range []int{0, -1, -2, -3, 4, 5, 255, 257, 1<<32 + 1, math.MaxInt, math.MinInt} {
		checkNothing(t, slot(n))
		checkNothing(t, keyed("k", slot(n)))
		checkView(t, el("p", slot(n), slot(1)), el("p", slot(1)))
	}
	checkViews(t, views(slot(1), slot(1), slot(3)), views(slot(1), slot(1), slot(3))) // no slot keeps another out
}

func TestTags(t *testing.T) { // P17.1
	for _, tag := range strings.Fields(tagRow) {
		upper := strings.ToUpper(tag)
		for _, name := range []string{tag, upper, upper[:1] + tag[1:], tag[:len(tag)-1] + upper[len(upper)-1:]} {
			checkView(t, el(name), el(tag))
			for _, origin := range []int{1, 2, top, math.MaxInt} {
				checkNothing(t, tagged(mark.Of(name, origin)))
			}
			for at := range len(name) { // one byte that is not trusted
				checkNothing(t, tagged(str(name, at, 0, 1, 1, len(name)-at-1, 0)))
			}
			checkNothing(t, tagged(str(name))) // not as told, and so not trusted
			checkNothing(t, tagged(str(name, len(name)-1, 0)))
			checkView(t, tagged(str(name, len(name), -1)), el(tag)) // not as told, yet trusted
			checkView(t, tagged(str(name, -1, 1, math.MaxInt, 0, 1, 1)), el(tag))
			for _, other := range []string{" " + name, name + " ", name + "\x00", name + "/", "/" + name, name[1:] + ">", name + name, name + "x", "\xff" + name} {
				checkNothing(t, el(other))
			}
		}
	}
	for _, tag := range []string{"", " ", "iframe", "IFRAME", "object", "svg", "body", "h", "h0", "h3", "d\xc4\xb1v", "scr\xc4\xb1pt", "\xc5\xbftyle", "-", "div,p", "div span", "\x00", "href"} {
		checkNothing(t, el(tag))
		checkNothing(t, api.View{Kind: 1, Tag: mark.Of(tag, 0), Key: "k", Kids: views(word("kid"))})
		checkView(t, el("p", word("a"), el(tag, word("kid")), word("b")), el("p", word("a"), word("b"))) // its kids go too
	}
}

func TestKeysAndKids(t *testing.T) { // P17.1
	for _, key := range []string{"", "k", " K ", "\x00", "\xff\xfe", "<\">", strings.Repeat("k", 99)} { // a key stays as it is
		checkViews(t, views(keyed(key, el("p")), keyed(key, word("x")), keyed(key, slot(3))), views(keyed(key, el("p")), keyed(key, word("x")), keyed(key, slot(3))))
	}
	for _, c := range [][2]api.View{
		{el("p", word("a"), el("B", text("b", 1)), slot(2), word("c")), el("p", word("a"), el("b", text("b", 1)), slot(2), word("c"))}, // in order
		{el("p", word("a"), word(""), word("b"), word("a")), el("p", word("a"), word("b"), word("a"))},                                 // not put together
		{el("p", el("iframe"), slot(0), word(""), api.View{}), el("p")},                                                                // none is left: an element without kids
		{el("div", el("ul", el("LI", el("x", word("gone"))))), el("div", el("ul", el("li")))},                                          // within one another
		{el("a", el("a", el("p", el("p")))), el("a", el("a", el("p", el("p"))))},                                                       // whatever may stand in whatever
		{el("div", el("script", text("x", 1)), el("script", word("x"))), el("div", el("script", word("x")))},
	} {
		checkView(t, c[0], c[1])
	}
}

func TestHooks(t *testing.T) { // P17.1
	var all, want []api.Hook
	for _, event := range []int{math.MinInt, -1, 0, 1, 2, 3, 4, 5, 6, 7, 8, 9, 10, 257, 1<<32 + 1, math.MaxInt} {
		for _, name := range []int{math.MinInt, -2, -1, 0, 1, 2, math.MaxInt} {
			for _, capture := range []bool{false, true} {
				h := api.Hook{Event: event, Capture: capture, Name: name}
				v, stays := el("p"), el("p")
				v.Hooks = []api.Hook{h}
				if event >= 1 && event <= 8 && name >= 0 {
					stays.Hooks = []api.Hook{h}
					want = append(want, h, h)
				}
				all = append(all, h, h) // twice: both count
				checkView(t, v, stays)
			}
		}
	}
	for _, tag := range []string{"div", "br", "script"} {
		v, stays := el(tag), el(tag)
		v.Hooks, stays.Hooks = all, want
		checkView(t, v, stays)
	}
}

func TestVoid(t *testing.T) { // P17.1
	for _, tag := range []string{"br", "hr", "img", "BR", "Hr", "iMG"} {
		low := strings.ToLower(tag)
		checkView(t, el(tag, word("x")), el(low))
		checkView(t, el(tag, el("p", word("x")), slot(1), word("")), el(low))
		checkView(t, el(tag, el("script", text("x", 1))), el(low))
		v := full(1)
		v.Tag = mark.Of(tag, 0)
		checkView(t, v, api.View{Kind: 1, Tag: mark.Of(low, 0), Key: "key", Attrs: v.Attrs, Hooks: v.Hooks}) // all but kids
	}
	for _, tag := range strings.Fields(tagRow) {
		if !in(voidRow, tag) {
			checkView(t, el(tag, word("x")), el(tag, word("x")))
		}
	}
}

func TestRawKids(t *testing.T) { // P17.1: script and style
	for _, tag := range []string{"script", "style", "SCRIPT", "Style"} {
		low := strings.ToLower(tag)
		for _, c := range [][]api.View{ // what stays as it is
			nil,
			{word("x")},
			{word("a"), word("b"), word(" ")},
			{word("a > b && \"c\" \n\t")},
			{word("\xc3\xa9")},
			{keyed("k", word("x"))},
		} {
			checkView(t, el(tag, c...), el(low, c...))
			checkView(t, el("div", el(tag, c...)), el("div", el(low, c...)))
		}
		for _, c := range [][2][]api.View{ // what is nothing itself, or repaired
			{{word(""), text("", 1), labelled(str("", 3, 3))}, nil},
			{{word("x"), slot(0), slot(4), slot(-1)}, {word("x")}},
			{{word("x"), el("iframe", text("y", 1)), tagged(mark.Of("p", 1)), el(""), word("z")}, {word("x"), word("z")}},
			{{api.View{}, full(4), full(-1), word("x")}, {word("x")}},
			{{el(tag, text("y", 1)), el("style", el("p")), word("x")}, {word("x")}},
			{{word("\x00")}, {word("\xef\xbf\xbd")}},
			{{word("a\xe2\x82")}, {word("a\xef\xbf\xbd")}},
			{{labelled(str("ab", 1, -1, 0, 1, 9, 0))}, {word("ab")}},
			{{full(2)}, {keyed("key", word("text"))}},
		} {
			checkView(t, el(tag, c[0]...), el(low, c[1]...))
		}
		for _, c := range [][]api.View{ // of which nothing is left
			{text("x", 1)},
			{text("x", top)},
			{labelled(str("abc", 1, 0, 1, 1, 1, 0))},
			{labelled(str("abc"))}, // not as told
			{labelled(str("abc", 2, 0))},
			{text("\xff", 1)},
			{word("a<b")},
			{word("</script>")},
			{word("a\r")},
			{word("a\r\nb")},
			{word("a"), word("b"), text("c", 1)},
			{text("c", 1), word("a"), word("b")},
			{word("a"), word("<"), word("b")},
			{el("b")},
			{el("b", word("x"))},
			{word("x"), el("br")},
			{el(tag)},
			{el(tag, word("x"))},
			{slot(1)},
			{word("x"), slot(3), word("y")},
		} {
			checkNothing(t, el(tag, c...))
			checkNothing(t, keyed("k", el(tag, c...)))
			checkView(t, el("div", word("a"), el(tag, c...), word("b")), el("div", word("a"), word("b")))
		}
	}
}

func TestRawBytes(t *testing.T) { // P17.1: each byte, within script and style
	for b := range 256 {
		s := "a" + string([]byte{byte(b)}) + "c"
		for _, tag := range []string{"script", "style"} {
			if b == '<' || b == '\r' {
				checkNothing(t, el(tag, word(s)))
				continue
			}
			checkView(t, el(tag, word(s)), el(tag, labelled(utf.Repair(mark.Of(s, 0)))))
		}
		checkView(t, el("p", word(s)), el("p", labelled(utf.Repair(mark.Of(s, 0))))) // within others all may stand
	}
}

func TestRawValues(t *testing.T) { // P17.1: of script and style
	for _, tag := range []string{"script", "style", "ScripT"} {
		low := strings.ToLower(tag)
		for _, c := range [][2][]api.Attr{ // values that are trusted, as far as they are left
			{{pair("id", "x"), pair("src", "https://x"), pair("onclick", "y()")}, {pair("id", "x"), pair("src", "https://x"), pair("onclick", "y()")}},
			{{pair("id", "<\r\x00")}, {pair("id", "<\r\xef\xbf\xbd")}}, // what may not stand raw may stand in values
			{{dyed("id", 0, "", 1)}, {pair("id", "")}},
			{{valued("id", str("ab", 9, -9))}, {pair("id", "ab")}},
			{{valued("src", str(" /a\t", 1, 1, 2, 0, 1, 3))}, {pair("src", "/a")}}, // what is not trusted is taken off
			{{dyed("lang", 0, "x", 1), pair("id", "y")}, {pair("id", "y")}},        // of attributes that are not left
			{{dyed("id", 1, "x", 1), pair("id", "y")}, {pair("id", "y")}},
			{{dyed("onclick", 0, "x", 1)}, nil},
			{{dyed("src", 0, "https:x", 1)}, nil},
			{{pair("id", "x"), dyed("id", 0, "y", 1), dyed("ID", 0, "z", 1)}, {pair("id", "x")}},
		} {
			checkView(t, with(tag, c[0]...), with(low, c[1]...))
		}
		for _, l := range [][]api.Attr{
			{dyed("id", 0, "x", 1)},
			{dyed("Title", 0, "x", top)},
			{valued("id", str("abc", 1, 0, 1, 1, 1, 0))},
			{valued("id", str("abc"))},
			{valued("src", str("/ab", 2, 0, 1, 1))},
			{valued("src", str("https:x", 6, 0, 1, 1))},
			{dyed("src", 0, "/a", 2)},
			{pair("id", "x"), dyed("class", 0, "y", 1)},
			{dyed("class", 0, "y", 1), pair("id", "x")},
			{dyed("class", 0, "y", 1), pair("class", "x")},
		} {
			checkNothing(t, with(tag, l...))
			v := with(tag, l...)
			v.Kids = views(word("x"))
			checkNothing(t, v)
		}
	}
	v := full(1)
	v.Tag = mark.Of("STYLE", 0)
	want := full(1)
	want.Tag, want.Text, want.Slot = mark.Of("style", 0), api.Str{}, 0
	checkView(t, v, want) // key, hooks and attributes stay
}

func TestAttrNames(t *testing.T) { // P17.1
	for _, name := range strings.Fields(attrRow + addressRow + handlerRow) {
		upper := strings.ToUpper(name)
		for _, other := range []string{name, upper, upper[:1] + name[1:], name[:1] + upper[1:]} {
			checkAttrs(t, []api.Attr{pair(other, "x")}, []api.Attr{pair(name, "x")})
			checkAttrs(t, []api.Attr{dyed(other, 1, "x", 0)}, nil)
			checkAttrs(t, []api.Attr{dyed(other, top, "x", 0)}, nil)
			for at := range len(other) { // one byte that is not trusted
				checkAttrs(t, []api.Attr{{Name: str(other, at, 0, 1, 1, len(other)-at-1, 0), Value: mark.Of("x", 0)}}, nil)
			}
			checkAttrs(t, []api.Attr{{Name: str(other), Value: mark.Of("x", 0)}}, nil) // not as told, and so not trusted
			checkAttrs(t, []api.Attr{{Name: str(other, 99, -1), Value: mark.Of("x", 0)}}, []api.Attr{pair(name, "x")})
			for _, none := range []string{other + " ", " " + other, other + "\x00", other[1:], other + other, "\xff" + other, other + "="} {
				checkAttrs(t, []api.Attr{pair(none, "x")}, nil)
			}
		}
	}
	for _, name := range []string{"", " ", "style", "STYLE", "onload", "onerror", "on", "srcset", "action", "data-id", "lang", "div", "script", "\x00", "on\xe2\x84\xaaey"} {
		checkAttrs(t, []api.Attr{pair(name, "x")}, nil)
		checkAttrs(t, []api.Attr{pair(name, "x"), pair("id", "y"), pair(name, "z")}, []api.Attr{pair("id", "y")})
	}
}

func TestAttrValues(t *testing.T) { // P17.1: of attributes that may be
	for _, name := range strings.Fields(attrRow) {
		for _, s := range []api.Str{{}, str("x", 1, 0), str("x", 1, 1), str("xyz", 1, 0, 1, 1, 1, 0), str(" x\t\r\n", 5, 1), str("javascript:x", 12, 1), str("a\"b<c>&", 7, top), str("\xc3\xa9", 1, 1, 1, 2)} {
			checkAttrs(t, []api.Attr{valued(name, s)}, []api.Attr{valued(name, s)})
		}
		for _, c := range [][2]api.Str{
			{str("\x00", 1, 1), str("\xef\xbf\xbd", 3, 1)},
			{str("a\xe2\x82b", 2, 0, 2, 1), str("a\xef\xbf\xbdb", 1, 0, 4, 1)},
			{str("ab"), str("ab", 2, top)},
			{str("ab", 1, 2, 0, 7, 9, 2), str("ab", 2, 2)},
			{str("", 5, 5), {}},
		} {
			checkAttrs(t, []api.Attr{valued(name, c[0])}, []api.Attr{valued(name, c[1])})
		}
	}
}

func TestAddresses(t *testing.T) { // P17.1
	for _, name := range []string{"href", "src"} {
		for _, s := range []api.Str{ // safe, and ready already
			{}, str("/a?b#c", 6, 1), str("a b", 3, 1), str("https://x/", 10, 0), str("https://x/", 6, 0, 4, 1), str("HTTP:x", 5, 0, 1, top), str("mailto:a@b", 7, 0, 3, 1),
			str("javascript", 10, 1), str("/javascript:x", 13, 1), str("#javascript:x", 13, 1), str("?a:b", 4, 1), str(":x", 2, 1), str("1a:x", 4, 1), str("java script:x", 13, 1), str("\xc3\xa9:x", 4, 1), str("x/\"<>&", 6, 1),
		} {
			checkAttrs(t, []api.Attr{valued(name, s)}, []api.Attr{valued(name, s)})
		}
		for _, c := range [][2]api.Str{ // safe, and made so by being repaired and filtered
			{str(" /a\n", 4, 1), str("/a", 2, 1)},
			{str(" \t\r\n\x1f\x01 ", 7, 1), {}},
			{str("/a\tb\nc\rd", 8, 1), str("/abcd", 5, 1)},
			{str(" https:x", 1, 1, 6, 0, 1, 1), str("https:x", 6, 0, 1, 1)}, // bytes that are taken off say nothing
			{str("ht\ttps:x", 2, 0, 1, 1, 5, 0), str("https:x", 7, 0)},
			{str("https\n:x", 5, 0, 1, 9, 2, 0), str("https:x", 7, 0)},
			{str("\x00javascript:x", 13, 1), str("\xef\xbf\xbdjavascript:x", 15, 1)}, // repaired first: a byte 0 is not taken off
			{str("\x00/a\x00", 1, 1, 2, 0, 1, 2), str("\xef\xbf\xbd/a\xef\xbf\xbd", 3, 1, 2, 0, 3, 2)},
			{str(" \x00 ", 3, 0), str("\xef\xbf\xbd", 3, 0)},
			{str("java\x00script:x", 13, 1), str("java\xef\xbf\xbdscript:x", 15, 1)},
			{str("java\xffscript:x", 13, 1), str("java\xef\xbf\xbdscript:x", 15, 1)},
			{str("\xffjavascript:x", 13, 1), str("\xef\xbf\xbdjavascript:x", 15, 1)},
			{str("\xe2\x82\t\xac", 4, 1), str("\xef\xbf\xbd\xef\xbf\xbd", 6, 1)}, // repaired ahead of the tab, not behind it
			{str("https:a", 6, 0), str("https:a", 6, 0, 1, top)},
			{str("/a", 1, 3), str("/a", 1, 3, 1, top)},
			{str("", 5, 5), {}},
		} {
			checkAttrs(t, []api.Attr{valued(name, c[0])}, []api.Attr{valued(name, c[1])})
		}
		for _, s := range []api.Str{ // not safe
			str("javascript:x", 12, 0), str("javascript:x", 12, 1), str("JavaScript:x", 12, 0), str(" javascript:x", 13, 0), str("java\tscript:x", 13, 0), str("java\r\nscript\n:x", 15, 1), str("\x01\x1f javascript:", 14, 0),
			str("data:x", 6, 0), str("x:", 2, 0), str("a+b-c.1:x", 9, 0), str("httpss:x", 8, 0), str("https+:x", 8, 0),
			str("https:x", 7, 1), str("https:x", 5, 0, 2, 1), str("https:x", 1, 1, 6, 0), str("https:x", 5, 0, 1, 1, 1, 0), str("https:x"), str("https:x", 5, 0), str("MAILTO:x", 8, 2),
		} {
			checkAttrs(t, []api.Attr{valued(name, s)}, nil)
			checkAttrs(t, []api.Attr{valued(name, s), pair("id", "x")}, []api.Attr{pair("id", "x")})
		}
	}
}

func TestHandlers(t *testing.T) { // P17.1
	for _, name := range []string{"onclick", "oninput", "onkey"} {
		for _, c := range [][2]api.Str{
			{str("go()", 4, 0), str("go()", 4, 0)},
			{str(" javascript:x\r\n<\"", 17, 0), str(" javascript:x\r\n<\"", 17, 0)},
			{str("a\x00b\xff", 4, 0), str("a\xef\xbf\xbdb\xef\xbf\xbd", 8, 0)},
			{str("ab", 1, -1, 0, 1, 7, 0), str("ab", 2, 0)},
			{{}, {}}, // no bytes: none that is not trusted
			{str("", 3, 3), {}},
		} {
			checkAttrs(t, []api.Attr{valued(name, c[0])}, []api.Attr{valued(name, c[1])})
		}
		for _, s := range []api.Str{str("go()", 4, 1), str("go()", 3, 0, 1, 1), str("go()", 1, top, 3, 0), str(" go()", 1, 1, 4, 0), str("go()"), str("go()", 3, 0), str("\xff", 1, 1), str("a\xe2\x82", 2, 0, 1, 1), str("go()", 4, math.MaxInt)} {
			checkAttrs(t, []api.Attr{valued(name, s)}, nil)
		}
	}
}

func TestFirstThatIsLeft(t *testing.T) { // P17.1: of one name the first counts that is left
	for _, c := range [][2][]api.Attr{
		{{pair("id", "1"), pair("id", "2")}, {pair("id", "1")}},
		{{pair("id", "1"), pair("ID", "2"), pair("iD", "3")}, {pair("id", "1")}}, // names are lower ahead of it
		{{pair("ID", "1"), pair("id", "2")}, {pair("id", "1")}},
		{{dyed("id", 1, "1", 0), pair("id", "2")}, {pair("id", "2")}}, // the first is not left
		{{dyed("id", 1, "1", 0), dyed("id", 2, "2", 0), pair("Id", "3"), pair("id", "4")}, {pair("id", "3")}},
		{{pair("href", "javascript:x"), pair("href", "/a"), pair("href", "/b")}, {pair("href", "/a")}},
		{{dyed("src", 0, "https:x", 1), pair("SRC", " https:y ")}, {pair("src", "https:y")}},
		{{dyed("onclick", 0, "a()", 1), pair("onclick", "b()")}, {pair("onclick", "b()")}},
		{{pair("onclick", "a()"), dyed("onclick", 0, "b()", 1)}, {pair("onclick", "a()")}},
		{{dyed("id", 0, "", 1), pair("id", "2")}, {pair("id", "")}}, // an empty value is one
		{{pair("title", "1"), pair("id", "2"), pair("title", "3"), pair("alt", "4"), pair("id", "5")}, {pair("title", "1"), pair("id", "2"), pair("alt", "4")}},
		{{pair("href", "data:x"), pair("id", "1"), pair("href", "/a"), pair("class", "2")}, {pair("id", "1"), pair("href", "/a"), pair("class", "2")}},
		{{pair("href", "/a"), pair("src", "/a"), pair("class", "/a")}, {pair("href", "/a"), pair("src", "/a"), pair("class", "/a")}},
	} {
		checkAttrs(t, c[0], c[1])
	}
}

// branch writes a tree that is an element, its tag trusted.
func branch(tag string, l []api.Attr, kids ...api.Tree) api.Tree {
	return api.Tree{Tag: mark.Of(tag, 0), Attrs: l, Kids: kids}
}

// leaf writes a tree that is a text, all of it of one origin.
func leaf(s string, origin int) api.Tree {
	return api.Tree{Text: mark.Of(s, origin)}
}

func TestTree(t *testing.T) { // P17.1
	div := branch("div", nil)
	checkTree(t, views(full(1)), branch("div", []api.Attr{pair("id", "one")}, leaf("kid", 0)))
	checkTree(t, views(full(2)), leaf("text", 0))
	checkTree(t, views(full(3)), div)
	for _, n := range []int{0, 1, 2, 3, 4, -1, math.MaxInt, math.MinInt} { // whatever its Slot
		checkTree(t, views(slot(n)), div)
		checkTree(t, views(word("a"), keyed("k", slot(n)), el("p", slot(n))), leaf("a", 0), div, branch("p", nil, div))
	}
	v := slot(1)
	v.Tag, v.Text, v.Attrs, v.Kids = mark.Of("span", 1), mark.Of("x", 1), []api.Attr{pair("id", "x")}, views(word("x"))
	checkTree(t, views(v), div) // without anything
	checkTree(t, views(word("a"), word(""), word("a"), text("b", 1)), leaf("a", 0), leaf("", 0), leaf("a", 0), leaf("b", 1))
	checkTree(t, views(el("p", full(0), word("a"), full(4), el("b", full(-7), text("c", 2)))), branch("p", nil, leaf("a", 0), branch("b", nil, leaf("c", 2))))
	one := []api.Attr{pair("id", "1"), pair("class", "2"), pair("id", "3"), pair("ID", "4"), pair("class", "5")}
	checkTree(t, views(with("p", one...)), branch("p", []api.Attr{one[0], one[1], one[3]}))
	checkTree(t, views(with("p", dyed("id", 1, "1", 2), pair("id", "2"))), branch("p", []api.Attr{dyed("id", 1, "1", 2)})) // the first, even if it would not be left
}

func TestTreeOfWhatIsNotCleaned(t *testing.T) { // P17.1: nothing is taken off
	bad := []api.Attr{pair("onload", "x"), dyed("href", 1, " javascript:x", 1), dyed("onclick", 0, "\x00\xff", 1)}
	v := with("IFrame", bad...)
	v.Kids = views(text("\x00\xff<", 1), el("br", word("x")), el("script", text("x", 1), slot(9)))
	checkTree(t, views(v), branch("IFrame", bad, leaf("\x00\xff<", 1), branch("br", nil, leaf("x", 0)), branch("script", nil, leaf("x", 1), branch("div", nil))))
	checkTree(t, views(tagged(str("p", 1, 3))), api.Tree{Tag: str("p", 1, 3)})
	checkTree(t, views(tagged(str("pq")), labelled(str("xy", 1, 0))), api.Tree{Tag: str("pq", 2, top)}, api.Tree{Text: str("xy", 1, 0, 1, top)}) // not as told
	checkTree(t, views(with("p", api.Attr{Name: str("n", 4, -4), Value: str("v", 0, 0)})), branch("p", []api.Attr{{Name: str("n", 1, 0), Value: str("v", 1, top)}}))
	checkTree(t, views(el("", word("x"))), api.Tree{Kids: []api.Tree{leaf("x", 0)}}) // an element's view without a tag
}

func TestAgainstModels(t *testing.T) { // P17.1, P1 and P5 of DOC.md
	for _, l := range strangeLists(6000) {
		checkOne(t, l)
		if t.Failed() {
			return
		}
	}
}

func TestOriginsOfEachByte(t *testing.T) { // P17.1: all origins from 0 to 1 of short texts, as tag, name, value, words
	for _, s := range []string{"p", "BR", "id", "SRC", "onkey", "/a:", "http:", " x\t", "\x00a", "\xe2\x82"} {
		for pattern := range 1 << len(s) {
			one := api.Str{Text: s}
			for i := range len(s) {
				one.Runs = append(one.Runs, api.Run{Len: 1, Origin: pattern >> i & 1})
			}
			attrs := []api.Attr{{Name: one, Value: one}, valued("href", one), valued("onclick", one), valued("id", one)}
			checkOne(t, views(tagged(one), labelled(one), with("script", attrs[1:2]...), with("style", attrs[3]), with("p", attrs...), el("script", labelled(one))))
		}
	}
}

func TestCleanedTwice(t *testing.T) { // P17.2
	all := append(strangeLists(3000), views(
		with("a", pair("HREF", " \x00ht\ttps:x\n "), pair("href", "/a"), dyed("onclick", 0, "x", 1), pair("ONCLICK", "\xff")),
		el("SCRIPT", word("\xe2\x82"), slot(0), el("script", text("x", 1))),
		el("BR", word("x")),
	))
	for _, l := range all {
		once := Views(l)
		if twice := Views(once); !alikeViews(once, twice) {
			t.Fatalf("Views(%v) = %v, of that again %v", l, once, twice)
		}
		for _, v := range once {
			if got := View(v); !alikeViews(got, views(v)) {
				t.Fatalf("View(%v) = %v", v, got)
			}
			if got := Attrs(v.Attrs); !alikeAttrs(got, v.Attrs) {
				t.Fatalf("Attrs(%v) = %v", v.Attrs, got)
			}
		}
		for _, v := range l {
			left := Attrs(v.Attrs)
			if got := Attrs(left); !alikeAttrs(got, left) {
				t.Fatalf("Attrs(%v) = %v, of that again %v", v.Attrs, left, got)
			}
		}
	}
}

// strange tells what is strange about what is left, or nothing.
func strange(l []api.View) string {
	for _, v := range l {
		for _, s := range []api.Str{v.Tag, v.Text} {
			if mark.Check(s) != api.OK || !utf.Valid(s.Text) {
				return "a text: " + s.Text
			}
		}
		if v.Kind != 1 {
			continue
		}
		raw := in(rawRow, v.Tag.Text)
		if !in(tagRow, v.Tag.Text) || !pure(signs(v.Tag)) {
			return "a tag: " + v.Tag.Text
		}
		for _, a := range v.Attrs {
			name, value := a.Name.Text, signs(a.Value)
			handler := in(handlerRow, name)
			if !in(attrRow+addressRow+handlerRow, name) || !pure(signs(a.Name)) {
				return "a name: " + name
			}
			if in(addressRow, name) && !modelSafe(modelReady(value)) || (handler || raw) && !pure(value) || !utf.Valid(a.Value.Text) {
				return "a value: " + a.Value.Text
			}
		}
		for _, kid := range v.Kids {
			if raw && (kid.Kind != 2 || !pure(signs(kid.Text))) {
				return "within a script: " + kid.Text.Text
			}
		}
		if within := strange(v.Kids); within != "" {
			return within
		}
	}
	return ""
}

func TestNothingStrange(t *testing.T) { // P17.3
	for _, l := range strangeLists(4000) {
		left := Views(l)
		if what := strange(left); what != "" {
			t.Fatalf("of %v it is left %v, of which is strange %q", l, left, what)
		}
		for _, v := range l {
			if what := strange(views(with("p", Attrs(v.Attrs)...))); what != "" {
				t.Fatalf("of %v there is left %q", v.Attrs, what)
			}
		}
	}
}

func TestWhatIsLeftIsPutAndRead(t *testing.T) { // P17.3, and G1 of DOC.md: as HTML, read again, it is the same
	for _, l := range strangeLists(3000) {
		shown := Tree(Views(l))
		html, err := serial.Html(shown)
		if err != api.OK {
			t.Fatalf("of %v it is left %v, which can't be put: %d", l, shown, err)
		}
		read, err := reader.Read(html)
		if !tree.Same(read, shown) || err != api.OK || !reader.Back(shown) {
			t.Fatalf("%v, put and read, is %v", shown, read)
		}
		for _, name := range reader.Names(read) {
			if !mark.Pure(name) || !in(tagRow+attrRow+addressRow+handlerRow, name.Text) {
				t.Fatalf("%v, put and read, has the name %v", shown, name)
			}
		}
	}
}

// stretch is memory. It keeps what it tells of: memory given back could be given to another
// answer ahead of the comparison.
type stretch struct {
	kept unsafe.Pointer
	size uintptr
}

func (s stretch) from() uintptr { return uintptr(s.kept) }
func (s stretch) to() uintptr   { return s.from() + s.size }

// stretchOf tells the memory of a list, and what it could grow into.
func stretchOf[T any](l []T) stretch {
	var one T
	return stretch{unsafe.Pointer(unsafe.SliceData(l)), uintptr(cap(l)) * unsafe.Sizeof(one)}
}

func textStretch(text string) stretch {
	if text == "" {
		return stretch{}
	}
	return stretch{unsafe.Pointer(unsafe.StringData(text)), uintptr(len(text))}
}

func strStretches(l ...api.Str) []stretch {
	var out []stretch
	for _, s := range l {
		out = append(out, textStretch(s.Text), stretchOf(s.Runs))
	}
	return out
}

func attrStretches(l []api.Attr) []stretch {
	out := []stretch{stretchOf(l)}
	for _, a := range l {
		out = append(out, strStretches(a.Name, a.Value)...)
	}
	return out
}

// viewStretches tells all memory of views.
func viewStretches(l []api.View) []stretch {
	out := []stretch{stretchOf(l)}
	for _, v := range l {
		out = append(out, textStretch(v.Key), stretchOf(v.Hooks))
		out = append(out, strStretches(v.Tag, v.Text)...)
		out = append(out, attrStretches(v.Attrs)...)
		out = append(out, viewStretches(v.Kids)...)
	}
	return out
}

// treeStretches tells all memory of trees.
func treeStretches(l []api.Tree) []stretch {
	out := []stretch{stretchOf(l)}
	for _, n := range l {
		out = append(out, strStretches(n.Tag, n.Text)...)
		out = append(out, attrStretches(n.Attrs)...)
		out = append(out, treeStretches(n.Kids)...)
	}
	return out
}

// apart tells whether no two stretches have memory in common, and none has with those of
// other, which may among themselves.
func apart(l, other []stretch) bool {
	type end struct {
		stretch
		own bool
	}
	var all []end
	for _, s := range l {
		all = append(all, end{s, true})
	}
	for _, s := range other {
		all = append(all, end{s, false})
	}
	all = slices.DeleteFunc(all, func(e end) bool { return e.size == 0 })
	slices.SortFunc(all, func(a, b end) int { return cmp.Compare(a.from(), b.from()) })
	var own, others uintptr // how far those met go
	for _, e := range all {
		if e.from() < own || e.own && e.from() < others {
			return false
		}
		if e.own {
			own = max(own, e.to())
		} else {
			others = max(others, e.to())
		}
	}
	return true
}

// memoryLists are lists of which each call has something to tell, some with a part that
// stands in them more than once.
func memoryLists() [][]api.View {
	part := api.View{
		Kind: 1, Tag: str("DIV", 3, 0), Key: "a key",
		Attrs: []api.Attr{pair("class", "value"), dyed("ID", 0, "other", 1), pair("HREF", " https:/ /x\n"), pair("href", "two"), pair("onclick", "go()")},
		Hooks: []api.Hook{{Event: 1, Name: 1}, {Event: 9, Name: 2}, {Event: 8, Capture: true, Name: 3}},
		Kids:  views(word("ab"), text("c\xffd", 1), slot(1), el("b"), keyed("kid's key", slot(2))),
	}
	return append(strangeLists(150),
		views(part, part, keyed("k", word("one")), el("p", part, part), part, slot(3)),
		views(el("p", part.Kids...), el("p", part.Kids...), el("i", part.Kids[:1]...)),
		views(keyed("one key alone", word("one text alone"))),
		views(keyed("one key alone", slot(1))),
		views(el("script", word("one text"), word("other text")), el("style"), el("style")),
		views(el("p"), el("p"), el("a"), el("B")), // of one byte
		views(word("p"), word("\x00"), word("\x00")),
		views(with("a", part.Attrs...), with("b", part.Attrs...), with("i", part.Attrs[:2]...)),
	)
}

// toldOf tells all memory of all calls' answers to l.
func toldOf(l []api.View) []stretch {
	out := append(viewStretches(Views(l)), treeStretches(Tree(l))...)
	for _, v := range l {
		out = append(out, viewStretches(View(v))...)
		out = append(out, attrStretches(Attrs(v.Attrs))...)
	}
	return out
}

func TestAnswersAreNewMemory(t *testing.T) { // P17.4
	for _, l := range memoryLists() {
		left := Views(l)
		told := append(toldOf(l), toldOf(l)...)
		if !apart(told, viewStretches(l)) {
			t.Fatalf("answers to %v share memory", l)
		}
		told = append(toldOf(left), toldOf(left)...) // what is clean already is copied too
		if !apart(told, append(viewStretches(l), viewStretches(left)...)) {
			t.Fatalf("answers to %v share memory", left)
		}
	}
}

// scribble writes over all that views can reach.
func scribble(l []api.View) {
	for _, v := range l {
		scribbleStrs(v.Tag, v.Text)
		scribbleAttrs(v.Attrs)
		scribble(v.Kids)
		hooks := v.Hooks[:cap(v.Hooks)]
		for i := range hooks {
			hooks[i] = api.Hook{Event: 7, Name: 7}
		}
	}
	l = l[:cap(l)]
	for i := range l {
		l[i] = keyed("scribbled", el("p", word("scribbled")))
	}
}

func scribbleTrees(l []api.Tree) {
	for _, n := range l {
		scribbleStrs(n.Tag, n.Text)
		scribbleAttrs(n.Attrs)
		scribbleTrees(n.Kids)
	}
	l = l[:cap(l)]
	for i := range l {
		l[i] = leaf("scribbled", 1)
	}
}

func scribbleAttrs(l []api.Attr) {
	for _, a := range l {
		scribbleStrs(a.Name, a.Value)
	}
	l = l[:cap(l)]
	for i := range l {
		l[i] = pair("scribbled", "x")
	}
}

func scribbleStrs(l ...api.Str) {
	for _, s := range l {
		runs := s.Runs[:cap(s.Runs)]
		for i := range runs {
			runs[i] = api.Run{Len: -9, Origin: -9}
		}
	}
}

func cloneStr(s api.Str) api.Str {
	return api.Str{Text: strings.Clone(s.Text), Runs: slices.Clone(s.Runs)}
}

// clones tells a copy of all that is handed in, runs as they are.
func clones(l []api.View) []api.View {
	var out []api.View
	for _, v := range l {
		n := v
		n.Tag, n.Text, n.Key = cloneStr(v.Tag), cloneStr(v.Text), strings.Clone(v.Key)
		n.Hooks, n.Kids, n.Attrs = slices.Clone(v.Hooks), clones(v.Kids), nil
		for _, a := range v.Attrs {
			n.Attrs = append(n.Attrs, api.Attr{Name: cloneStr(a.Name), Value: cloneStr(a.Value)})
		}
		out = append(out, n)
	}
	return out
}

// askAll asks all calls.
func askAll(l []api.View) {
	Views(l)
	Tree(l)
	for _, v := range l {
		View(v)
		Attrs(v.Attrs)
	}
}

func TestAnswersWrittenOver(t *testing.T) { // P17.4
	for _, l := range memoryLists() {
		before := clones(l)
		again, shown := Views(l), Tree(l)
		scribble(Views(l))
		scribbleTrees(Tree(l))
		for _, v := range l {
			scribble(View(v))
			scribbleAttrs(Attrs(v.Attrs))
		}
		if !alikeViews(l, before) {
			t.Fatalf("answers written over change what was handed in: from %v to %v", before, l)
		}
		if !alikeViews(again, modelViews(l)) || !alikeTrees(shown, modelTree(l)) {
			t.Fatalf("answers written over change other answers to %v", l)
		}
		checkOne(t, l)
	}
}

func TestArgumentsAreNotChanged(t *testing.T) { // P17.4
	for _, l := range memoryLists() {
		before := clones(l)
		askAll(l)
		if !alikeViews(l, before) {
			t.Fatalf("from %v to %v", before, l)
		}
	}
	own := views(el("P"), word("\x00"), slot(9), el("iframe"), with("A", pair("ID", "1"), pair("ID", "2"), pair("x", "y"), pair("id", "3"))) // an append in place would write behind what is handed in
	own[0].Hooks = []api.Hook{{Event: 9}, {Event: 1}, {Event: 2, Name: -1}, {Event: 2}}
	want := clones(own)
	for n := range len(own) {
		askAll(own[:n])
		askAll(views(el("p", own[n:]...), el("p", own[:n]...)))
		askAll(views(with("p", own[4].Attrs[:n]...)))
		v := el("p")
		v.Hooks = own[0].Hooks[:n]
		askAll(views(v))
	}
	if !alikeViews(own, want) {
		t.Fatalf("memory behind what is handed in changed: %v", own)
	}
	runs := []api.Run{{Len: 1, Origin: 0}, {Len: 1, Origin: 2}, {Len: 1, Origin: 3}}
	s := api.Str{Text: "ID", Runs: runs[:1]}
	askAll(views(labelled(s), tagged(s), with("p", api.Attr{Name: s, Value: s})))
	if !slices.Equal(runs, []api.Run{{Len: 1, Origin: 0}, {Len: 1, Origin: 2}, {Len: 1, Origin: 3}}) {
		t.Errorf("memory behind the runs changed: %v", runs)
	}
}

func TestNothingIsKept(t *testing.T) { // P17.4, and P3 of DOC.md
	runs := []api.Run{{Len: 2, Origin: 1}}
	v := el("p", labelled(api.Str{Text: "xy", Runs: runs}))
	v.Attrs = []api.Attr{valued("id", api.Str{Text: "xy", Runs: runs})}
	v.Hooks = []api.Hook{{Event: 1}}
	want := clones(views(v))
	left, shown, names := Views(views(v)), Tree(views(v)), Attrs(v.Attrs)
	runs[0].Origin = 9 // what was handed in is changed afterwards
	v.Kids[0], v.Attrs[0], v.Hooks[0] = el("b"), pair("alt", "x"), api.Hook{Event: 2}
	if !alikeViews(left, want) || !alikeTrees(shown, modelTree(want)) || !alikeAttrs(names, want[0].Attrs) {
		t.Errorf("answers changed to %v, %v and %v", left, shown, names)
	}
	var group sync.WaitGroup // nor do calls beside each other meet
	for range 8 {
		group.Go(func() {
			for _, l := range strangeLists(100) {
				checkOne(t, l)
				askAll(views(el("other", word("other"))))
				checkOne(t, l)
			}
		})
	}
	group.Wait()
}

func TestDeepViews(t *testing.T) { // P1 of DOC.md: as many levels as may be, an end within bearable time
	const n = 1 << 16
	deep := func(tag string, end api.View) []api.View {
		l := views(end)
		for range n - 1 {
			l = views(word("a"), el(tag, l...), slot(0), text("b", 1))
		}
		return l
	}
	l := Views(deep("DIV", text("x\x00", 1)))
	if !alikeViews(l, deepLeft(n, text("x\xef\xbf\xbd", 1))) {
		t.Error("what is left of deep views is another")
	}
	if !alikeViews(Views(l), l) {
		t.Error("deep views, cleaned twice, are not as once")
	}
	shown := Tree(l)
	if got := tree.Depth(shown); got != n-1 {
		t.Errorf("as trees, %d stand in one another", got)
	}
	if got := Views(deep("div", api.View{})); !alikeViews(got, deepLeft(n, api.View{})) {
		t.Error("what is left of deep views without an end is another")
	}
	if got := Views(deep("iframe", word("x"))); len(got) != 2 {
		t.Errorf("of deep views that may not be, %d are left", len(got))
	}
	one := word("x")
	for range n - 1 {
		one = el("script", one)
	}
	if got := View(one); !alikeViews(got, views(el("script"))) {
		t.Errorf("of scripts within one another %d are left", len(got))
	}
}

// deepLeft tells what is left of views of so many levels.
func deepLeft(n int, end api.View) []api.View {
	var l []api.View
	if end.Kind != 0 {
		l = views(end)
	}
	for range n - 1 {
		l = views(word("a"), el("div", l...), text("b", 1))
	}
	return l
}

func TestScriptsWithinOneAnother(t *testing.T) { // P17.1: one that has another left within it is nothing, so that the next one stays
	one := el("script", word("x"))
	for n := 1; n < 40; n++ {
		want := views(one)
		switch {
		case n == 1:
		case n%2 == 0: // its kid is left, and so it is not
			want = nil
		default: // its kid is not left, and so it is empty
			want = views(el("script"))
		}
		checkViews(t, views(one), want)
		one = el("script", one)
	}
}

func TestWideViews(t *testing.T) { // P1 of DOC.md: an end within bearable time
	const n = 1 << 15
	var l, want []api.View
	var all []api.Attr
	var hooks []api.Hook
	for i := range n {
		s := strconv.Itoa(i)
		l = append(l, keyed(s, el("P", text(s, i%5))), slot(i%5), text("", 1), el("x"+s))
		want = append(want, keyed(s, el("p", text(s, i%5))))
		if i%5 > 0 && i%5 < 4 {
			want = append(want, slot(i%5))
		}
		all = append(all, dyed("id", i+1, s, 0), pair("x"+s, s), pair("href", "a"+s+":x"), pair("title", s))
		hooks = append(hooks, api.Hook{Event: i % 10, Name: i})
	}
	if got := Views(l); !alikeViews(got, want) {
		t.Errorf("of %d views %d are left, not %d", len(l), len(got), len(want))
	}
	if got := View(el("div", l...)); !alikeViews(got, views(el("div", want...))) {
		t.Error("what is left of a wide view is another")
	}
	if got := Attrs(all); !alikeAttrs(got, []api.Attr{pair("title", "0")}) {
		t.Errorf("%d attributes are left", len(got))
	}
	v := with("p", all...)
	v.Hooks = hooks
	if got := View(v); len(got) != 1 || len(got[0].Hooks) != len(slices.DeleteFunc(hooks, func(h api.Hook) bool { return h.Event < 1 || h.Event > 8 })) {
		t.Error("what is left of an element with many hooks is another")
	}
	if got := Tree(l); len(got) != 4*n {
		t.Errorf("Tree tells %d trees", len(got))
	}
	if got := Tree(views(v)); len(got[0].Attrs) != n+3 {
		t.Errorf("Tree tells %d attributes", len(got[0].Attrs))
	}
	long := strings.Repeat("a\x00\xff", n)
	if got := View(text(long, 1)); len(got) != 1 || len(got[0].Text.Text) != 7*n {
		t.Error("what is left of long words is another")
	}
}
