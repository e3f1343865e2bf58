package tree

import (
	"cmp"
	"math"
	"slices"
	"strconv"
	"strings"
	"testing"
	"unsafe"

	"glazier/api"
	"glazier/mark"
)

const top = api.MaxOrigin

// str writes a labelled text: lens and origins by turns.
func str(text string, pairs ...int) api.Str {
	s := api.Str{Text: text}
	for i := 0; i+1 < len(pairs); i += 2 {
		s.Runs = append(s.Runs, api.Run{Len: pairs[i], Origin: pairs[i+1]})
	}
	return s
}

// trees writes a list.
func trees(l ...api.Tree) []api.Tree {
	return l
}

// text writes a text, all of it of one origin.
func text(s string, origin int) api.Tree {
	return api.Tree{Text: mark.Of(s, origin)}
}

// word writes a trusted text.
func word(s string) api.Tree {
	return text(s, 0)
}

// el writes an element without attributes, its tag trusted.
func el(tag string, kids ...api.Tree) api.Tree {
	return api.Tree{Tag: mark.Of(tag, 0), Kids: kids}
}

// with writes an element without kids, its tag trusted.
func with(tag string, l ...api.Attr) api.Tree {
	return api.Tree{Tag: mark.Of(tag, 0), Attrs: l}
}

// pair writes an attribute, all of it trusted.
func pair(name, value string) api.Attr {
	return dyed(name, 0, value, 0)
}

// dyed writes an attribute, its name of one origin, its value of one.
func dyed(name string, nameOrigin int, value string, valueOrigin int) api.Attr {
	return api.Attr{Name: mark.Of(name, nameOrigin), Value: mark.Of(value, valueOrigin)}
}

// taken tells s as chapter 1 takes it, byte by byte.
func taken(s api.Str) api.Str {
	var origins []int
	for _, r := range s.Runs {
		for n := 0; n < r.Len && len(origins) < len(s.Text); n++ {
			origins = append(origins, min(max(r.Origin, 0), top))
		}
	}
	for len(origins) < len(s.Text) {
		origins = append(origins, top)
	}
	out := api.Str{Text: s.Text}
	for i, o := range origins {
		if i == 0 || origins[i-1] != o {
			out.Runs = append(out.Runs, api.Run{Origin: o})
		}
		out.Runs[len(out.Runs)-1].Len++
	}
	return out
}

// alike holds two texts against each other field by field.
func alike(a, b api.Str) bool {
	return a.Text == b.Text && slices.Equal(a.Runs, b.Runs)
}

func alikeAttr(a, b api.Attr) bool {
	return alike(a.Name, b.Name) && alike(a.Value, b.Value)
}

// alikes holds two lists against each other field by field, whatever is an element.
func alikes(a, b []api.Tree) bool {
	return slices.EqualFunc(a, b, func(x, y api.Tree) bool {
		return alike(x.Tag, y.Tag) && slices.EqualFunc(x.Attrs, y.Attrs, alikeAttr) && alike(x.Text, y.Text) && alikes(x.Kids, y.Kids)
	})
}

// The model of the tests: a list is told as a row of pieces, in which a text is so many
// bytes, each with its origin: texts beside each other are one there, and empty ones none.

// piece is where an element begins (with its tag and attributes), or ends, or a byte.
type piece struct {
	kind  string
	tag   api.Str
	attrs []api.Attr
	char  byte
	at    int // the byte's origin
}

// row tells the list as pieces.
func row(l []api.Tree) []piece {
	var out []piece
	for _, t := range l {
		if len(t.Tag.Text) > 0 {
			out = append(out, piece{kind: "begin", tag: taken(t.Tag), attrs: modelOnce(t.Attrs)})
			out = append(out, row(t.Kids)...)
			out = append(out, piece{kind: "end"})
			continue
		}
		for _, r := range taken(t.Text).Runs {
			for range r.Len {
				out = append(out, piece{kind: "byte", at: r.Origin})
			}
		}
		for i := range len(t.Text.Text) {
			out[len(out)-len(t.Text.Text)+i].char = t.Text.Text[i]
		}
	}
	return out
}

// modelOnce tells of each name the first, as chapter 10 has it.
func modelOnce(l []api.Attr) []api.Attr {
	var out []api.Attr
	for _, a := range l {
		if !slices.ContainsFunc(out, func(b api.Attr) bool { return a.Name.Text == b.Name.Text }) {
			out = append(out, api.Attr{Name: taken(a.Name), Value: taken(a.Value)})
		}
	}
	return out
}

// built tells the list that a row of pieces is of, and how many of them are used up.
func built(l []piece) ([]api.Tree, int) {
	var out []api.Tree
	at := 0
	for at < len(l) && l[at].kind != "end" {
		p := l[at]
		at++
		if p.kind == "begin" {
			kids, n := built(l[at:])
			out = append(out, api.Tree{Tag: p.tag, Attrs: p.attrs, Kids: kids})
			at += n + 1
			continue
		}
		if len(out) == 0 || out[len(out)-1].Text.Text == "" {
			out = append(out, api.Tree{})
		}
		last := &out[len(out)-1]
		last.Text = mark.Cat(last.Text, mark.Of(string([]byte{p.char}), p.at))
	}
	return out, at
}

func modelMerge(l []api.Tree) []api.Tree {
	out, _ := built(row(l))
	return out
}

// modelSame holds the rows against each other, attributes in the order of their names.
func modelSame(a, b []api.Tree) bool {
	return slices.EqualFunc(row(a), row(b), func(x, y piece) bool {
		for _, l := range [][]api.Attr{x.attrs, y.attrs} {
			slices.SortFunc(l, func(a, b api.Attr) int { return strings.Compare(a.Name.Text, b.Name.Text) })
		}
		return x.kind == y.kind && alike(x.tag, y.tag) && slices.EqualFunc(x.attrs, y.attrs, alikeAttr) && x.char == y.char && x.at == y.at
	})
}

// trusted tells the list with all labelled texts put to the origin 0.
func trusted(l []api.Tree) []api.Tree {
	var out []api.Tree
	for _, t := range l {
		n := api.Tree{Tag: mark.Of(t.Tag.Text, 0), Text: mark.Of(t.Text.Text, 0), Kids: trusted(t.Kids)}
		for _, a := range t.Attrs {
			n.Attrs = append(n.Attrs, pair(a.Name.Text, a.Value.Text))
		}
		out = append(out, n)
	}
	return out
}

func modelAlike(a, b []api.Tree) bool {
	return modelSame(trusted(a), trusted(b))
}

// modelCounts tells size and depth.
func modelCounts(l []api.Tree) (size, depth int) {
	open, last := 0, ""
	for _, p := range row(l) {
		switch p.kind {
		case "begin":
			size++
			open++
			depth = max(depth, open)
		case "end":
			open--
		case "byte":
			if last != "byte" {
				size++
			}
		}
		last = p.kind
	}
	return size, depth
}

func modelWords(l []api.Tree) api.Str {
	var out api.Str
	for _, p := range row(l) {
		if p.kind == "byte" {
			out = mark.Cat(out, mark.Of(string([]byte{p.char}), p.at))
		}
	}
	return out
}

func modelTags(l []api.Tree) []string {
	var out []string
	for _, p := range row(l) {
		if p.kind == "begin" {
			out = append(out, p.tag.Text)
		}
	}
	return out
}

// The checks: each holds a call's answer against what is wanted.

func checkMerge(t *testing.T, l, want []api.Tree) {
	t.Helper()
	if got := Merge(l); !alikes(got, want) {
		t.Errorf("Merge(%v) = %v, want %v", l, got, want)
	}
}

// checkSame asks Same and Alike both ways round.
func checkSame(t *testing.T, a, b []api.Tree, same, without bool) {
	t.Helper()
	if got, back := Same(a, b), Same(b, a); got != same || back != same {
		t.Errorf("Same(%v, %v) = %v, the other way round %v", a, b, got, back)
	}
	if got, back := Alike(a, b), Alike(b, a); got != without || back != without {
		t.Errorf("Alike(%v, %v) = %v, the other way round %v", a, b, got, back)
	}
}

func checkCounts(t *testing.T, l []api.Tree, size, depth int) {
	t.Helper()
	if got := Size(l); got != size {
		t.Errorf("Size(%v) = %d, want %d", l, got, size)
	}
	if got := Depth(l); got != depth {
		t.Errorf("Depth(%v) = %d, want %d", l, got, depth)
	}
}

func checkWords(t *testing.T, l []api.Tree, want api.Str) {
	t.Helper()
	if got := Words(l); !alike(got, want) {
		t.Errorf("Words(%v) = %v, want %v", l, got, want)
	}
}

func checkTags(t *testing.T, l []api.Tree, want ...string) {
	t.Helper()
	if got := Tags(l); !slices.Equal(got, want) {
		t.Errorf("Tags(%v) = %q, want %q", l, got, want)
	}
}

// checkOne holds all calls of one list against the model.
func checkOne(t *testing.T, l []api.Tree) {
	t.Helper()
	checkMerge(t, l, modelMerge(l))
	size, depth := modelCounts(l)
	checkCounts(t, l, size, depth)
	checkWords(t, l, modelWords(l))
	checkTags(t, l, modelTags(l)...)
}

// parse writes a list from letters: x and y are trusted texts, X is x of origin 1, . is an
// empty text, e and f begin elements (g one with a tag of origin 1), and ) ends one.
func parse(letters string) []api.Tree {
	l, _ := parsed(letters)
	return l
}

func parsed(letters string) ([]api.Tree, int) {
	var out []api.Tree
	at := 0
	for at < len(letters) {
		c := letters[at : at+1]
		at++
		switch c {
		case ")":
			return out, at
		case "x", "y":
			out = append(out, word(c))
		case "X":
			out = append(out, text("x", 1))
		case ".":
			out = append(out, api.Tree{})
		default:
			kids, n := parsed(letters[at:])
			out = append(out, api.Tree{Tag: mark.Of(strings.Replace(c, "g", "e", 1), len(c)-len(strings.TrimPrefix(c, "g"))), Kids: kids})
			at += n
		}
	}
	return out, at
}

// rows tells all texts of up to n of the letters.
func rows(letters string, n int) []string {
	out := []string{""}
	for from := 0; n > 0; n-- {
		to := len(out)
		for _, s := range out[from:to] {
			for i := range len(letters) {
				out = append(out, s+letters[i:i+1])
			}
		}
		from = to
	}
	return out
}

// strangeStrs are labelled texts of all kinds, as told and not.
func strangeStrs() []api.Str {
	return []api.Str{
		str(""), str("", 3, 3), str("", -1, math.MinInt), {Runs: []api.Run{}},
		str("ab"), str("ab", 2, 0), str("ab", 1, 0), str("ab", 1, 0, 1, 0), str("ab", 1, 0, 1, 1), str("ab", 1, 1, 1, 0), str("ab", 2, top), str("ab", 9, 0),
		str("ab", math.MaxInt, 0, math.MaxInt, 1), str("ab", math.MinInt, 5, 1, -1, 0, 5, 1, math.MinInt), str("ab", 1, top+1, 1, math.MaxInt),
		str("AB", 2, 0), str("a", 1, 0), str("abc", 3, 0), str("\x00\xff", 2, 0), str("\xff\x00"), str("\xc3", 1, 0), str("\xa9", 1, 1), str("a\x00", 1, 3, 9, 3), str("<&\"= \r>", 3, 0),
	}
}

// strangeTrees tells trees of strangeStrs in all fields, by turns: elements with texts,
// texts with attributes and kids.
func strangeTrees() []api.Tree {
	all := strangeStrs()
	pick := func(i int) api.Str { return all[i%len(all)] }
	var out []api.Tree
	for i := range 3 * len(all) {
		t := api.Tree{Text: pick(i), Attrs: []api.Attr{{Name: pick(i + 5), Value: pick(i * 3)}, {Name: pick(i + 6), Value: pick(i * 7)}}}
		t.Kids = trees(api.Tree{Text: pick(i + 2)}, api.Tree{Text: pick(i * 5)}, api.Tree{Tag: pick(i * 11), Text: pick(i + 1)}, api.Tree{Text: pick(i + 3), Tag: str("", 1, 1)})
		if i%3 > 0 {
			t.Tag = pick(i*13 + i/len(all))
		}
		out = append(out, t)
	}
	return out
}

// strangeLists tells lists of strangeTrees, of lengths by turns, some within others.
func strangeLists() [][]api.Tree {
	all := strangeTrees()
	out := [][]api.Tree{nil, {}, all, {{}}, {{Kids: trees(el("a"))}}}
	for i := range all {
		l := trees(all[i])
		for j := range i % 4 {
			l = append(l, all[(i+j*7)%len(all)], api.Tree{Tag: all[(i*3)%len(all)].Text, Kids: l})
		}
		out = append(out, l, all[i:min(i+3, len(all))])
	}
	return out
}

func TestMerge(t *testing.T) { // P11.1
	for _, c := range [][2][]api.Tree{
		{trees(word("a"), word(""), word("b")), trees(word("ab"))}, // the chapter's example
		{nil, nil},
		{{}, nil},
		{trees(word("")), nil},
		{trees(api.Tree{}), nil},
		{trees(api.Tree{Text: str("", 3, 3)}), nil},
		{trees(api.Tree{}, api.Tree{}, api.Tree{}), nil},
		{trees(word("a")), trees(word("a"))},
		{trees(api.Tree{}, word("a")), trees(word("a"))}, // an empty one first, last, between
		{trees(word("a"), api.Tree{}), trees(word("a"))},
		{trees(word("a"), api.Tree{}, api.Tree{}, word("b"), api.Tree{}), trees(word("ab"))},
		{trees(word("a"), word("b")), trees(word("ab"))},
		{trees(word("a"), word("b"), word("c"), word("d")), trees(word("abcd"))},
		{trees(word("a"), text("b", 1)), trees(api.Tree{Text: str("ab", 1, 0, 1, 1)})}, // of unlike origins
		{trees(text("a", 2), text("b", 2), text("c", 0), text("d", top)), trees(api.Tree{Text: str("abcd", 2, 2, 1, 0, 1, top)})},
		{trees(text("a", 2), text("", 5), text("b", 2)), trees(text("ab", 2))},
		{trees(word("a"), el("p"), word("b")), trees(word("a"), el("p"), word("b"))}, // an element between
		{trees(word("a"), word("b"), el("p"), word("c"), word("d")), trees(word("ab"), el("p"), word("cd"))},
		{trees(api.Tree{}, el("p"), api.Tree{}, el("p"), api.Tree{}), trees(el("p"), el("p"))}, // elements are not put together
		{trees(el("p", word("a")), el("p", word("b"))), trees(el("p", word("a")), el("p", word("b")))},
		{trees(word("a"), el("p", word("b")), word("c")), trees(word("a"), el("p", word("b")), word("c"))}, // texts of unlike parents are not beside each other
		{trees(el("p", word("a"), word(""), word("b"))), trees(el("p", word("ab")))},                       // within elements
		{trees(el("p", word(""))), trees(el("p"))},
		{trees(el("p", api.Tree{}, api.Tree{})), trees(el("p"))},
		{trees(api.Tree{Tag: mark.Of("p", 0), Kids: trees()}), trees(el("p"))},
		{trees(el("p", el("q", word("a"), el("r", word("b"), word("c")), word("d"), word("e")))), trees(el("p", el("q", word("a"), el("r", word("bc")), word("de"))))},
		{trees(el("p", word("a"), word("b"), el("q", api.Tree{}), api.Tree{}), word("c"), word("d")), trees(el("p", word("ab"), el("q")), word("cd"))},
		{trees(api.Tree{Tag: mark.Of("p", 0), Text: mark.Of("x", 0)}), trees(el("p"))}, // an element's text
		{trees(word("a"), api.Tree{Tag: mark.Of("p", 0), Text: mark.Of("x", 0), Kids: trees(word("b"))}, word("c")), trees(word("a"), el("p", word("b")), word("c"))},
		{trees(api.Tree{Text: mark.Of("x", 0), Kids: trees(word("a"), el("p"))}), trees(word("x"))}, // a text's kids and attributes
		{trees(api.Tree{Text: mark.Of("x", 0), Attrs: []api.Attr{pair("a", "1")}}), trees(word("x"))},
		{trees(api.Tree{Kids: trees(el("p", word("a"))), Attrs: []api.Attr{pair("a", "1")}}), nil},
		{trees(word("a"), api.Tree{Kids: trees(el("p"))}, word("b")), trees(word("ab"))},
		{trees(api.Tree{Tag: str("", 2, 1), Text: mark.Of("x", 0)}, word("y")), trees(word("xy"))}, // a tag without bytes
		{trees(with("p", pair("a", "1"), pair("a", "2"))), trees(with("p", pair("a", "1")))},       // attributes once
		{trees(with("p", pair("b", "1"), pair("a", "2"), pair("b", "3"), pair("", ""))), trees(with("p", pair("b", "1"), pair("a", "2"), pair("", "")))},
		{trees(el("p", with("q", dyed("a", 1, "1", 2), pair("a", "1")))), trees(el("p", with("q", dyed("a", 1, "1", 2))))},
		{trees(with("p", []api.Attr{}...)), trees(el("p"))},
		{trees(api.Tree{Tag: str("ab", 1, 0, 1, 3)}), trees(api.Tree{Tag: str("ab", 1, 0, 1, 3)})}, // a tag's origins
		{trees(el("\x00"), el(" "), el("P")), trees(el("\x00"), el(" "), el("P"))},                 // tags of any bytes
	} {
		checkMerge(t, c[0], c[1])
		checkMerge(t, c[1], c[1])
	}
}

func TestSameAndAlike(t *testing.T) { // P11.1
	one := func(tag api.Str, l []api.Attr, kids ...api.Tree) []api.Tree {
		return trees(word("w"), el("o", api.Tree{Tag: tag, Attrs: l, Kids: kids}, word("v")))
	}
	p, a := mark.Of("p", 0), []api.Attr{pair("a", "1"), pair("b", "2")}
	whole := one(p, a, word("xy"), el("q"), el("r"))
	for _, c := range []struct {
		b           []api.Tree
		same, alike bool
	}{
		{whole, true, true},
		{modelMerge(whole), true, true},
		{one(mark.Of("P", 0), a, word("xy"), el("q"), el("r")), false, false}, // a tag's bytes
		{one(mark.Of("pp", 0), a, word("xy"), el("q"), el("r")), false, false},
		{one(mark.Of("p", 1), a, word("xy"), el("q"), el("r")), false, true},                                             // its origin
		{one(p, []api.Attr{pair("a", "1"), pair("c", "2")}, word("xy"), el("q"), el("r")), false, false},                 // an attribute's name
		{one(p, []api.Attr{pair("a", "1"), dyed("b", 1, "2", 0)}, word("xy"), el("q"), el("r")), false, true},            // its origin
		{one(p, []api.Attr{pair("a", "1"), pair("b", "3")}, word("xy"), el("q"), el("r")), false, false},                 // the value
		{one(p, []api.Attr{pair("a", "1"), dyed("b", 0, "2", 1)}, word("xy"), el("q"), el("r")), false, true},            // its origin
		{one(p, []api.Attr{pair("b", "2"), pair("a", "1")}, word("xy"), el("q"), el("r")), true, true},                   // the order of attributes
		{one(p, []api.Attr{pair("b", "2"), dyed("a", 1, "1", 1)}, word("xy"), el("q"), el("r")), false, true},            // and an origin
		{one(p, []api.Attr{pair("a", "1"), pair("a", "9"), pair("b", "2")}, word("xy"), el("q"), el("r")), true, true},   // a name twice
		{one(p, []api.Attr{pair("a", "9"), pair("a", "1"), pair("b", "2")}, word("xy"), el("q"), el("r")), false, false}, // the first counts
		{one(p, []api.Attr{pair("a", "1"), dyed("a", 1, "9", 1), pair("b", "2")}, word("xy"), el("q"), el("r")), true, true},
		{one(p, a[:1], word("xy"), el("q"), el("r")), false, false}, // one less, one more
		{one(p, append(slices.Clone(a), pair("c", "")), word("xy"), el("q"), el("r")), false, false},
		{one(p, nil, word("xy"), el("q"), el("r")), false, false},
		{one(p, a, word("xz"), el("q"), el("r")), false, false}, // a text's bytes
		{one(p, a, word("x"), el("q"), el("r")), false, false},
		{one(p, a, word("Xy"), el("q"), el("r")), false, false},
		{one(p, a, text("xy", 1), el("q"), el("r")), false, true}, // its origins
		{one(p, a, word("x"), text("y", 1), el("q"), el("r")), false, true},
		{one(p, a, word("x"), word("y"), el("q"), el("r")), true, true}, // how texts are parted
		{one(p, a, api.Tree{}, word("xy"), el("q"), word(""), el("r"), text("", 4)), true, true},
		{one(p, a, word("x"), el("q"), word("y"), el("r")), false, false}, // where bytes stand
		{one(p, a, el("q"), word("xy"), el("r")), false, false},
		{one(p, a, word("xy"), el("q", el("r"))), false, false},
		{one(p, a, word("xy"), el("r"), el("q")), false, false},          // kids in another order
		{one(p, a, word("xy"), el("q"), el("r"), el("r")), false, false}, // one more, one less
		{one(p, a, word("xy"), el("q"), el("r"), word("z")), false, false},
		{one(p, a, word("xy"), el("q"), el("r", word("z"))), false, false},
		{one(p, a, word("xy"), el("q")), false, false},
		{one(p, a, word("xy")), false, false},
		{one(p, a), false, false},
		{one(api.Str{}, a, word("xy"), el("q"), el("r")), false, false}, // a text instead, of no bytes
		{one(p, a, word("xy"), api.Tree{Tag: mark.Of("q", 0), Text: mark.Of("u", 1)}, api.Tree{Tag: mark.Of("r", 0), Kids: trees()}), true, true},
		{one(p, a, api.Tree{Text: mark.Of("xy", 0), Attrs: a, Kids: whole}, el("q"), el("r")), true, true},
		{append(slices.Clone(whole), el("p")), false, false},
		{append(slices.Clone(whole), api.Tree{}), true, true},
		{whole[:1], false, false},
		{whole[1:], false, false},
		{nil, false, false},
	} {
		checkSame(t, whole, c.b, c.same, c.alike)
	}
	for _, l := range [][]api.Tree{nil, {}, {{}}, {{}, word("")}, {{Kids: whole, Attrs: a}}} { // nothing, however told
		checkSame(t, l, nil, true, true)
		checkSame(t, l, trees(), true, true)
		checkSame(t, l, trees(word("x")), false, false)
		checkSame(t, l, trees(el("x")), false, false)
	}
	checkSame(t, trees(el("x")), trees(word("x")), false, false)
	checkSame(t, trees(el("p", word("x"))), trees(word("x")), false, false)
	checkSame(t, trees(el("p"), word("x")), trees(el("p", word("x"))), false, false)
	checkSame(t, trees(text("x", 1), word("y")), trees(word("x"), text("y", 1)), false, true)
	checkSame(t, trees(text("x", 1), word("y")), trees(text("x", 1), text("", 2), word("y")), true, true)
}

func TestCounts(t *testing.T) { // P11.1
	for _, c := range []struct {
		l           []api.Tree
		size, depth int
	}{
		{nil, 0, 0},
		{trees(), 0, 0},
		{trees(word("")), 0, 0},
		{trees(word("a")), 1, 0}, // texts alone
		{trees(word("a"), word("b"), text("c", 2)), 1, 0},
		{trees(word("a"), api.Tree{}, word("b")), 1, 0},
		{trees(el("p")), 1, 1},
		{trees(el("p"), el("p"), el("q")), 3, 1}, // elements beside each other
		{trees(el("p", el("q", el("r")))), 3, 3}, // in one another
		{trees(el("p", word("a"))), 2, 1},
		{trees(el("p", word(""))), 1, 1},
		{trees(word("a"), word("b"), el("p", word("c"), word("d")), api.Tree{}, word("e")), 4, 1},
		{trees(word("a"), el("p"), word("b"), el("q"), word("c")), 5, 1},
		{trees(el("p", el("q")), el("r", el("s", el("t"))), el("u", el("v"))), 7, 3}, // the deepest in the middle
		{trees(el("p", el("q", el("r")), el("s")), el("t")), 5, 3},                   // first, last
		{trees(el("t"), el("p", el("s"), el("q", el("r")))), 5, 3},
		{trees(el("p", el("q", word("a"), word("b"), el("q"), word(""), word("c")))), 5, 3},
		{trees(api.Tree{Text: mark.Of("a", 0), Kids: trees(el("p", el("q")))}), 1, 0}, // a text's kids
		{trees(api.Tree{Kids: trees(el("p", el("q")), word("x"))}), 0, 0},
		{trees(word("a"), api.Tree{Kids: trees(el("p"))}, word("b")), 1, 0},
		{trees(api.Tree{Tag: mark.Of("p", 0), Text: mark.Of("a", 0)}), 1, 1}, // an element's text
		{trees(with("p", pair("a", "1"), pair("b", "2"))), 1, 1},             // attributes are neither
	} {
		checkCounts(t, c.l, c.size, c.depth)
		checkCounts(t, modelMerge(c.l), c.size, c.depth)
	}
}

func TestWordsAndTags(t *testing.T) { // P11.1
	for _, c := range []struct {
		l     []api.Tree
		words api.Str
		tags  []string
	}{
		{nil, str(""), nil},
		{trees(), str(""), nil},
		{trees(api.Tree{Text: str("", 1, 1)}), str(""), nil},
		{trees(word("a")), str("a", 1, 0), nil},
		{trees(word("b"), api.Tree{}, word("a")), str("ba", 2, 0), nil},
		{trees(word("a"), text("b", 3), text("c", 3)), str("abc", 1, 0, 2, 3), nil},
		{trees(el("p")), str(""), []string{"p"}},
		{trees(el("p"), el("p"), el("P"), el("")), str(""), []string{"p", "p", "P"}}, // each, though it stands twice
		{trees(el("p", el("q", el("r")), el("s")), el("t")), str(""), []string{"p", "q", "r", "s", "t"}},
		{trees(el("t"), el("p", el("s"), el("q", el("r")))), str(""), []string{"t", "p", "s", "q", "r"}},
		{trees(text("a", 1), el("p", text("b", 1), el("q", text("c", 2), text("d", 1)), text("e", 1)), text("f", 0)), str("abcdef", 2, 1, 1, 2, 2, 1, 1, 0), []string{"p", "q"}},
		{trees(el("p", word("b")), word("a"), el("q", word("c"))), str("bac", 3, 0), []string{"p", "q"}},
		{trees(el("p", word("x")), el("q", word("x"))), str("xx", 2, 0), []string{"p", "q"}},
		{trees(api.Tree{Tag: mark.Of("p", 4), Text: mark.Of("a", 0), Kids: trees(word("b"))}), str("b", 1, 0), []string{"p"}}, // an element's text
		{trees(api.Tree{Text: mark.Of("a", 0), Kids: trees(word("b"), el("p"))}), str("a", 1, 0), nil},                        // a text's kids
		{trees(api.Tree{Kids: trees(word("b"), el("p"))}), str(""), nil},
		{trees(with("p", pair("a", "1"))), str(""), []string{"p"}}, // values are no texts
		{trees(el("\xff\x00"), api.Tree{Text: str("\xc3", 1, 1)}, api.Tree{Text: str("\xa9", 1, 1)}), str("\xc3\xa9", 2, 1), []string{"\xff\x00"}},
	} {
		for _, l := range [][]api.Tree{c.l, modelMerge(c.l)} {
			checkWords(t, l, c.words)
			checkTags(t, l, c.tags...)
		}
	}
}

func TestShortListsAgainstModel(t *testing.T) { // P11.1
	for _, letters := range rows("xyX.efg)", 5) {
		checkOne(t, parse(letters))
		if t.Failed() {
			return
		}
	}
	short := rows("xX.eg)", 3)
	for _, a := range short {
		for _, b := range short {
			x, y := parse(a), parse(b)
			checkSame(t, x, y, modelSame(x, y), modelAlike(x, y))
		}
		if t.Failed() {
			return
		}
	}
	long := rows("xyX.eg)", 5)
	for i, a := range long {
		x, y := parse(a), parse(long[(i*31)%len(long)])
		checkSame(t, x, y, modelSame(x, y), modelAlike(x, y))
		y = parse(strings.NewReplacer("g", "e", "X", "x").Replace(a)) // as it is, but for origins
		checkSame(t, x, y, modelSame(x, y), true)
		y = parse(strings.NewReplacer("x", ".x.", "X", "X.", "e", ".e.").Replace(a)) // as it is, but for empty texts
		checkSame(t, x, y, true, true)
		if t.Failed() {
			return
		}
	}
}

func TestStrangeListsAgainstModel(t *testing.T) { // P11.1
	all := strangeLists()
	for i, a := range all {
		checkOne(t, a)
		for j, b := range all {
			if (i+j)%9 == 0 || i < 3 || i == j {
				checkSame(t, a, b, modelSame(a, b), modelAlike(a, b))
			}
		}
		checkSame(t, a, trusted(a), modelSame(a, trusted(a)), true)
		if t.Failed() {
			return
		}
	}
}

func TestTextsNotAsTold(t *testing.T) { // P11.1, and P5 of DOC.md
	wrong := trees(
		api.Tree{Text: str("xy", 1, 0)},
		api.Tree{Text: str("z", 7, math.MaxInt)},
		api.Tree{Tag: str("pq", 1, -3, 0, 1, 9, 0), Attrs: []api.Attr{{Name: str("n"), Value: str("v", 2, 2, 2, 2)}}, Kids: trees(api.Tree{Text: str("k", -1, 1)}, api.Tree{Text: str("l", math.MaxInt, 1)})},
	)
	right := trees(
		api.Tree{Text: str("xyz", 1, 0, 2, top)},
		api.Tree{Tag: str("pq", 2, 0), Attrs: []api.Attr{{Name: str("n", 1, top), Value: str("v", 1, 2)}}, Kids: trees(api.Tree{Text: str("kl", 1, top, 1, 1)})},
	)
	checkMerge(t, wrong, right)
	checkSame(t, wrong, right, true, true)
	checkSame(t, wrong, trusted(right), false, true)
	checkCounts(t, wrong, 3, 1)
	checkWords(t, wrong, str("xyzkl", 1, 0, 3, top, 1, 1))
	checkTags(t, wrong, "pq")
	for _, l := range strangeLists() {
		for _, s := range append(strs(Merge(l)), Words(l)) {
			if mark.Check(s) != api.OK {
				t.Fatalf("an answer to %v is not as told: %v", l, s)
			}
		}
	}
}

// strs tells all labelled texts of a list.
func strs(l []api.Tree) []api.Str {
	var out []api.Str
	for _, t := range l {
		out = append(out, t.Tag, t.Text)
		for _, a := range t.Attrs {
			out = append(out, a.Name, a.Value)
		}
		out = append(out, strs(t.Kids)...)
	}
	return out
}

func TestMergeTwice(t *testing.T) { // P11.2
	all := strangeLists()
	for _, letters := range rows("xyX.eg)", 4) {
		all = append(all, parse(letters))
	}
	for _, l := range all {
		once := Merge(l)
		if twice := Merge(once); !alikes(once, twice) {
			t.Fatalf("Merge(%v) = %v, of that again %v", l, once, twice)
		}
		if !Same(l, once) || !Same(once, l) || !Alike(l, once) || !Alike(once, l) {
			t.Fatalf("%v and Merge of it, %v, are not the same", l, once)
		}
		if Size(once) != Size(l) || Depth(once) != Depth(l) || !alike(Words(once), Words(l)) || !slices.Equal(Tags(once), Tags(l)) {
			t.Fatalf("%v and Merge of it, %v, have other numbers or texts", l, once)
		}
	}
}

// stretch is memory. It keeps what it tells of: memory given back could be given to another
// answer ahead of the comparison.
type stretch struct {
	kept unsafe.Pointer
	size uintptr
}

func (s stretch) from() uintptr { return uintptr(s.kept) }
func (s stretch) to() uintptr   { return s.from() + s.size }

// stretchOf tells the memory of a list, and what it could grow into.
func stretchOf[T any](l []T) stretch {
	var one T
	return stretch{unsafe.Pointer(unsafe.SliceData(l)), uintptr(cap(l)) * unsafe.Sizeof(one)}
}

func textStretch(text string) stretch {
	if text == "" {
		return stretch{}
	}
	return stretch{unsafe.Pointer(unsafe.StringData(text)), uintptr(len(text))}
}

// lists tells the memory of a list, and of all lists of trees and attributes in it.
func lists(l []api.Tree) []stretch {
	out := []stretch{stretchOf(l)}
	for _, t := range l {
		out = append(out, stretchOf(t.Attrs))
		out = append(out, lists(t.Kids)...)
	}
	return out
}

// stretches tells all memory of trees, texts and tags.
func stretches(l []api.Tree, texts []api.Str, tags []string) []stretch {
	out := append(lists(l), stretchOf(tags))
	for _, s := range append(strs(l), texts...) {
		out = append(out, stretchOf(s.Runs), textStretch(s.Text))
	}
	for _, tag := range tags {
		out = append(out, textStretch(tag))
	}
	return slices.DeleteFunc(out, func(s stretch) bool { return s.size == 0 })
}

// apart tells whether no two stretches have memory in common.
func apart(l []stretch) bool {
	slices.SortFunc(l, func(a, b stretch) int { return cmp.Compare(a.from(), b.from()) })
	for i := 1; i < len(l); i++ {
		if l[i].from() < l[i-1].to() {
			return false
		}
	}
	return true
}

// meets tells whether a stretch of the one has memory in common with one of the other.
func meets(a, b []stretch) bool {
	for _, x := range a {
		for _, y := range b {
			if x.from() < y.to() && y.from() < x.to() {
				return true
			}
		}
	}
	return false
}

// memoryLists are lists of which each call has something to tell, some with a part that
// stands in them more than once.
func memoryLists() [][]api.Tree {
	part := api.Tree{Tag: mark.Of("part", 1), Attrs: []api.Attr{pair("name", "value"), pair("other", "text"), pair("name", "two")}, Kids: trees(word("ab"), text("cd", 1), el("q"))}
	return append(strangeLists(),
		trees(part, part, word("one"), el("p", part, part), part, word("two")),
		trees(el("p", part.Kids...), el("p", part.Kids...), el("q", part.Kids[:1]...)),
		trees(word("one"), word("two"), text("three", 3), text("four", 4)),
		trees(word("one text alone")),
		trees(el("p", word("one text alone"))),
		trees(el("name"), el("name")),
	)
}

func TestAnswersAreNewMemory(t *testing.T) { // P11.3
	for _, l := range memoryLists() {
		if len(strs(l)) > 400 {
			l = l[:2]
		}
		told := append(stretches(Merge(l), []api.Str{Words(l)}, Tags(l)), stretches(Merge(l), []api.Str{Words(l)}, Tags(l))...)
		again := Merge(Merge(l)) // what is merged already is copied too
		once := Merge(again)
		told = append(told, stretches(again, []api.Str{Words(again)}, Tags(again))...)
		told = append(told, stretches(once, []api.Str{Words(once)}, Tags(once))...)
		if meets(told, stretches(l, nil, nil)) {
			t.Fatalf("answers to %v share memory with what was handed in", l)
		}
		if !apart(told) {
			t.Fatalf("answers to %v share memory with one another", l)
		}
	}
}

// scribble writes over all that an answer can reach.
func scribble(l []api.Tree) {
	over := func(s api.Str) {
		runs := s.Runs[:cap(s.Runs)]
		for i := range runs {
			runs[i] = api.Run{Len: -9, Origin: -9}
		}
	}
	for _, t := range l {
		over(t.Tag)
		over(t.Text)
		for _, a := range t.Attrs {
			over(a.Name)
			over(a.Value)
		}
		scribble(t.Kids)
		l := t.Attrs[:cap(t.Attrs)]
		for i := range l {
			l[i] = pair("scribbled", "x")
		}
	}
	l = l[:cap(l)]
	for i := range l {
		l[i] = el("scribbled", word("x"))
	}
}

func TestAnswersWrittenOver(t *testing.T) { // P11.3
	for _, l := range memoryLists() {
		want := clones(l)
		words, tags := modelWords(l), modelTags(l)
		again := Merge(l)
		scribble(Merge(l))
		scribble(trees(api.Tree{Text: Words(l)}))
		for i, over := 0, Tags(l); i < len(over); i++ {
			over[i] = "scribbled"
		}
		if !alikes(l, want) {
			t.Fatalf("answers written over change what was handed in: from %v to %v", want, l)
		}
		if !alikes(again, modelMerge(l)) || !alike(Words(l), words) || !slices.Equal(Tags(l), tags) {
			t.Fatalf("answers written over change other answers to %v", l)
		}
	}
}

// clones tells a copy of all that is handed in, runs as they are.
func clones(l []api.Tree) []api.Tree {
	clone := func(s api.Str) api.Str {
		return api.Str{Text: strings.Clone(s.Text), Runs: slices.Clone(s.Runs)}
	}
	var out []api.Tree
	for _, t := range l {
		n := api.Tree{Tag: clone(t.Tag), Text: clone(t.Text), Kids: clones(t.Kids)}
		for _, a := range t.Attrs {
			n.Attrs = append(n.Attrs, api.Attr{Name: clone(a.Name), Value: clone(a.Value)})
		}
		out = append(out, n)
	}
	return out
}

// askAll asks all calls.
func askAll(a, b []api.Tree) {
	Merge(a)
	Same(a, b)
	Alike(a, b)
	Size(a)
	Depth(a)
	Words(a)
	Tags(a)
}

func TestArgumentsAreNotChanged(t *testing.T) { // P11.3
	all := memoryLists()
	for i, a := range all {
		b := all[(i+1)%len(all)]
		beforeA, beforeB := clones(a), clones(b)
		askAll(a, b)
		askAll(b, a)
		if !alikes(a, beforeA) || !alikes(b, beforeB) {
			t.Fatalf("from %v, %v to %v, %v", beforeA, beforeB, a, b)
		}
	}
	own := trees(word("a"), word("b"), el("p"), word(""), word("c"), with("q", pair("a", "1"), pair("a", "2"), pair("b", "3"))) // an append in place would write behind what is handed in
	want := clones(own)
	for n := range len(own) {
		askAll(own[:n], own[n:])
		askAll(trees(el("p", own[:n]...)), trees(el("p", own[n:]...)))
	}
	l := own[5].Attrs
	askAll(trees(with("q", l[:1]...)), trees(with("q", l[:2]...)))
	if !alikes(own, want) {
		t.Fatalf("memory behind what is handed in changed: %v", own)
	}
	runs := []api.Run{{Len: 1, Origin: 1}, {Len: 1, Origin: 2}, {Len: 1, Origin: 3}}
	s := api.Str{Text: "abc", Runs: runs[:1]}
	askAll(trees(api.Tree{Text: s}, api.Tree{Text: s}, api.Tree{Tag: s, Attrs: []api.Attr{{Name: s, Value: s}}}), trees(api.Tree{Text: s}))
	if !slices.Equal(runs, []api.Run{{Len: 1, Origin: 1}, {Len: 1, Origin: 2}, {Len: 1, Origin: 3}}) {
		t.Errorf("memory behind the runs changed: %v", runs)
	}
}

func TestNothingIsKept(t *testing.T) { // P11.3, and P3 of DOC.md
	runs := []api.Run{{Len: 2, Origin: 1}}
	l := trees(el("p", api.Tree{Text: api.Str{Text: "xy", Runs: runs}}), api.Tree{Text: api.Str{Text: "xy", Runs: runs}})
	merged, words, tags := Merge(l), Words(l), Tags(l)
	runs[0].Origin = 9 // what was handed in is changed afterwards
	l[0].Tag = mark.Of("q", 0)
	l[0].Kids[0] = el("r")
	if !alikes(merged, trees(el("p", text("xy", 1)), text("xy", 1))) || !alike(words, mark.Of("xyxy", 1)) || !slices.Equal(tags, []string{"p"}) {
		t.Errorf("answers changed to %v, %v and %q", merged, words, tags)
	}
	for _, l := range strangeLists() {
		first, words, tags := Merge(l), Words(l), Tags(l)
		same, without, size, depth := Same(l, merged), Alike(l, merged), Size(l), Depth(l)
		askAll(trees(el("other", word("other"))), l)
		if !alikes(first, Merge(l)) || !alike(words, Words(l)) || !slices.Equal(tags, Tags(l)) || same != Same(l, merged) || without != Alike(l, merged) || size != Size(l) || depth != Depth(l) {
			t.Fatalf("answers to %v differ", l)
		}
	}
}

func TestFoundEnds(t *testing.T) { // what is gone through may be left at any place
	l := parse("xx.eyexX))fg)x)y")
	count := Size(l)
	for n := range count {
		left := n
		for range found(l, func(api.Tree) bool { return true }) {
			if left == 0 {
				break
			}
			left--
		}
		if left != 0 {
			t.Errorf("left at %d: %d not come to", n, left)
		}
	}
	for range siblings(parse("x.x")) {
		break
	}
}

func TestDeepTrees(t *testing.T) { // P1 of DOC.md: as many levels as may be
	const n = 1 << 16
	deep := func(end api.Tree) []api.Tree {
		l := trees(end)
		for range n - 1 {
			l = trees(word("a"), el("p", l...), api.Tree{}, word("b"), word("c"))
		}
		return trees(el("p", l...))
	}
	a, b := deep(word("x")), deep(word("y"))
	checkCounts(t, a, 3*n-1, n)
	checkWords(t, a, mark.Of(strings.Repeat("a", n-1)+"x"+strings.Repeat("bc", n-1), 0))
	if tags := Tags(a); len(tags) != n {
		t.Errorf("there are %d tags", len(tags))
	}
	m := Merge(a)
	if !Same(a, m) || !Same(m, a) || !Alike(a, m) || Same(a, b) || Alike(b, m) || Size(m) != 3*n-1 {
		t.Error("what is merged is not the same, or another is")
	}
}

func TestLongLists(t *testing.T) { // P1 of DOC.md: an end within bearable time
	const n = 1 << 17
	var texts, elements []api.Tree
	for i := range n {
		texts = append(texts, text(strconv.Itoa(i%10), i%3))
		elements = append(elements, el("p"+strconv.Itoa(i), word("x"), word("y")))
	}
	if got := Merge(texts); len(got) != 1 || len(got[0].Text.Text) != n || len(got[0].Text.Runs) != n || got[0].Text.Text[n-1] != strconv.Itoa((n - 1) % 10)[0] {
		t.Errorf("Merge has %d texts", len(got))
	}
	checkCounts(t, texts, 1, 0)
	checkCounts(t, elements, 2*n, 1)
	if got := Words(elements); got.Text != strings.Repeat("xy", n) || len(got.Runs) != 1 {
		t.Errorf("Words has %d bytes", len(got.Text))
	}
	if got := Tags(elements); len(got) != n || got[n-1] != "p"+strconv.Itoa(n-1) {
		t.Errorf("Tags has %d", len(got))
	}
	one := trees(el("p", slices.Concat(elements, texts)...))
	if !Same(one, Merge(one)) || Same(one, elements) || !Alike(one, Merge(one)) || Size(one) != 2*n+2 {
		t.Error("one element of them all")
	}
	other := trees(el("p", slices.Concat(elements, texts, trees(text("0", 9)))...))
	if Same(one, other) || Alike(one, other) {
		t.Error("a byte more is the same")
	}
}
