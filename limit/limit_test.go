package limit

import (
	"math"
	"math/bits"
	"runtime"
	"slices"
	"strconv"
	"strings"
	"sync"
	"testing"
	"unsafe"
	"weak"

	"glazier/api"
	"glazier/mark"
)

// The kinds of views that are neither elements nor words nor slots.
func otherKinds() []int {
	return []int{0, -1, -2, -3, 4, 5, 257, 1<<32 + 1, 1<<32 + 2, 1<<32 + 3, math.MaxInt, math.MinInt}
}

// kinds are all kinds, and some that are none.
func kinds() []int {
	return append([]int{api.Element, api.Words, api.Slot}, otherKinds()...)
}

// The views of the tests.

func views(l ...api.View) []api.View {
	return l
}

// kind writes a view of a kind, with kids whatever it is.
func kind(k int, kids ...api.View) api.View {
	return api.View{Kind: k, Kids: kids}
}

// el writes an element.
func el(kids ...api.View) api.View {
	return api.View{Kind: api.Element, Tag: mark.Of("p", 0), Kids: kids}
}

// word writes words.
func word(kids ...api.View) api.View {
	return api.View{Kind: api.Words, Text: mark.Of("x", 1), Kids: kids}
}

// slot writes a slot.
func slot(n int, kids ...api.View) api.View {
	return api.View{Kind: api.Slot, Slot: n, Kids: kids}
}

// none writes a view of no kind.
func none(kids ...api.View) api.View {
	return api.View{Kids: kids}
}

// keyed writes a view with a key.
func keyed(key string, v api.View) api.View {
	v.Key = key
	return v
}

// k writes a view with a key and nothing else.
func k(key string) api.View {
	return api.View{Key: key}
}

// times writes a view so many times.
func times(n int, v api.View) []api.View {
	return slices.Repeat(views(v), n)
}

// tower writes so many views, each within the one ahead of it; put tells each of its kids.
func tower(n int, put func(kids ...api.View) api.View, end ...api.View) []api.View {
	for range n {
		end = views(put(end...))
	}
	return end
}

// attrsOf writes so many attributes, all of one name.
func attrsOf(n int) []api.Attr {
	return slices.Repeat([]api.Attr{{Name: mark.Of("id", 0), Value: mark.Of("x", 1)}}, n)
}

// hooksOf writes so many hooks, of no event.
func hooksOf(n int) []api.Hook {
	return make([]api.Hook, n)
}

// The model: all that plays a part, each with its place, as a row.

// entry is a view of the row: of which list it is, and how many elements and slots it
// stands in, itself counted.
type entry struct {
	view  api.View
	list  int
	depth int
}

// row tells all views of l and within them that play a part, one level behind the other.
func row(l []api.View) []entry {
	var out []entry
	lists := 0
	add := func(kids []api.View, depth int) {
		for _, v := range kids {
			e := entry{v, lists, depth}
			switch v.Kind {
			case 1, 3:
				e.depth++
			}
			out = append(out, e)
		}
		lists++
	}
	add(l, 0)
	for i := 0; i < len(out); i++ {
		if e := out[i]; e.view.Kind != 2 && e.view.Kind != 3 {
			add(e.view.Kids, e.depth)
		}
	}
	return out
}

func modelDepth(l []api.View) int {
	depth := 0
	for _, e := range row(l) {
		depth = max(depth, e.depth)
	}
	return depth
}

func modelKeys(l []api.View) bool {
	all := row(l)
	for i, a := range all {
		for _, b := range all[:i] {
			if a.list == b.list && a.view.Key == b.view.Key && len(a.view.Key) != 0 {
				return false
			}
			if a.view.Kind == 3 && b.view.Kind == 3 && a.view.Slot == b.view.Slot {
				return false
			}
		}
	}
	return true
}

// modelLong tells whether a view of the row has a text or a key that is too long.
func modelLong(l []api.View) bool {
	for _, e := range row(l) {
		longest := max(len(e.view.Tag.Text), len(e.view.Text.Text))
		for _, a := range e.view.Attrs {
			longest = max(longest, len(a.Name.Text), len(a.Value.Text))
		}
		if longest >= 4097 || len(e.view.Key) >= 33 {
			return true
		}
	}
	return false
}

// modelMany tells whether a view of the row has too many attributes or hooks.
func modelMany(l []api.View) bool {
	for _, e := range row(l) {
		if max(len(e.view.Attrs), len(e.view.Hooks)) >= 9 {
			return true
		}
	}
	return false
}

// modelCheck tells the first error, as the chapter names them.
func modelCheck(l []api.View) api.Errno {
	broken := []bool{modelDepth(l) >= 13, len(row(l)) >= 128, !modelKeys(l), modelLong(l), modelMany(l), true}
	return []api.Errno{23, 24, 25, 5, 3, 0}[slices.Index(broken, true)]
}

// The checks: each holds a call's answer against what is wanted.

func checkDepth(t *testing.T, l []api.View, want int) {
	t.Helper()
	if got := Depth(l); got != want {
		t.Errorf("Depth(%s) = %d, want %d", brief(l), got, want)
	}
}

func checkSize(t *testing.T, l []api.View, want int) {
	t.Helper()
	if got := Size(l); got != want {
		t.Errorf("Size(%s) = %d, want %d", brief(l), got, want)
	}
}

func checkKeys(t *testing.T, l []api.View, want bool) {
	t.Helper()
	if got := Keys(l); got != want {
		t.Errorf("Keys(%s) = %v, want %v", brief(l), got, want)
	}
	if err := Check(l); (err == api.ErrKey) == want {
		t.Errorf("Check(%s) = %d, though Keys is to be %v", brief(l), err, want)
	}
}

func checkCheck(t *testing.T, l []api.View, want api.Errno) {
	t.Helper()
	if got := Check(l); got != want {
		t.Errorf("Check(%s) = %d, want %d", brief(l), got, want)
	}
}

// checkOne holds all calls against the models.
func checkOne(t *testing.T, l []api.View) {
	t.Helper()
	checkDepth(t, l, modelDepth(l))
	checkSize(t, l, len(row(l)))
	if got := Keys(l); got != modelKeys(l) {
		t.Errorf("Keys(%s) = %v", brief(l), got)
	}
	checkCheck(t, l, modelCheck(l))
}

// brief tells views as a short text.
func brief(l []api.View) string {
	var b strings.Builder
	for _, v := range l {
		b.WriteString(" " + strconv.Itoa(v.Kind))
		if v.Key != "" {
			b.WriteString(strconv.Quote(v.Key[:min(len(v.Key), 9)]))
		}
		if v.Kind == api.Slot {
			b.WriteString("#" + strconv.Itoa(v.Slot))
		}
		if len(v.Kids) > 0 {
			b.WriteString("(" + brief(v.Kids) + ")")
		}
		if b.Len() > 300 {
			return b.String()[:300] + " .."
		}
	}
	return strings.TrimSpace(b.String())
}

// The views of all kinds, told by turns.

// draws tells a function that tells numbers from 0, below n, the same ones each time.
func draws(seed uint64) func(n int) int {
	return func(n int) int {
		seed = seed*6364136223846793005 + 1442695040888963407
		return int(seed>>33) % n
	}
}

func pick[T any](draw func(n int) int, l ...T) T {
	return l[draw(len(l))]
}

// drawStr tells a text, short but for one of many.
func drawStr(draw func(n int) int) api.Str {
	n := draw(3)
	if draw(150) == 0 {
		n = pick(draw, api.MaxStr-1, api.MaxStr, api.MaxStr+1, api.MaxStr+2)
	}
	return mark.Of(strings.Repeat("a", n), draw(3))
}

// drawKey tells a key, of a few or of many.
func drawKey(draw func(n int) int) string {
	switch draw(8) {
	case 0:
		return pick(draw, "a", "b", "\x00")
	case 1:
		return strconv.Itoa(draw(1000))
	case 2:
		if draw(15) == 0 {
			return strings.Repeat("k", pick(draw, api.MaxKey-1, api.MaxKey, api.MaxKey+1)) + pick(draw, "", "1")
		}
	}
	return ""
}

// drawView tells a view without kids.
func drawView(draw func(n int) int) api.View {
	v := api.View{Kind: pick(draw, 1, 1, 1, 1, 1, 1, 2, 2, 3, 0, 4, -1), Key: drawKey(draw)}
	v.Tag, v.Text = drawStr(draw), drawStr(draw)
	v.Slot = pick(draw, 0, 1, 2, -1, draw(1000), -draw(1000), draw(1000))
	few := 4
	if draw(60) == 0 {
		few = 11
	}
	for range draw(few) {
		v.Attrs = append(v.Attrs, api.Attr{Name: drawStr(draw), Value: drawStr(draw)})
	}
	v.Hooks = hooksOf(draw(few))
	return v
}

// drawViews tells so many views at most, put into one another; steep ones have most of them
// within the first.
func drawViews(draw func(n int) int, most int, steep bool) []api.View {
	var out []api.View
	for most > 0 {
		n := 1 + draw(most)
		if steep {
			n = max(1, most-draw(3))
		}
		v := drawView(draw)
		if steep && draw(12) > 0 {
			v.Kind = pick(draw, api.Element, api.Element, 0)
		}
		v.Kids = drawViews(draw, n-1, steep)
		out = append(out, v)
		most -= n
	}
	return out
}

// strangeLists tells n lists of views of all kinds.
func strangeLists(n int) [][]api.View {
	out := [][]api.View{nil, {}, {{}}, {{}, {}}}
	draw := draws(18)
	for range n {
		out = append(out, drawViews(draw, pick(draw, 3, 10, 25, 25, 40, 250), draw(4) == 0))
	}
	return out
}

func TestExample(t *testing.T) { // P18.1: the chapter's example
	v := word()
	v.Key = "one key"
	checkKeys(t, views(v, v), false)
	checkCheck(t, views(v, v), api.ErrKey)
}

func TestNothing(t *testing.T) { // P18.1
	for _, l := range [][]api.View{nil, {}, make([]api.View, 0, 9)} {
		checkDepth(t, l, 0)
		checkSize(t, l, 0)
		checkKeys(t, l, true)
		checkCheck(t, l, api.OK)
	}
	for _, kind := range kinds() { // kids that are none
		for _, kids := range [][]api.View{nil, {}, make([]api.View, 0, 9)} {
			l := views(api.View{Kind: kind, Kids: kids, Attrs: []api.Attr{}, Hooks: []api.Hook{}})
			checkSize(t, l, 1)
			checkOne(t, l)
			checkCheck(t, l, api.OK)
		}
	}
}

func TestDepth(t *testing.T) { // P18.1
	for _, c := range []struct {
		l    []api.View
		want int
	}{
		{views(el()), 1},
		{views(slot(1)), 1},
		{views(slot(0)), 1}, // whatever its Slot is
		{views(slot(-7)), 1},
		{views(word()), 0},
		{views(none()), 0},
		{views(word(), none(), word()), 0},
		{views(el(), el(), el()), 1}, // beside one another
		{views(el(word())), 1},
		{views(el(none())), 1},
		{views(el(slot(1))), 2},
		{views(el(el())), 2},
		{views(el(el(el()))), 3},
		{views(el(el(el(slot(1))))), 4},
		{views(el(), el(el()), el()), 2}, // the deepest, wherever it stands
		{views(el(el(el())), el(el())), 3},
		{views(el(el()), el(el(el()))), 3},
		{views(el(el(), word(), el(el()), el())), 3},
		{views(word(el(el()))), 0}, // kids of words play no part
		{views(slot(1, el(el()))), 1},
		{views(slot(1, slot(2))), 1},
		{views(el(word(el(el())), slot(1, el()))), 2},
		{views(none(el())), 1}, // those of other kinds do
		{views(none(none(el(none(slot(1)))))), 2},
		{views(none(word(el()))), 0},
		{views(none(slot(1, el()))), 1},
		{views(el(none(el(none(el()))))), 3},
		{views(none(el(), el(el())), el(el(), none(el(el())))), 3},
	} {
		checkDepth(t, c.l, c.want)
		checkOne(t, c.l)
	}
	for _, k := range otherKinds() { // each kind that is none counts not itself
		checkDepth(t, views(kind(k)), 0)
		checkDepth(t, views(kind(k, kind(k, kind(k)))), 0)
		checkDepth(t, views(kind(k, el(kind(k, el(kind(k)))))), 2)
		checkDepth(t, views(el(kind(k, slot(1)))), 2)
	}
	bare := views(api.View{Kind: 1, Kids: views(api.View{Kind: 1})}) // an element is one without a tag too
	checkDepth(t, bare, 2)
	tagged := none(word())
	tagged.Tag = mark.Of("div", 0) // and what is none is none with one
	checkDepth(t, views(tagged), 0)
}

func TestSize(t *testing.T) { // P18.1
	for _, c := range []struct {
		l    []api.View
		want int
	}{
		{views(el()), 1},
		{views(word()), 1},
		{views(slot(1)), 1},
		{views(none()), 1},
		{views(el(), word(), slot(1), none()), 4},
		{views(el(el())), 2},
		{views(el(el(), word(), slot(1), none())), 5},
		{views(el(el(el(word(), word())), word()), el(word())), 8},
		{views(word(word(), el())), 1}, // kids of words play no part
		{views(slot(1, word(), el(el()))), 1},
		{views(el(word(el()), slot(1, el(), el()), el())), 4},
		{views(none(word(), el(), none(slot(2)))), 5}, // those of other kinds do
		{views(none(word(el()), slot(1, el()))), 3},
		{views(k(""), k("a"), k("a")), 3}, // those of one key count all
		{views(slot(1), slot(1)), 2},
	} {
		checkSize(t, c.l, c.want)
		checkOne(t, c.l)
	}
	for _, k := range otherKinds() {
		checkSize(t, views(kind(k)), 1)
		checkSize(t, views(kind(k, kind(k, word()), el(kind(k))), word()), 6)
	}
	empty := api.View{Kind: api.Words} // words without a text, and elements without a tag, are views too
	checkSize(t, views(empty, empty, api.View{Kind: api.Element, Kids: views(empty)}), 4)
}

func TestKeys(t *testing.T) { // P18.1: siblings of one key
	for _, c := range []struct {
		l    []api.View
		want bool
	}{
		{views(k("a")), true},
		{views(k("a"), k("b")), true},
		{views(k("a"), k("a")), false},
		{views(k("a"), k("b"), k("a")), false}, // not beside one another
		{views(k(""), k("a"), k(""), k("b"), k(""), k("b")), false},
		{views(k(""), k("")), true}, // no key
		{views(k(""), k("a"), k(""), k("b"), k("")), true},
		{views(k("a"), k("A"), k(" a"), k("a "), k("aa"), k("a\x00"), k("\xc3\xa1")), true}, // held against each other byte by byte
		{views(k("\x00"), k("\x00")), false},
		{views(k(" "), k(" ")), false},
		{views(k("\xff"), k("\xfe"), k("\xef\xbf\xbd")), true},
		{views(k("\xff"), k("\xfe"), k("\xff")), false},
		{views(k("\xc3\xa9"), k("e\xcc\x81")), true},
		{views(el(k("a"), k("a"))), false}, // within one another
		{views(none(k("a"), k("a"))), false},
		{views(el(el(none(el(k("a"), word(), k("a")))))), false},
		{views(el(), word(), el(k("a")), el(k("b"), k("a"), k("b"))), false},
		{views(el(k("a"), k("a")), el()), false}, // wherever it is
		{views(el(k("a")), el(k("a"))), true},    // not siblings
		{views(k("a"), el(k("a"), el(k("a")))), true},
		{views(keyed("a", el(keyed("a", el(k("a")))))), true},
		{views(keyed("a", none(keyed("a", none(k("a")))))), true}, // what is of no kind has kids of its own
		{views(none(k("a")), k("a")), true},
		{views(none(k("a")), none(k("a"))), true},
		{views(el(k("a"), k("b")), el(k("b"), k("a")), k("a"), k("b")), true},
		{views(word(k("a"), k("a"))), true}, // kids of words and slots play no part
		{views(slot(1, k("a"), k("a"))), true},
		{views(el(word(k("a"), k("a")), slot(1, k("a"), k("a")), k("a"))), true},
		{views(none(el(slot(1, el(k("a"), k("a")))))), true},
	} {
		checkKeys(t, c.l, c.want)
		checkOne(t, c.l)
	}
	for _, a := range kinds() { // views of all kinds have keys
		for _, b := range kinds() {
			x, y := api.View{Kind: a, Key: "key", Slot: 1}, api.View{Kind: b, Key: "key", Slot: 2}
			checkKeys(t, views(x, y), false)
			checkKeys(t, views(word(), el(x, word(), y)), false)
			y.Key = "other key"
			checkKeys(t, views(x, y), true)
			x.Key, y.Key = "", ""
			checkKeys(t, views(x, y), true)
		}
	}
}

func TestLongKeys(t *testing.T) { // P18.1: all of a key counts, however long
	long := strings.Repeat("k", 1<<16)
	for _, c := range []struct {
		l    []api.View
		want bool
	}{
		{views(k(long), k(long)), false},
		{views(k(long), k(long+"x")), true},
		{views(k(long+"x"), k(long+"y")), true},
		{views(k("x"+long), k("y"+long)), true},
		{views(k(long[:api.MaxKey]), k(long[:api.MaxKey])), false},
		{views(k(long[:api.MaxKey]), k(long[:api.MaxKey-1]+"x")), true},
	} {
		if got := Keys(c.l); got != c.want {
			t.Errorf("Keys(%s) = %v", brief(c.l), got)
		}
		checkOne(t, c.l)
	}
}

func TestSlots(t *testing.T) { // P18.1: slots of one Slot
	numbers := []int{0, 1, 2, 3, 4, -1, -2, 255, 256, -256, 1 << 32, 1<<32 + 1, -1 << 32, math.MaxInt, math.MinInt}
	for _, n := range numbers {
		one := slot(n)
		for _, l := range [][]api.View{
			{one, one},
			{one, word(), one},
			{el(one, one)},
			{el(one), el(one)}, // not siblings
			{one, el(one)},
			{el(one), one},
			{el(el(el(one))), word(), none(none(one))},
			{none(one), none(one)},
			{one, none(one)},
			{keyed("a", one), keyed("b", one)}, // whatever their keys are
		} {
			checkKeys(t, l, false)
			checkOne(t, l)
		}
		for _, k := range append(otherKinds(), api.Element, api.Words) { // what is no slot
			other := api.View{Kind: k, Slot: n}
			checkKeys(t, views(one, other), true)
			checkKeys(t, views(other, one, other, el(other)), true)
		}
		for _, l := range [][]api.View{ // slots that play no part
			{slot(n, one)},
			{slot(n, one, one)},
			{one, word(one)},
			{word(one, one)},
			{el(one, word(one), el(word(one)))},
		} {
			checkKeys(t, l, true)
			checkOne(t, l)
		}
	}
	var all, deep []api.View
	for _, n := range numbers {
		all = append(all, slot(n))
		deep = append(views(slot(n)), none(deep...))
	}
	checkKeys(t, all, true)
	checkKeys(t, deep, true)
	checkKeys(t, append(all, el(slot(-2))), false)
	checkKeys(t, append(deep, none(slot(-2))), false)
}

func TestCheckDepth(t *testing.T) { // P18.1: levels, one less, as many as may be, one more
	for n := 9; n <= 14; n++ {
		want := api.OK
		if n > 12 {
			want = api.ErrDepth
		}
		for _, l := range [][]api.View{
			tower(n, el),
			tower(n, el, word()),
			tower(n, el, none(word(), none())),
			tower(n-1, el, slot(1)),
			tower(n-1, el, slot(1, el(el()))),
			tower(n-1, el, word(el(el(el()))), none(slot(-1))),
			append(views(word(), el()), tower(n, el)...),
			append(tower(n, el), word(), el()),
			views(none(none(tower(n, el)...))),
			tower(n, func(kids ...api.View) api.View { return none(el(kids...)) }), // what is none between
			tower(n-2, el, word(), none(el(slot(2))), el()),
		} {
			checkDepth(t, l, n)
			checkCheck(t, l, want)
			checkOne(t, l)
		}
	}
	checkCheck(t, tower(100, none), api.OK) // what does not count as a level
	checkCheck(t, tower(100, none, tower(12, el)...), api.OK)
	checkCheck(t, tower(100, none, tower(13, el)...), api.ErrDepth)
	checkCheck(t, views(word(tower(13, el)...), slot(1, tower(13, el)...)), api.OK)
	checkCheck(t, tower(11, el, word(tower(13, el)...), slot(1, tower(13, el)...)), api.OK)
}

func TestCheckSize(t *testing.T) { // P18.1: views, one less, as many as may be, one more
	for n := 125; n <= 130; n++ {
		want := api.OK
		if n > 127 {
			want = api.ErrSize
		}
		var slots []api.View
		for i := range n {
			slots = append(slots, slot(i))
		}
		for _, l := range [][]api.View{
			times(n, el()),
			times(n, word()),
			times(n, none()),
			slots,
			times(n, word(el(), el())),
			views(el(times(n-1, word())...)),
			views(none(times(n-1, el())...)),
			tower(n, none),
			tower(9, el, times(n-9, none())...),
			append(times(n-100, none()), tower(100, none)...),
			append(times(50, el()), el(times(n-51, el())...)),
			append(tower(5, el), append(tower(6, el, slot(1, el())), times(n-12, word())...)...),
			views(el(slots[:n-1]...)),
		} {
			checkSize(t, l, n)
			checkCheck(t, l, want)
			checkOne(t, l)
		}
	}
	checkCheck(t, views(word(times(500, el())...), slot(1, times(500, el())...)), api.OK)
}

// placed tells lists in which v stands, each in another place, and the others where it
// plays no part.
func placed(v api.View) (part, none [][]api.View) {
	part = [][]api.View{
		{v},
		{word(), el(), v},
		{v, word(), el()},
		{el(v)},
		{el(word(), el(el(v), word()))},
		tower(11, el, v),
		append(times(100, word()), el(v)),
	}
	for _, k := range otherKinds() {
		part = append(part, views(kind(k, v)), views(el(kind(k, kind(k), v))))
	}
	none = [][]api.View{
		{word(v)},
		{slot(99, v)},
		{el(word(v))},
		{el(slot(99, v), word(el(v)))},
		{word(el(el(v))), slot(99, kind(0, v))},
	}
	return part, none
}

// checkPlaced wants an error of v wherever it plays a part, and none where it plays none.
func checkPlaced(t *testing.T, v api.View, want api.Errno) {
	t.Helper()
	part, none := placed(v)
	for _, l := range part {
		checkCheck(t, l, want)
	}
	for _, l := range none {
		checkCheck(t, l, api.OK)
	}
}

func TestCheckTexts(t *testing.T) { // P18.1: bytes of a Tag, a Text, a Name and a Value
	of := func(n int) []api.Str {
		a, two := strings.Repeat("a", n), strings.Repeat("\xc3\xa9", n/2)
		return []api.Str{
			mark.Of(a, 0),
			mark.Of(a, 1),
			{Text: a}, // bytes count, whatever the runs say
			{Text: a, Runs: []api.Run{{Len: 1}}},
			{Text: a, Runs: []api.Run{{Len: math.MaxInt}, {Len: math.MaxInt, Origin: -1}}},
			mark.Of(two+a[len(two):], 0), // not signs
			mark.Of(strings.Repeat("\x00", n), 0),
			mark.Of(strings.Repeat("\xff", n), 0),
			mark.Of(strings.Repeat(" ", n), 0),
		}
	}
	for n := 4094; n <= 4099; n++ {
		want := api.OK
		if n > 4096 {
			want = api.ErrLong
		}
		for _, s := range of(n) {
			for _, k := range kinds() { // each of these counts of each kind
				checkCheck(t, views(api.View{Kind: k, Tag: s}), want)
				checkCheck(t, views(api.View{Kind: k, Text: s}), want)
				checkCheck(t, views(api.View{Kind: k, Attrs: []api.Attr{{Name: s}}}), want)
				checkCheck(t, views(api.View{Kind: k, Attrs: []api.Attr{{Value: s}}}), want)
				for at := range 8 { // of each attribute
					v := api.View{Kind: k, Attrs: attrsOf(8)}
					v.Attrs[at].Name = s
					checkCheck(t, views(el(v)), want)
					v = api.View{Kind: k, Attrs: attrsOf(8)}
					v.Attrs[at].Value = s
					checkCheck(t, views(el(v)), want)
				}
				full := api.View{Kind: k, Tag: s, Text: s, Attrs: []api.Attr{{Name: s, Value: s}, {Name: s, Value: s}}}
				other := full
				other.Slot = 1
				checkCheck(t, views(full, other), want) // each counts by itself
				checkOne(t, views(full))
			}
		}
		long := mark.Of(strings.Repeat("a", n), 1)
		for _, k := range kinds() {
			checkPlaced(t, api.View{Kind: k, Tag: long}, want)
			checkPlaced(t, api.View{Kind: k, Text: long}, want)
			checkPlaced(t, api.View{Kind: k, Attrs: []api.Attr{{Name: long}}}, want)
			checkPlaced(t, api.View{Kind: k, Attrs: []api.Attr{{Value: long}}}, want)
		}
	}
	short := api.Str{Text: "a", Runs: slices.Repeat([]api.Run{{Len: 5000, Origin: 1}}, 5000)}
	checkCheck(t, views(api.View{Kind: 1, Tag: short, Text: short, Attrs: []api.Attr{{Name: short, Value: short}}}), api.OK)
}

func TestCheckKeyBytes(t *testing.T) { // P18.1: bytes of a Key
	for n := 30; n <= 40; n++ {
		want := api.OK
		if n > 32 {
			want = api.ErrLong
		}
		for _, kind := range kinds() {
			for _, sign := range []string{"k", "\x00", "\xff", " "} {
				key := strings.Repeat(sign, n)
				v := api.View{Kind: kind, Key: key, Slot: 1}
				checkCheck(t, views(v), want)
				checkCheck(t, views(keyed(key[:n-1], word()), v), want)
				checkOne(t, views(v))
			}
			checkPlaced(t, api.View{Kind: kind, Key: strings.Repeat("k", n)}, want)
			two := strings.Repeat("\xc3\xa9", 20)[:n] // bytes, not signs
			checkCheck(t, views(api.View{Kind: kind, Key: two}), want)
		}
	}
	checkCheck(t, views(k(strings.Repeat("k", 1<<16))), api.ErrLong)
}

func TestCheckCounts(t *testing.T) { // P18.1: attributes and hooks
	for n := 6; n <= 20; n++ {
		want := api.OK
		if n > 8 {
			want = api.ErrCount
		}
		for _, kind := range kinds() {
			attrs, hooks := api.View{Kind: kind, Attrs: attrsOf(n)}, api.View{Kind: kind, Hooks: hooksOf(n)}
			checkPlaced(t, attrs, want)
			checkPlaced(t, hooks, want)
			both := api.View{Kind: kind, Attrs: attrsOf(n), Hooks: hooksOf(n)}
			checkPlaced(t, both, want)
			checkOne(t, views(attrs, hooks, both))
			mixed := api.View{Kind: kind, Attrs: attrsOf(n), Hooks: hooksOf(8)}
			checkCheck(t, views(mixed), want)
			mixed = api.View{Kind: kind, Attrs: attrsOf(8), Hooks: hooksOf(n)}
			checkCheck(t, views(mixed), want)
			var named []api.Attr // attributes of names of their own, hooks of events
			var told []api.Hook
			for i := range n {
				named = append(named, api.Attr{Name: mark.Of(strconv.Itoa(i), i)})
				told = append(told, api.Hook{Event: 1 + i%8, Capture: i%2 > 0, Name: i})
			}
			checkCheck(t, views(api.View{Kind: kind, Attrs: named}), want)
			checkCheck(t, views(api.View{Kind: kind, Hooks: told}), want)
		}
	}
	eight := api.View{Kind: 1, Attrs: attrsOf(8), Hooks: hooksOf(8)} // of each view, not of all together
	checkCheck(t, views(eight, eight, none(eight, eight)), api.OK)
	room := api.View{Kind: 1, Attrs: attrsOf(99)[:8], Hooks: hooksOf(99)[:8]} // what they could grow into counts not
	checkCheck(t, views(room), api.OK)
}

// breaks tells views, each of which breaks one limit alone, in the order of the errors.
func breaks() (l [][]api.View, errs []api.Errno) {
	long := word()
	long.Text = mark.Of(strings.Repeat("x", api.MaxStr+1), 0)
	many := el()
	many.Hooks = hooksOf(api.MaxHooks + 1)
	return [][]api.View{
		tower(api.MaxDepth+1, el),
		times(api.MaxNodes, word()),
		views(none(k("a"), k("a"))),
		views(long),
		views(many),
	}, []api.Errno{api.ErrDepth, api.ErrSize, api.ErrKey, api.ErrLong, api.ErrCount}
}

func TestOrderOfErrors(t *testing.T) { // P18.1, and P4 of DOC.md
	parts, errs := breaks()
	for set := range 1 << len(parts) {
		var l, back []api.View
		for i, part := range parts {
			if set>>i&1 == 1 {
				l = append(l, part...)
				back = append(slices.Clone(part), back...)
			}
		}
		want := api.OK
		if set != 0 {
			want = errs[bits.TrailingZeros(uint(set))]
		}
		for _, order := range [][]api.View{l, back} { // what stands first does not matter
			checkCheck(t, order, want)
			checkCheck(t, views(none(order...)), want)
			checkCheck(t, append(views(el(), word()), order...), want)
			checkOne(t, order)
		}
	}
	one := el() // all of one view
	one.Key, one.Attrs, one.Kids = strings.Repeat("k", 33), attrsOf(9), nil
	checkCheck(t, views(one), api.ErrLong)
	checkCheck(t, views(one, one), api.ErrKey)
	checkCheck(t, times(127, one), api.ErrKey)
	checkCheck(t, times(128, one), api.ErrSize)
	one.Kids = tower(12, el)
	checkCheck(t, times(128, one), api.ErrDepth)
	checkCheck(t, views(one), api.ErrDepth)
	same := slot(1) // a Slot of two slots is an error of keys
	same.Hooks = hooksOf(9)
	checkCheck(t, views(same, el(same)), api.ErrKey)
	checkCheck(t, views(same, slot(2)), api.ErrCount)
	same.Tag = mark.Of(strings.Repeat("x", 4097), 0)
	checkCheck(t, views(same, slot(1)), api.ErrKey)
	checkCheck(t, views(same, slot(2)), api.ErrLong)
}

func TestErrorsByTheirNumbers(t *testing.T) { // P18.1, and P5 of DOC.md: names of errors are numbers
	parts, _ := breaks()
	for i, want := range []api.Errno{23, 24, 25, 5, 3} {
		checkCheck(t, parts[i], want)
	}
}

func TestStrangeViews(t *testing.T) { // P18.1: all calls, held against the models
	met := map[api.Errno]int{}
	for _, l := range strangeLists(4000) {
		checkOne(t, l)
		met[Check(l)]++
		for _, v := range l {
			checkOne(t, v.Kids)
		}
	}
	for _, err := range []api.Errno{api.OK, api.ErrDepth, api.ErrSize, api.ErrKey, api.ErrLong, api.ErrCount} {
		if met[err] < 20 {
			t.Errorf("of these views %d are of error %d: too few to say anything", met[err], err)
		}
	}
}

func TestSmallViews(t *testing.T) { // P18.1: all lists of up to four views, in all ways put into one another
	shapes := map[int][][]api.View{0: {nil}}
	for n := 1; n <= 4; n++ {
		for first := 1; first <= n; first++ { // the first has first-1 views within it
			for _, kids := range shapes[first-1] {
				for _, rest := range shapes[n-first] {
					for _, v := range []api.View{el(kids...), keyed("a", word(kids...)), slot(1, kids...), keyed("a", none(kids...))} {
						shapes[n] = append(shapes[n], append(views(v), rest...))
					}
				}
			}
		}
		for _, l := range shapes[n] {
			checkOne(t, l)
		}
	}
}

// cloneStr tells a copy of s, runs as they are.
func cloneStr(s api.Str) api.Str {
	return api.Str{Text: strings.Clone(s.Text), Runs: slices.Clone(s.Runs)}
}

// clones tells a copy of all that is handed in.
func clones(l []api.View) []api.View {
	var out []api.View
	for _, v := range l {
		n := v
		n.Tag, n.Text, n.Key = cloneStr(v.Tag), cloneStr(v.Text), strings.Clone(v.Key)
		n.Hooks, n.Kids, n.Attrs = slices.Clone(v.Hooks), clones(v.Kids), nil
		for _, a := range v.Attrs {
			n.Attrs = append(n.Attrs, api.Attr{Name: cloneStr(a.Name), Value: cloneStr(a.Value)})
		}
		out = append(out, n)
	}
	return out
}

func alike(a, b api.Str) bool {
	return a.Text == b.Text && slices.Equal(a.Runs, b.Runs)
}

// alikeViews holds two lists against each other field by field, whatever their kind.
func alikeViews(a, b []api.View) bool {
	return slices.EqualFunc(a, b, func(x, y api.View) bool {
		return x.Kind == y.Kind && alike(x.Tag, y.Tag) && x.Key == y.Key && slices.EqualFunc(x.Attrs, y.Attrs, func(m, n api.Attr) bool {
			return alike(m.Name, n.Name) && alike(m.Value, n.Value)
		}) && slices.Equal(x.Hooks, y.Hooks) && alikeViews(x.Kids, y.Kids) && alike(x.Text, y.Text) && x.Slot == y.Slot
	})
}

// askAll asks all calls.
func askAll(l []api.View) {
	Depth(l)
	Size(l)
	Keys(l)
	Check(l)
}

func TestArgumentsAreNotChanged(t *testing.T) { // P18.2
	for _, l := range strangeLists(300) {
		before := clones(l)
		askAll(l)
		if !alikeViews(l, before) {
			t.Fatalf("from %v to %v", before, l)
		}
	}
	own := views(el(k("b"), k("a"), k("b")), keyed("b", word(el())), slot(2), keyed("a", none(slot(1), slot(1))), k("b")) // an append in place would write behind what is handed in
	own[0].Hooks = []api.Hook{{Event: 9}, {Event: 1}, {Event: 2, Name: -1}, {Event: 2}}
	own[0].Attrs = attrsOf(4)
	want := clones(own)
	for n := range len(own) {
		askAll(own[:n])
		v := el(own[:n]...)
		v.Hooks, v.Attrs = own[0].Hooks[:min(n, 4)], own[0].Attrs[:min(n, 4)]
		askAll(views(v))
	}
	if !alikeViews(own, want) {
		t.Fatalf("memory behind what is handed in changed: %v", own)
	}
	runs := []api.Run{{Len: 1, Origin: 9}, {Len: 9, Origin: -2}, {Len: -1, Origin: 3}}
	s := api.Str{Text: "ID", Runs: runs[:1]} // not as told: it stays so
	askAll(views(api.View{Kind: 1, Tag: s, Text: s, Attrs: []api.Attr{{Name: s, Value: s}}}))
	if !slices.Equal(runs, []api.Run{{Len: 1, Origin: 9}, {Len: 9, Origin: -2}, {Len: -1, Origin: 3}}) {
		t.Errorf("memory behind the runs changed: %v", runs)
	}
}

// held tells views that are held by nobody else, and what tells whether their memory is
// still there: the list's own, the kids', and the bytes' of the keys.
func held(slots int) ([]api.View, []func() bool) {
	key, kid := strings.Repeat("k", 30)+strconv.Itoa(10+slots), strings.Repeat("l", 30)+strconv.Itoa(10+slots)
	text := strings.Repeat("t", 100)
	l := make([]api.View, 2, 3)
	l[0], l[1] = keyed(key, el(slot(slots), keyed(kid, word()))), slot(slots+1)
	l[0].Text = api.Str{Text: text, Runs: make([]api.Run, 50)}
	l[0].Attrs, l[0].Hooks = attrsOf(8), hooksOf(8)
	return l, []func() bool{
		alive(unsafe.SliceData(l)), alive(unsafe.SliceData(l[0].Kids)), alive(unsafe.SliceData(l[0].Attrs)), alive(unsafe.SliceData(l[0].Hooks)),
		alive(unsafe.SliceData(l[0].Text.Runs)), alive(unsafe.StringData(key)), alive(unsafe.StringData(kid)), alive(unsafe.StringData(text)),
	}
}

// alive tells a function that tells whether memory is still there.
func alive[T any](p *T) func() bool {
	w := weak.Make(p)
	return func() bool { return w.Value() != nil }
}

func TestNothingIsKept(t *testing.T) { // P18.2: memory that was handed in is given back
	for name, call := range map[string]func(l []api.View){
		"Depth": func(l []api.View) { Depth(l) },
		"Size":  func(l []api.View) { Size(l) },
		"Keys":  func(l []api.View) { Keys(l) },
		"Check": func(l []api.View) { Check(l) },
	} {
		var there []func() bool
		func() {
			l, asked := held(len(name))
			call(l)
			for i, is := range asked {
				if !is() {
					t.Errorf("%s: part %d is gone too early to say anything", name, i)
				}
			}
			runtime.KeepAlive(l)
			there = asked
		}()
		runtime.GC()
		runtime.GC()
		for i, is := range there {
			if is() {
				t.Errorf("%s keeps part %d of what was handed in", name, i)
			}
		}
	}
}

func TestCallsDoNotMeet(t *testing.T) { // P18.2, and P3 of DOC.md
	same, other := views(k("a"), slot(1), k("b")), views(k("b"), slot(1), slot(2), k("a"))
	for range 3 { // keys and slots of calls ahead say nothing
		checkKeys(t, same, true)
		checkKeys(t, other, true)
		checkKeys(t, views(el(same...)), true)
		checkKeys(t, append(same, k("a")), false)
		checkKeys(t, append(other, el(slot(1))), false)
	}
	same[0].Key, same[1].Slot = "b", 2 // what was handed in is changed afterwards
	checkKeys(t, same, false)
	same[0].Key = "c"
	checkKeys(t, same, true)
	lists := strangeLists(100)
	var group sync.WaitGroup // nor do calls beside each other meet, asked of the same views
	for range 8 {
		group.Go(func() {
			for _, l := range lists {
				checkOne(t, l)
			}
		})
	}
	group.Wait()
}

func TestDeepViews(t *testing.T) { // P1 of DOC.md: as many levels as may be, an end within bearable time
	const n = 1 << 16
	for _, c := range []struct {
		put   func(kids ...api.View) api.View
		depth int
		size  int
		err   api.Errno
	}{
		{el, n, n, api.ErrDepth},
		{none, 0, n, api.ErrSize},
		{func(kids ...api.View) api.View { return keyed("a", el(kids...)) }, n, n, api.ErrDepth},
		{func(kids ...api.View) api.View { return keyed("a", kind(-1, kids...)) }, 0, n, api.ErrSize},
		{func(kids ...api.View) api.View { return word(kids...) }, 0, 1, api.OK},
		{func(kids ...api.View) api.View { return slot(1, kids...) }, 1, 1, api.OK},
	} {
		l := tower(n, c.put)
		checkDepth(t, l, c.depth)
		checkSize(t, l, c.size)
		checkCheck(t, l, c.err)
		if !Keys(l) {
			t.Error("deep views have no siblings, and no two slots, yet Keys is false")
		}
	}
	if Keys(tower(n-1, el, k("a"), k("a"))) || Keys(tower(n-1, none, slot(0), el(slot(0)))) {
		t.Error("Keys of what stands deep is true")
	}
	slots := 0
	l := tower(n-1, func(kids ...api.View) api.View { slots++; return el(append(kids, slot(slots), k("a"))...) })
	if !Keys(l) || Depth(l) != n || Size(l) != 3*n-3 {
		t.Errorf("of deep views with slots: %v, %d and %d", Keys(l), Depth(l), Size(l))
	}
	l = append(l, slot(1))
	if Keys(l) {
		t.Error("Keys of two slots far from each other is true")
	}
}

func TestWideViews(t *testing.T) { // P1 of DOC.md: an end within bearable time
	const n = 1 << 17
	var l []api.View
	for i := range n {
		l = append(l, keyed(strconv.Itoa(i), el(k("a"), slot(-i))), word(times(2, k("a"))...))
	}
	if !Keys(l) || Depth(l) != 2 || Size(l) != 4*n || Check(l) != api.ErrSize {
		t.Errorf("of wide views: %v, %d, %d and %d", Keys(l), Depth(l), Size(l), Check(l))
	}
	if Keys(append(l, k("0"))) || Keys(append(l, k(strconv.Itoa(n-1)))) || Keys(append(l, slot(0))) || Keys(append(l, el(slot(1-n)))) {
		t.Error("Keys of wide views, one of them twice, is true")
	}
	wide := api.View{Kind: 1, Attrs: attrsOf(n), Hooks: hooksOf(n), Key: strings.Repeat("k", n), Text: mark.Of(strings.Repeat("t", n), 1)}
	checkCheck(t, views(wide), api.ErrLong)
	wide.Key, wide.Text = "", api.Str{}
	checkCheck(t, views(wide), api.ErrCount)
	checkCheck(t, views(el(wide, wide)), api.ErrCount)
}
