package attrs

import (
	"math"
	"slices"
	"strconv"
	"strings"
	"testing"
	"unsafe"

	"glazier/api"
	"glazier/mark"
)

const top = api.MaxOrigin

// str writes a labelled text: lens and origins by turns.
func str(text string, pairs ...int) api.Str {
	s := api.Str{Text: text}
	for i := 0; i+1 < len(pairs); i += 2 {
		s.Runs = append(s.Runs, api.Run{Len: pairs[i], Origin: pairs[i+1]})
	}
	return s
}

// pair writes an attribute, all of it trusted.
func pair(name, value string) api.Attr {
	return dyed(name, 0, value, 0)
}

// dyed writes an attribute, its name of one origin, its value of one.
func dyed(name string, nameOrigin int, value string, valueOrigin int) api.Attr {
	return api.Attr{Name: mark.Of(name, nameOrigin), Value: mark.Of(value, valueOrigin)}
}

// list writes attributes, all trusted, from names and values with = between.
func list(pairs ...string) []api.Attr {
	var l []api.Attr
	for _, p := range pairs {
		name, value, _ := strings.Cut(p, "=")
		l = append(l, pair(name, value))
	}
	return l
}

// taken tells s as chapter 1 takes it, byte by byte.
func taken(s api.Str) api.Str {
	var origins []int
	for _, r := range s.Runs {
		for n := 0; n < r.Len && len(origins) < len(s.Text); n++ {
			origins = append(origins, min(max(r.Origin, 0), top))
		}
	}
	for len(origins) < len(s.Text) {
		origins = append(origins, top)
	}
	out := api.Str{Text: s.Text}
	for i, o := range origins {
		if i == 0 || origins[i-1] != o {
			out.Runs = append(out.Runs, api.Run{Origin: o})
		}
		out.Runs[len(out.Runs)-1].Len++
	}
	return out
}

// alike holds two texts against each other field by field.
func alike(a, b api.Str) bool {
	return a.Text == b.Text && slices.Equal(a.Runs, b.Runs)
}

func alikeAttr(a, b api.Attr) bool {
	return alike(a.Name, b.Name) && alike(a.Value, b.Value)
}

// alikes holds two lists against each other field by field, in their order.
func alikes(a, b []api.Attr) bool {
	return slices.EqualFunc(a, b, alikeAttr)
}

// The models of the tests: each goes through the lists as the chapter's words say.

// modelTaken tells the attributes as they are taken.
func modelTaken(l []api.Attr) []api.Attr {
	var out []api.Attr
	for _, a := range l {
		out = append(out, api.Attr{Name: taken(a.Name), Value: taken(a.Value)})
	}
	return out
}

// modelFirst tells the place of the first of that name, or -1.
func modelFirst(l []api.Attr, name string) int {
	for i, a := range l {
		if a.Name.Text == name {
			return i
		}
	}
	return -1
}

func modelGet(l []api.Attr, name string) (api.Str, bool) {
	at := modelFirst(l, name)
	if at == -1 {
		return api.Str{}, false
	}
	return taken(l[at].Value), true
}

func modelPut(l []api.Attr, a api.Attr) []api.Attr {
	out := modelTaken(l)
	a = modelTaken([]api.Attr{a})[0]
	if at := modelFirst(l, a.Name.Text); at != -1 {
		return slices.Concat(out[:at], []api.Attr{a}, out[at+1:])
	}
	return append(out, a)
}

func modelDrop(l []api.Attr, name string) []api.Attr {
	var out []api.Attr
	for _, a := range modelTaken(l) {
		if a.Name.Text != name {
			out = append(out, a)
		}
	}
	return out
}

func modelOnce(l []api.Attr) []api.Attr {
	var out []api.Attr
	for i, a := range modelTaken(l) {
		if modelFirst(l, a.Name.Text) == i {
			out = append(out, a)
		}
	}
	return out
}

func modelSame(a, b []api.Attr) bool {
	a, b = modelOnce(a), modelOnce(b)
	for _, x := range a {
		if !slices.ContainsFunc(b, func(y api.Attr) bool { return alikeAttr(x, y) }) {
			return false
		}
	}
	return len(a) == len(b)
}

func modelChanges(a, b []api.Attr) ([]api.Attr, []string) {
	a, b = modelOnce(a), modelOnce(b)
	var put []api.Attr
	var dropped []string
	for _, x := range b {
		if !slices.ContainsFunc(a, func(y api.Attr) bool { return alikeAttr(x, y) }) {
			put = append(put, x)
		}
	}
	for _, x := range a {
		if modelFirst(b, x.Name.Text) == -1 {
			dropped = append(dropped, x.Name.Text)
		}
	}
	return put, dropped
}

// The checks: each holds a call's answer against what is wanted.

func checkGet(t *testing.T, l []api.Attr, name string, want api.Str, there bool) {
	t.Helper()
	if got, ok := Get(l, name); !alike(got, want) || ok != there {
		t.Errorf("Get(%v, %q) = %#v, %v, want %#v, %v", l, name, got, ok, want, there)
	}
}

func checkPut(t *testing.T, l []api.Attr, a api.Attr, want []api.Attr) {
	t.Helper()
	if got := Put(l, a); !alikes(got, want) {
		t.Errorf("Put(%v, %v) = %v, want %v", l, a, got, want)
	}
}

func checkDrop(t *testing.T, l []api.Attr, name string, want []api.Attr) {
	t.Helper()
	if got := Drop(l, name); !alikes(got, want) {
		t.Errorf("Drop(%v, %q) = %v, want %v", l, name, got, want)
	}
}

func checkOnce(t *testing.T, l []api.Attr, want []api.Attr) {
	t.Helper()
	if got := Once(l); !alikes(got, want) {
		t.Errorf("Once(%v) = %v, want %v", l, got, want)
	}
}

// checkSame asks Same both ways round.
func checkSame(t *testing.T, a, b []api.Attr, want bool) {
	t.Helper()
	if got := Same(a, b); got != want {
		t.Errorf("Same(%v, %v) = %v", a, b, got)
	}
	if got := Same(b, a); got != want {
		t.Errorf("Same(%v, %v) = %v", b, a, got)
	}
}

func checkChanges(t *testing.T, a, b []api.Attr, put []api.Attr, dropped []string) {
	t.Helper()
	if p, d := Changes(a, b); !alikes(p, put) || !slices.Equal(d, dropped) {
		t.Errorf("Changes(%v, %v) = %v, %q, want %v, %q", a, b, p, d, put, dropped)
	}
}

// checkAll holds all calls of two lists against the models.
func checkAll(t *testing.T, a, b []api.Attr) {
	t.Helper()
	checkOnce(t, a, modelOnce(a))
	checkSame(t, a, b, modelSame(a, b))
	put, dropped := modelChanges(a, b)
	checkChanges(t, a, b, put, dropped)
	names := []string{"", "zz"}
	for _, x := range b {
		names = append(names, x.Name.Text)
		checkPut(t, a, x, modelPut(a, x))
	}
	for _, name := range names {
		want, there := modelGet(a, name)
		checkGet(t, a, name, want, there)
		checkDrop(t, a, name, modelDrop(a, name))
	}
}

// listsOf tells all lists of up to n of the attributes.
func listsOf(n int, all []api.Attr) [][]api.Attr {
	out := [][]api.Attr{nil}
	for from := 0; n > 0; n-- {
		to := len(out)
		for _, l := range out[from:to] {
			for _, a := range all {
				out = append(out, append(slices.Clone(l), a))
			}
		}
		from = to
	}
	return out
}

// fewAttrs are attributes whose names and values are alike, or differ in little.
func fewAttrs() []api.Attr {
	return []api.Attr{pair("a", "1"), dyed("a", 1, "1", 0), dyed("a", 0, "1", 1), pair("a", "2"), pair("b", "1"), pair("", "")}
}

// strangeStrs are labelled texts of all kinds, as told and not.
func strangeStrs() []api.Str {
	return []api.Str{
		str(""), str("", 3, 3), str("", -1, math.MinInt), {Runs: []api.Run{}},
		str("ab"), str("ab", 2, 0), str("ab", 1, 0), str("ab", 1, 0, 1, 0), str("ab", 1, 0, 1, 1), str("ab", 1, 1, 1, 0), str("ab", 2, top), str("ab", 9, 0),
		str("ab", math.MaxInt, 0, math.MaxInt, 1), str("ab", math.MinInt, 5, 1, -1, 0, 5, 1, math.MinInt), str("ab", 1, top+1, 1, math.MaxInt),
		str("AB", 2, 0), str("a", 1, 0), str("abc", 3, 0), str("\x00\xff", 2, 0), str("\xff\x00"), str("\xc3\xa9", 1, 0, 1, 1), str("a\x00", 1, 3, 9, 3), str("<&\"= \r>", 3, 0),
	}
}

// strangeAttrs tells attributes of strangeStrs as names and as values, by turns.
func strangeAttrs() []api.Attr {
	var out []api.Attr
	all := strangeStrs()
	for i := range all {
		for _, j := range []int{0, 4, i, i * 5 % len(all)} {
			out = append(out, api.Attr{Name: all[i], Value: all[(i+j)%len(all)]})
		}
	}
	return out
}

// strangeLists tells lists of strangeAttrs, of lengths by turns, some of a name often.
func strangeLists() [][]api.Attr {
	all := strangeAttrs()
	out := [][]api.Attr{nil, {}, all}
	for i := range all {
		var l []api.Attr
		for j := range i%5 + 1 {
			l = append(l, all[(i+j*7)%len(all)], all[(i*3+j)%len(all)])
		}
		out = append(out, l, []api.Attr{all[i]}, all[i:min(i+4, len(all))])
	}
	return out
}

func TestGet(t *testing.T) { // P10.1
	l := list("a=1", "b=2", "a=3", "c=", "b=4", "d=5")
	for name, want := range map[string]string{"a": "1", "b": "2", "c": "", "d": "5"} { // first, middle, of no bytes, last
		checkGet(t, l, name, mark.Of(want, 0), true)
	}
	for _, name := range []string{"", "e", "A", "B", "aa", "ab", "a=1", "1", " a", "a ", "a\x00", "\xff"} {
		checkGet(t, l, name, api.Str{}, false)
	}
	for _, empty := range [][]api.Attr{nil, {}} {
		checkGet(t, empty, "", api.Str{}, false)
		checkGet(t, empty, "a", api.Str{}, false)
	}
	mixed := []api.Attr{dyed("a", 3, "xy", 2), pair("a", "xy"), {Name: mark.Of("b", 0), Value: str("xyz", 1, 0, 1, 7, 1, 0)}}
	checkGet(t, mixed, "a", mark.Of("xy", 2), true) // whatever the name's origin
	checkGet(t, mixed, "b", str("xyz", 1, 0, 1, 7, 1, 0), true)
}

func TestPut(t *testing.T) { // P10.1
	for _, c := range []struct {
		l    []api.Attr
		a    api.Attr
		want []api.Attr
	}{
		{nil, pair("a", "1"), list("a=1")},
		{[]api.Attr{}, pair("a", "1"), list("a=1")},
		{nil, pair("", ""), list("=")},
		{list("a=1"), pair("a", "1"), list("a=1")},
		{list("a=1"), pair("a", "2"), list("a=2")},
		{list("a=1"), pair("a", ""), list("a=")},
		{list("a=1"), pair("b", "2"), list("a=1", "b=2")},
		{list("a=1", "b=2"), pair("c", "3"), list("a=1", "b=2", "c=3")}, // behind the others
		{list("b=1", "c=2"), pair("a", "3"), list("b=1", "c=2", "a=3")},
		{list("a=1", "b=2", "c=3"), pair("a", "9"), list("a=9", "b=2", "c=3")}, // first, middle, last
		{list("a=1", "b=2", "c=3"), pair("b", "9"), list("a=1", "b=9", "c=3")},
		{list("a=1", "b=2", "c=3"), pair("c", "9"), list("a=1", "b=2", "c=9")},
		{list("a=1", "b=2", "a=3"), pair("a", "9"), list("a=9", "b=2", "a=3")}, // the others of that name stay
		{list("b=1", "a=2", "a=3", "a=4"), pair("a", "9"), list("b=1", "a=9", "a=3", "a=4")},
		{list("b=1", "b=1", "a=2"), pair("a", "9"), list("b=1", "b=1", "a=9")},
		{list("b=1", "b=1"), pair("a", "9"), list("b=1", "b=1", "a=9")}, // others that stand twice stay
		{list("=1", "a=2"), pair("", "9"), list("=9", "a=2")},
		{list("a=1"), pair("A", "2"), list("a=1", "A=2")},
		{list("a=1"), pair("ab", "2"), list("a=1", "ab=2")},
		{list("ab=1"), pair("a", "2"), list("ab=1", "a=2")},
		{[]api.Attr{dyed("a", 1, "x", 2)}, dyed("a", 3, "y", 4), []api.Attr{dyed("a", 3, "y", 4)}}, // name and value are those of a
		{[]api.Attr{dyed("a", 1, "x", 1), pair("a", "x")}, pair("a", "x"), list("a=x", "a=x")},     // the first, though the second is alike
	} {
		checkPut(t, c.l, c.a, c.want)
	}
}

func TestDrop(t *testing.T) { // P10.1
	for _, c := range []struct {
		l    []api.Attr
		name string
		want []api.Attr
	}{
		{nil, "a", nil},
		{[]api.Attr{}, "", nil},
		{list("a=1"), "a", nil},
		{list("a=1"), "b", list("a=1")},
		{list("a=1"), "", list("a=1")},
		{list("a=1", "b=2", "c=3"), "a", list("b=2", "c=3")}, // first, middle, last
		{list("a=1", "b=2", "c=3"), "b", list("a=1", "c=3")},
		{list("a=1", "b=2", "c=3"), "c", list("a=1", "b=2")},
		{list("a=1", "b=2", "a=3"), "a", list("b=2")}, // all of that name
		{list("a=1", "a=1", "a=2"), "a", nil},
		{list("b=1", "a=1", "a=2", "b=3", "a=4", "c=5"), "a", list("b=1", "b=3", "c=5")},
		{list("b=1", "b=1"), "a", list("b=1", "b=1")}, // others that stand twice stay
		{list("=1", "a=2", "="), "", list("a=2")},
		{list("a=1", "A=2", "ab=3", "ba=4", " a=5", "b=a"), "a", list("A=2", "ab=3", "ba=4", " a=5", "b=a")},
		{list("a=1", "ab=3", "abc=4"), "ab", list("a=1", "abc=4")},
		{[]api.Attr{dyed("a", 0, "1", 2), dyed("b", 1, "1", 2), dyed("a", 7, "1", 2)}, "a", []api.Attr{dyed("b", 1, "1", 2)}}, // of whatever origin
	} {
		checkDrop(t, c.l, c.name, c.want)
	}
}

func TestOnce(t *testing.T) { // P10.1
	for _, c := range [][2][]api.Attr{
		{list("a=1", "a=2"), list("a=1")}, // the chapter's example
		{nil, nil},
		{{}, nil},
		{list("a=1"), list("a=1")},
		{list("a=1", "b=2"), list("a=1", "b=2")},
		{list("b=1", "a=2"), list("b=1", "a=2")},
		{list("a=1", "a=1"), list("a=1")},
		{list("a=2", "a=1", "a=1"), list("a=2")},
		{list("a=1", "b=2", "a=3"), list("a=1", "b=2")},
		{list("a=1", "b=2", "b=3"), list("a=1", "b=2")},
		{list("c=1", "b=2", "c=3", "a=4", "b=5", "c=6"), list("c=1", "b=2", "a=4")}, // the order of the first ones
		{list("=1", "a=2", "=3"), list("=1", "a=2")},
		{list("a=1", "A=2", "ab=3", "abc=4", "b=1", "=1"), list("a=1", "A=2", "ab=3", "abc=4", "b=1", "=1")},
		{{dyed("a", 1, "x", 2), dyed("a", 0, "y", 0)}, {dyed("a", 1, "x", 2)}}, // whatever their origins
		{{dyed("a", 0, "x", 0), dyed("b", 0, "x", 0), dyed("a", 5, "y", 5), dyed("b", 5, "y", 5)}, list("a=x", "b=x")},
	} {
		checkOnce(t, c[0], c[1])
	}
}

func TestSame(t *testing.T) { // P10.1
	for _, c := range []struct {
		a, b []api.Attr
		want bool
	}{
		{nil, nil, true},
		{nil, []api.Attr{}, true},
		{nil, list("="), false},
		{nil, list("a=1"), false},
		{list("a=1"), list("a=1"), true},
		{list("a=1"), list("a=2"), false},
		{list("a=1"), list("a="), false},
		{list("a=1"), list("b=1"), false},
		{list("a=1"), list("A=1"), false},
		{list("a=1"), list("ab=1"), false},
		{list("a=x"), list("a=X"), false},
		{list("a=1"), list("=1"), false},
		{list("=1"), list("=1"), true},
		{list("a=1", "b=2"), list("a=1", "b=2"), true},
		{list("a=1", "b=2"), list("b=2", "a=1"), true}, // in any order
		{list("a=1", "b=2", "c=3"), list("c=3", "a=1", "b=2"), true},
		{list("a=1", "b=2"), list("a=2", "b=1"), false},
		{list("a=1", "b=2"), list("a=1"), false}, // one more, one less
		{list("a=1", "b=2"), list("b=2"), false},
		{list("a=1", "b=2"), list("a=1", "c=2"), false},
		{list("a=1", "a=2"), list("a=1"), true}, // a name twice in the one
		{list("a=1", "a=2"), list("a=2"), false},
		{list("a=1", "a=1"), list("a=1"), true},
		{list("a=1", "a=2", "b=3"), list("b=3", "a=1", "b=4"), true},
		{list("a=1", "a=2"), list("a=2", "a=1"), false},
		{list("a=1", "a=2"), list("a=1", "a=3"), true},
		{list("a=1", "a=2"), list("a=1", "b=2"), false}, // as many, but not of as many names
		{list("a=1", "a=1", "b=2"), list("a=1", "b=2", "b=2"), true},
		{[]api.Attr{dyed("a", 0, "1", 0)}, []api.Attr{dyed("a", 1, "1", 0)}, false}, // names of unlike origins
		{[]api.Attr{dyed("a", 0, "1", 0)}, []api.Attr{dyed("a", 0, "1", 1)}, false}, // values of unlike origins
		{[]api.Attr{dyed("a", 1, "1", 0)}, []api.Attr{dyed("a", 0, "1", 1)}, false},
		{[]api.Attr{dyed("a", 3, "1", 4)}, []api.Attr{dyed("a", 3, "1", 4)}, true},
		{[]api.Attr{dyed("a", 3, "", 4)}, []api.Attr{dyed("a", 3, "", 5)}, true}, // no byte has these origins
		{[]api.Attr{dyed("", 3, "1", 4)}, []api.Attr{dyed("", 5, "1", 4)}, true},
		{[]api.Attr{dyed("a", 0, "1", 0), dyed("a", 1, "2", 1)}, list("a=1"), true},
		{[]api.Attr{dyed("a", 1, "1", 0), dyed("a", 0, "1", 0)}, list("a=1"), false},
		{[]api.Attr{{Name: str("ab", 1, 0, 1, 1), Value: str("1", 1, 0)}}, []api.Attr{{Name: str("ab", 1, 1, 1, 0), Value: str("1", 1, 0)}}, false},
	} {
		checkSame(t, c.a, c.b, c.want)
	}
}

func TestChanges(t *testing.T) { // P10.1
	for _, c := range []struct {
		a, b    []api.Attr
		put     []api.Attr
		dropped []string
	}{
		{nil, nil, nil, nil},
		{[]api.Attr{}, nil, nil, nil},
		{list("a=1"), list("a=1"), nil, nil}, // same lists: nothing
		{list("a=1", "b=2"), list("b=2", "a=1"), nil, nil},
		{list("a=1", "a=2"), list("a=1"), nil, nil},
		{list("a=1"), list("a=1", "a=2"), nil, nil},
		{nil, list("a=1", "b=2"), list("a=1", "b=2"), nil},
		{nil, list("b=1", "a=2", "b=3"), list("b=1", "a=2"), nil},
		{list("a=1", "b=2"), nil, nil, []string{"a", "b"}},
		{list("b=1", "a=2", "b=3", "a=4"), nil, nil, []string{"b", "a"}}, // each name once
		{list("a=1"), list("a=2"), list("a=2"), nil},
		{list("a=1"), list("a="), list("a="), nil},
		{list("a=1"), list("b=1"), list("b=1"), []string{"a"}},
		{list("a=1"), list("A=1"), list("A=1"), []string{"a"}},
		{list("a=1"), list("ab=1"), list("ab=1"), []string{"a"}},
		{list("ab=1"), list("a=1"), list("a=1"), []string{"ab"}},
		{list("=1"), list("a=1"), list("a=1"), []string{""}},
		{list("a=1"), list("=1"), list("=1"), []string{"a"}},
		{list("a=1", "a=2"), list("a=2"), list("a=2"), nil},                                                                      // the first of a counts
		{list("a=1"), list("a=2", "a=1"), list("a=2"), nil},                                                                      // the first of b counts
		{list("a=1", "b=1", "c=1"), list("c=2", "d=2", "a=2", "b=2"), list("c=2", "d=2", "a=2", "b=2"), nil},                     // in b's order
		{list("a=1", "b=1", "c=1"), list("c=2", "d=1", "b=1"), list("c=2", "d=1"), []string{"a"}},                                // those alone that are others
		{list("d=1", "b=1", "c=1", "a=1", "d=2"), list("z=1", "c=1", "y=1"), list("z=1", "y=1"), []string{"d", "b", "a"}},        // in a's order
		{[]api.Attr{dyed("a", 0, "1", 0)}, []api.Attr{dyed("a", 1, "1", 0)}, []api.Attr{dyed("a", 1, "1", 0)}, nil},              // the name's origin is another
		{[]api.Attr{dyed("a", 0, "1", 0)}, []api.Attr{dyed("a", 0, "1", 1)}, []api.Attr{dyed("a", 0, "1", 1)}, nil},              // the value's origin is another
		{[]api.Attr{dyed("a", 2, "1", 0), dyed("b", 1, "1", 0)}, []api.Attr{dyed("b", 1, "1", 0)}, nil, []string{"a"}},           // of whatever origin
		{[]api.Attr{dyed("a", 1, "1", 0), dyed("a", 0, "1", 0)}, list("a=1"), list("a=1"), nil},                                  // the second of a, though alike, does not count
		{[]api.Attr{dyed("a", 1, "", 7), dyed("b", 0, "x", 7)}, []api.Attr{dyed("b", 0, "x", 7), dyed("a", 1, "", 0)}, nil, nil}, // no byte has that origin
	} {
		checkChanges(t, c.a, c.b, c.put, c.dropped)
	}
}

func TestNamesByTheirBytes(t *testing.T) { // P10.1: all pairs of names that are near each other
	names := []string{"", "a", "A", "b", "aa", "ab", "aB", "ba", " a", "a ", "a\x00", "\x00", "\x00a", "\xe1", "\xc3\xa9", "e\xcc\x81", "\xff", "\xfe", "a=", "title", "Title", "titl", "title2"}
	for b := range 256 {
		names = append(names, "x"+string([]byte{byte(b)}))
	}
	for _, x := range names {
		for _, y := range names {
			if len(x) == 2 && len(y) == 2 && x[0] == 'x' && y[0] == 'x' && x[1] != y[1] && x[1] != y[1]^0x20 && x[1] != y[1]^0x80 && x[1] != y[1]+1 {
				continue // of the 65536 pairs those that are nearest
			}
			checkAll(t, []api.Attr{dyed(x, 0, "1", 1)}, []api.Attr{dyed(y, 3, "2", 0)})
			checkAll(t, []api.Attr{pair(x, "1")}, []api.Attr{pair(y, "1")})
			checkAll(t, []api.Attr{pair("m", ""), pair(x, "1"), pair(y, "2"), pair(x, "3")}, []api.Attr{pair(y, "2"), pair(y, "4")})
		}
		if t.Failed() {
			return
		}
	}
}

func TestShortListsAgainstModel(t *testing.T) { // P10.1
	all := listsOf(3, fewAttrs())
	for _, a := range all {
		for _, b := range all {
			checkAll(t, a, b)
		}
		if t.Failed() {
			return
		}
	}
}

func TestStrangeListsAgainstModel(t *testing.T) { // P10.1
	all := strangeLists()
	for i, a := range all {
		for j, b := range all {
			if (i+j)%9 == 0 || i < 3 || i == j {
				checkAll(t, a, b)
			}
		}
		if t.Failed() {
			return
		}
	}
}

// checkLead holds put and dropped, done, against what they have to lead to, and each of
// them against what would be without it.
func checkLead(t *testing.T, a, b []api.Attr) {
	t.Helper()
	put, dropped := Changes(a, b)
	done := func(l []api.Attr, leave int) []api.Attr {
		for i, x := range put {
			if i != leave {
				l = Put(l, x)
			}
		}
		for i, name := range dropped {
			if len(put)+i != leave {
				l = Drop(l, name)
			}
		}
		return l
	}
	for _, from := range [][]api.Attr{Once(a), a} {
		to := done(from, -1)
		if !modelSame(to, b) || !Same(to, b) || !Same(b, to) {
			t.Errorf("Changes(%v, %v): %v, %q lead from %v to %v", a, b, put, dropped, from, to)
		}
		if p, d := Changes(to, b); len(p)+len(d) > 0 {
			t.Errorf("Changes(%v, %v): there are more when these are done: %v, %q", a, b, p, d)
		}
		for leave := range len(put) + len(dropped) {
			if modelSame(done(from, leave), b) {
				t.Errorf("Changes(%v, %v) = %v, %q: number %d has not to be done", a, b, put, dropped, leave)
			}
		}
	}
}

func TestChangesLead(t *testing.T) { // P10.2
	checkLead(t, list("a=1", "b=2", "c=3", "a=4"), list("c=3", "b=5", "d=6", "b=7"))
	checkLead(t, []api.Attr{dyed("a", 0, "1", 0), dyed("b", 1, "1", 0)}, []api.Attr{dyed("b", 0, "1", 0), dyed("a", 0, "1", 1), dyed("", 4, "", 4)})
	all := listsOf(3, fewAttrs())
	for i, a := range all {
		for j, b := range all {
			if (i+j)%3 == 0 || len(a) < 3 || len(b) < 3 {
				checkLead(t, a, b)
			}
		}
		if t.Failed() {
			return
		}
	}
	for i, a := range strangeLists() {
		for j, b := range strangeLists() {
			if (i+j)%11 == 0 || i < 2 || j < 2 || i == j {
				checkLead(t, a, b)
			}
		}
		if t.Failed() {
			return
		}
	}
}

func TestTextsNotAsTold(t *testing.T) { // P10.1, and P5 of DOC.md
	wrong := []api.Attr{{Name: str("a"), Value: str("xy", 1, 0)}, {Name: str("b", 5, -1), Value: str("xy", 1, 2, 0, 9, 1, 2, 7, 7)}}
	right := []api.Attr{{Name: str("a", 1, top), Value: str("xy", 1, 0, 1, top)}, {Name: str("b", 1, 0), Value: str("xy", 2, 2)}}
	checkGet(t, wrong, "a", str("xy", 1, 0, 1, top), true)
	checkGet(t, wrong, "b", str("xy", 2, 2), true)
	checkGet(t, []api.Attr{{Name: str("a"), Value: str("", 4, 4)}}, "a", str(""), true)
	checkOnce(t, wrong, right)
	checkDrop(t, wrong, "c", right)
	checkPut(t, wrong, api.Attr{Name: str("c", 0, 0), Value: str("z", math.MaxInt, math.MaxInt)}, append(modelTaken(right), dyed("c", top, "z", top)))
	checkPut(t, wrong, wrong[1], right)
	checkSame(t, wrong, right, true)
	checkSame(t, wrong[:1], []api.Attr{{Name: str("a"), Value: str("xy", 2, 0)}}, false)
	checkChanges(t, wrong, right, nil, nil)
	checkChanges(t, nil, wrong, right, nil)
	for _, l := range strangeLists() {
		fixed := modelTaken(l)
		checkSame(t, l, fixed, true)
		checkChanges(t, l, fixed, nil, nil)
		for _, x := range l {
			got, _ := Get(l, x.Name.Text)
			for _, answer := range [][]api.Attr{{{Value: got}}, Put(l, x), Drop(l, x.Name.Text), Once(l)} {
				for _, y := range answer {
					if mark.Check(y.Name) != api.OK || mark.Check(y.Value) != api.OK {
						t.Fatalf("an answer to %v is not as told: %v", l, y)
					}
				}
			}
		}
	}
}

// answers tells what all calls of two lists answer.
func answers(a, b []api.Attr) (lists [][]api.Attr, names [][]string) {
	put, dropped := Changes(a, b)
	lists, names = [][]api.Attr{Once(a), put}, [][]string{dropped}
	for _, x := range append(slices.Clone(b), pair("other", "x")) {
		value, _ := Get(a, x.Name.Text)
		lists = append(lists, []api.Attr{{Value: value}}, Put(a, x), Drop(a, x.Name.Text))
	}
	Same(a, b)
	return lists, names
}

// stretch is memory. It keeps what it tells of: memory given back could be given to another
// answer ahead of the comparison.
type stretch struct {
	kept unsafe.Pointer
	size uintptr
}

func (s stretch) from() uintptr { return uintptr(s.kept) }
func (s stretch) to() uintptr   { return s.from() + s.size }

// stretchOf tells the memory of a list, and what it could grow into.
func stretchOf[T any](l []T) stretch {
	var one T
	return stretch{unsafe.Pointer(unsafe.SliceData(l)), uintptr(cap(l)) * unsafe.Sizeof(one)}
}

func textStretch(text string) stretch {
	if text == "" {
		return stretch{}
	}
	return stretch{unsafe.Pointer(unsafe.StringData(text)), uintptr(len(text))}
}

// stretches tells all memory of the lists and names.
func stretches(lists [][]api.Attr, names [][]string) []stretch {
	var out []stretch
	for _, l := range lists {
		out = append(out, stretchOf(l))
		for _, a := range l {
			out = append(out, stretchOf(a.Name.Runs), textStretch(a.Name.Text), stretchOf(a.Value.Runs), textStretch(a.Value.Text))
		}
	}
	for _, l := range names {
		out = append(out, stretchOf(l))
		for _, name := range l {
			out = append(out, textStretch(name))
		}
	}
	return slices.DeleteFunc(out, func(s stretch) bool { return s.size == 0 })
}

// apart tells whether no two stretches have memory in common.
func apart(l []stretch) bool {
	slices.SortFunc(l, func(a, b stretch) int {
		if a.from() < b.from() {
			return -1
		}
		return 1
	})
	for i := 1; i < len(l); i++ {
		if l[i].from() < l[i-1].to() {
			return false
		}
	}
	return true
}

// memoryLists are lists of which each call has something to tell.
func memoryLists() [][]api.Attr {
	return append(strangeLists(),
		list("name=value", "other=value", "name=2", "third=3"),
		list("third=3", "name=other", "fourth=4"),
		[]api.Attr{{Name: str("name", 1, 0, 1, 1, 2, 2), Value: str("value", 2, 2, 3, 1)}, {Name: str("other", 3, 1, 2, 0), Value: str("text", 1, 1, 2, 0, 1, 1)}},
	)
}

// meets tells whether a stretch of the one has memory in common with one of the other.
func meets(a, b []stretch) bool {
	for _, x := range a {
		for _, y := range b {
			if x.from() < y.to() && y.from() < x.to() {
				return true
			}
		}
	}
	return false
}

func TestAnswersAreNewMemory(t *testing.T) { // P10.3
	all := memoryLists()
	for i, a := range all {
		for j, b := range all {
			if (i+j)%13 != 0 && i != j && min(i, j) < len(all)-3 || len(a)+len(b) > 30 {
				continue
			}
			lists, names := answers(a, b)
			again, namesAgain := answers(a, b)
			told := stretches(append(lists, again...), append(names, namesAgain...))
			if meets(told, stretches([][]api.Attr{a, b}, nil)) {
				t.Fatalf("answers to %v, %v share memory with what was handed in", a, b)
			}
			if !apart(told) {
				t.Fatalf("answers to %v, %v share memory with one another", a, b)
			}
		}
	}
}

// scribble writes over all that an answer can reach.
func scribble(lists [][]api.Attr, names [][]string) {
	for _, l := range lists {
		for _, a := range l {
			for _, runs := range [][]api.Run{a.Name.Runs, a.Value.Runs} {
				runs = runs[:cap(runs)]
				for i := range runs {
					runs[i] = api.Run{Len: -9, Origin: -9}
				}
			}
		}
		l = l[:cap(l)]
		for i := range l {
			l[i] = pair("scribbled", "x")
		}
	}
	for _, l := range names {
		l = l[:cap(l)]
		for i := range l {
			l[i] = "scribbled"
		}
	}
}

func TestAnswersWrittenOver(t *testing.T) { // P10.3
	a, b := list("name=value", "a=1", "name=2", "b=3"), []api.Attr{dyed("b", 1, "3", 0), pair("c", "4"), dyed("a", 0, "1", 2)}
	before, beforeB := modelTaken(a), modelTaken(b)
	scribble(answers(a, b))
	if !alikes(a, before) || !alikes(b, beforeB) {
		t.Fatalf("answers written over change what was handed in: %v, %v", a, b)
	}
	checkAll(t, a, b)
	for _, x := range []struct{ one, other []api.Attr }{{a, b}, {b, a}, {a, nil}, {nil, b}} {
		put, dropped := Changes(x.one, x.other)
		wantPut, wantDropped := modelChanges(x.one, x.other)
		scribble([][]api.Attr{put}, nil)
		if !slices.Equal(dropped, wantDropped) {
			t.Errorf("put written over: dropped is %q", dropped)
		}
		put, dropped = Changes(x.one, x.other)
		scribble(nil, [][]string{dropped})
		if !alikes(put, wantPut) {
			t.Errorf("dropped written over: put is %v", put)
		}
	}
}

func TestArgumentsAreNotChanged(t *testing.T) { // P10.3
	// clones tells a copy of all that is handed in, runs as they are.
	clones := func(l []api.Attr) []api.Attr {
		var out []api.Attr
		for _, a := range l {
			out = append(out, api.Attr{Name: api.Str{Text: strings.Clone(a.Name.Text), Runs: slices.Clone(a.Name.Runs)}, Value: api.Str{Text: strings.Clone(a.Value.Text), Runs: slices.Clone(a.Value.Runs)}})
		}
		return out
	}
	all := memoryLists()
	for i, a := range all {
		for j, b := range all {
			if (i+j)%13 != 0 && i != j {
				continue
			}
			beforeA, beforeB := clones(a), clones(b)
			answers(a, b)
			if !alikes(a, beforeA) || !alikes(b, beforeB) {
				t.Fatalf("from %v, %v to %v, %v", beforeA, beforeB, a, b)
			}
		}
	}
	own := list("a=1", "b=2", "a=3", "c=4", "d=5", "e=6") // an append in place would write behind what is handed in
	want := clones(own)
	for n := range len(own) {
		answers(own[:n], own[n:])
		answers(own[:n], own[:n])
		Put(own[:n], pair("z", "z"))
		if !alikes(own, want) {
			t.Fatalf("memory behind %d attributes changed: %v", n, own)
		}
	}
	runs := []api.Run{{Len: 1, Origin: 1}, {Len: 1, Origin: 2}, {Len: 1, Origin: 3}}
	x := api.Attr{Name: api.Str{Text: "abc", Runs: runs[:1]}, Value: api.Str{Text: "abc", Runs: runs[:2]}}
	answers([]api.Attr{x, x}, []api.Attr{x})
	if !slices.Equal(runs, []api.Run{{Len: 1, Origin: 1}, {Len: 1, Origin: 2}, {Len: 1, Origin: 3}}) {
		t.Errorf("memory behind the runs changed: %v", runs)
	}
}

func TestNothingIsKept(t *testing.T) { // P10.3, and P3 of DOC.md
	value := api.Str{Text: "xy", Runs: []api.Run{{Len: 2, Origin: 1}}}
	l := []api.Attr{{Name: mark.Of("a", 0), Value: value}}
	put, once := Put(nil, l[0]), Once(l)
	value.Runs[0].Origin = 9 // what was handed in is changed afterwards
	l[0].Name = mark.Of("b", 0)
	want := []api.Attr{dyed("a", 0, "xy", 1)}
	if !alikes(put, want) || !alikes(once, want) {
		t.Errorf("answers changed to %v and %v", put, once)
	}
	for _, a := range strangeLists() {
		first, names := answers(a, l)
		answers(l, a)
		answers(list("a=other", "ab=other"), a)
		second, namesAgain := answers(a, l)
		if !slices.EqualFunc(first, second, alikes) || !slices.EqualFunc(names, namesAgain, slices.Equal[[]string]) {
			t.Fatalf("answers to %v differ", a)
		}
	}
}

func TestLongLists(t *testing.T) { // P1 of DOC.md: an end within bearable time
	const n = 1 << 15
	var a, b, back []api.Attr
	for i := range n {
		name := "n" + strconv.Itoa(i)
		a = append(a, pair(name, "1"))
		back = append(back, pair("n"+strconv.Itoa(n-1-i), "1"))
		b = append(b, pair("m"+strconv.Itoa(i%(n/2)), "2"))
	}
	checkSame(t, a, back, true)
	checkSame(t, a, b, false)
	put, dropped := Changes(a, b)
	if len(put) != n/2 || len(dropped) != n || dropped[n-1] != "n"+strconv.Itoa(n-1) || !alikeAttr(put[n/2-1], b[n/2-1]) {
		t.Errorf("%d are put, %d dropped", len(put), len(dropped))
	}
	if got := Once(slices.Concat(a, b, a, b)); len(got) != n+n/2 || !alikes(got[:n], a) {
		t.Errorf("Once has %d attributes", len(got))
	}
	if got := Drop(b, "m7"); len(got) != n-2 {
		t.Errorf("Drop leaves %d", len(got))
	}
	if got := Put(a, pair("n"+strconv.Itoa(n-1), "3")); len(got) != n || got[n-1].Value.Text != "3" {
		t.Errorf("Put has %d", len(got))
	}
	checkGet(t, a, "n"+strconv.Itoa(n-1), mark.Of("1", 0), true)
	long := strings.Repeat("x", 1<<16)
	same := []api.Attr{pair(long+"y", long), pair(long+"z", long), pair(long, long)}
	checkAll(t, same, []api.Attr{same[2], same[0], pair(long+"y", "")})
}
