package mark

import (
	"math"
	"slices"
	"strings"
	"testing"
	"unsafe"

	"glazier/api"
)

const top = api.MaxOrigin

// str writes a labelled text: lens and origins by turns.
func str(text string, pairs ...int) api.Str {
	s := api.Str{Text: text}
	for i := 0; i+1 < len(pairs); i += 2 {
		s.Runs = append(s.Runs, api.Run{Len: pairs[i], Origin: pairs[i+1]})
	}
	return s
}

// alike holds two texts against each other field by field, without the package's own calls.
func alike(a, b api.Str) bool {
	return a.Text == b.Text && slices.Equal(a.Runs, b.Runs)
}

// byteOrigins tells the origin of each byte as the chapter takes them: the model of the tests.
func byteOrigins(s api.Str) []int {
	var out []int
	for _, r := range s.Runs {
		for n := 0; n < r.Len && len(out) < len(s.Text); n++ {
			switch {
			case r.Origin < 0:
				out = append(out, 0)
			case r.Origin > top:
				out = append(out, top)
			default:
				out = append(out, r.Origin)
			}
		}
	}
	for len(out) < len(s.Text) {
		out = append(out, top)
	}
	return out
}

// asTold tells the one labelled text of these bytes and origins that is as told.
func asTold(text string, origins []int) api.Str {
	s := api.Str{Text: text}
	for i, o := range origins {
		if i > 0 && origins[i-1] == o {
			s.Runs[len(s.Runs)-1].Len++
		} else {
			s.Runs = append(s.Runs, api.Run{Len: 1, Origin: o})
		}
	}
	return s
}

// someStrs tells labelled texts of all kinds, right and wrong.
func someStrs() []api.Str {
	lens := []int{math.MinInt, -1, 0, 1, 2, 4, math.MaxInt}
	origins := []int{math.MinInt, -1, 0, 1, 9, top - 1, top, top + 1, math.MaxInt}
	var kinds []api.Run
	for _, n := range lens {
		for _, o := range origins {
			kinds = append(kinds, api.Run{Len: n, Origin: o})
		}
	}
	var out []api.Str
	for _, text := range []string{"", "x", "a\x00\xffd"} {
		out = append(out, api.Str{Text: text}, api.Str{Text: text, Runs: []api.Run{}})
		for i, a := range kinds {
			out = append(out, api.Str{Text: text, Runs: []api.Run{a}})
			for j, b := range kinds {
				out = append(out, api.Str{Text: text, Runs: []api.Run{a, b}})
				c := kinds[(i*7+j*5+3)%len(kinds)]
				d := kinds[(i*3+j*11+8)%len(kinds)]
				out = append(out, api.Str{Text: text, Runs: []api.Run{a, b, c, d}})
			}
		}
	}
	return out
}

// fewStrs tells a few of someStrs, for tests that take pairs.
func fewStrs() []api.Str {
	var out []api.Str
	for i, s := range someStrs() {
		if i%211 == 0 {
			out = append(out, s)
		}
	}
	return append(out, str(""), str("ab", 2, 0), str("ab", 1, 0, 1, 0), str("ab", 1, 3, 1, 0), str("ab"), str("ab", 2, top))
}

// places are numbers of any size that a place may be asked by.
func places() []int {
	return []int{math.MinInt, -2, -1, 0, 1, 2, 3, 4, 5, math.MaxInt - 1, math.MaxInt}
}

func TestOf(t *testing.T) { // P1.1
	cases := []struct {
		text   string
		origin int
		want   api.Str
	}{
		{"abc", 0, str("abc", 3, 0)},
		{"abc", 7, str("abc", 3, 7)},
		{"a", top, str("a", 1, top)},
		{"a", top + 1, str("a", 1, top)},
		{"a", math.MaxInt, str("a", 1, top)},
		{"a", -1, str("a", 1, 0)},
		{"a", math.MinInt, str("a", 1, 0)},
		{"", 5, str("")},
		{"\xff\x00", 2, str("\xff\x00", 2, 2)},
	}
	for _, c := range cases {
		if got := Of(c.text, c.origin); !alike(got, c.want) {
			t.Errorf("Of(%q, %d) = %v, want %v", c.text, c.origin, got, c.want)
		}
	}
}

func TestCheck(t *testing.T) { // P1.1
	right := []api.Str{
		str(""), {Runs: []api.Run{}}, str("a", 1, 0), str("a", 1, top), str("abc", 1, 0, 2, 3),
		str("abc", 1, 4, 1, 0, 1, 4),
	}
	for _, s := range right {
		if e := Check(s); e != api.OK {
			t.Errorf("Check(%v) = %d, want OK", s, e)
		}
	}
	wrong := []api.Str{
		str("a"), str("", 1, 0), str("", 0, 0), str("a", 1, 0, 0, 1), str("a", 0, 1, 1, 0),
		str("a", -1, 0, 2, 1), str("a", 2, 0), str("ab", 1, 0), str("ab", 1, 0, 1, 0),
		str("a", 1, -1), str("a", 1, top+1), str("a", 1, math.MinInt), str("a", 1, math.MaxInt),
		str("a", math.MaxInt, 0, math.MaxInt, 1, 3, 0), // its Lens, wrapped round, are the bytes
		str("ab", 1, -1, 1, 0),
	}
	for _, s := range wrong {
		if e := Check(s); e != api.ErrLabel {
			t.Errorf("Check(%v) = %d, want ErrLabel", s, e)
		}
	}
}

func TestCheckAgainstModel(t *testing.T) { // P1.1
	for _, s := range someStrs() {
		told := alike(s, asTold(s.Text, byteOrigins(s)))
		if got := Check(s); (got == api.OK) != told || got != api.OK && got != api.ErrLabel {
			t.Fatalf("Check(%v) = %d, as told: %v", s, got, told)
		}
	}
}

func TestFix(t *testing.T) { // P1.1
	cases := []struct{ s, want api.Str }{
		{str("abc", 1, 0, 2, 3), str("abc", 1, 0, 2, 3)},
		{str(""), str("")},
		{str("", 3, 1), str("")},
		{str("ab"), str("ab", 2, top)},
		{str("abc", 1, 0), str("abc", 1, 0, 2, top)},
		{str("abc", 1, 0, 1, top), str("abc", 1, 0, 2, top)},
		{str("abc", 2, 0, 5, 1), str("abc", 2, 0, 1, 1)},
		{str("abc", 3, 0, 5, 1), str("abc", 3, 0)},
		{str("abc", 1, 2, 1, 2, 1, 3), str("abc", 2, 2, 1, 3)},
		{str("abc", 1, 2, 0, 5, -3, 6, 2, 2), str("abc", 3, 2)},
		{str("abc", 1, -9, 2, 0), str("abc", 3, 0)},
		{str("abc", 1, top+1, 2, math.MaxInt), str("abc", 3, top)},
		{str("abc", math.MinInt, 1, 1, 4, math.MaxInt, 5, math.MaxInt, 6), str("abc", 1, 4, 2, 5)},
	}
	for _, c := range cases {
		if got := Fix(c.s); !alike(got, c.want) {
			t.Errorf("Fix(%v) = %v, want %v", c.s, got, c.want)
		}
	}
}

func TestFixAgainstModel(t *testing.T) { // P1.1
	for _, s := range someStrs() {
		got := Fix(s)
		if want := asTold(s.Text, byteOrigins(s)); !alike(got, want) {
			t.Fatalf("Fix(%v) = %v, want %v", s, got, want)
		}
		if Check(got) != api.OK || !alike(Fix(got), got) {
			t.Fatalf("Fix(%v) = %v is not as told", s, got)
		}
	}
}

func TestAt(t *testing.T) { // P1.1
	s := str("abcd", 1, 0, 0, 9, 2, 5)
	for i, want := range []int{0, 5, 5, top} {
		if got := At(s, i); got != want {
			t.Errorf("At(%v, %d) = %d, want %d", s, i, got, want)
		}
	}
	for _, i := range []int{-1, math.MinInt, 4, math.MaxInt} {
		if got := At(s, i); got != -1 {
			t.Errorf("At(%v, %d) = %d, want -1", s, i, got)
		}
	}
	if got := At(str("", 3, 0), 0); got != -1 {
		t.Errorf("At of no bytes = %d, want -1", got)
	}
}

func TestAtAgainstModel(t *testing.T) { // P1.1
	for _, s := range someStrs() {
		origins := byteOrigins(s)
		for _, i := range places() {
			want := -1
			if i >= 0 && i < len(origins) {
				want = origins[i]
			}
			if got := At(s, i); got != want {
				t.Fatalf("At(%v, %d) = %d, want %d", s, i, got, want)
			}
		}
	}
}

func TestCat(t *testing.T) { // P1.1
	cases := []struct {
		l    []api.Str
		want api.Str
	}{
		{nil, str("")},
		{[]api.Str{str(""), str("", 1, 1)}, str("")},
		{[]api.Str{str("a", 1, 0), str("b", 1, 0)}, str("ab", 2, 0)},
		{[]api.Str{str("a", 1, 0), str("", 2, 4), str("b", 1, 0), str("c", 1, 1)}, str("abc", 2, 0, 1, 1)},
		{[]api.Str{str("ab"), str("c", 7, top+5), str("d", 1, -1)}, str("abcd", 3, top, 1, 0)},
		{[]api.Str{str("ab", 1, 0), str("cd", 1, 2)}, str("abcd", 1, 0, 1, top, 1, 2, 1, top)},
		{[]api.Str{str("a", math.MaxInt, 3), str("b", math.MaxInt, 3)}, str("ab", 2, 3)},
	}
	for _, c := range cases {
		if got := Cat(c.l...); !alike(got, c.want) {
			t.Errorf("Cat(%v) = %v, want %v", c.l, got, c.want)
		}
	}
	if got := Cat(); !alike(got, api.Str{}) {
		t.Errorf("Cat() = %v", got)
	}
}

func TestCatAgainstModel(t *testing.T) { // P1.1
	few := fewStrs()
	for _, a := range few {
		if got, want := Cat(a), asTold(a.Text, byteOrigins(a)); !alike(got, want) {
			t.Fatalf("Cat(%v) = %v, want %v", a, got, want)
		}
		for _, b := range few {
			want := asTold(a.Text+b.Text, append(byteOrigins(a), byteOrigins(b)...))
			if got := Cat(a, b); !alike(got, want) {
				t.Fatalf("Cat(%v, %v) = %v, want %v", a, b, got, want)
			}
		}
	}
}

func TestCut(t *testing.T) { // P1.1
	s := str("abcdef", 2, 0, 2, 3, 1, 0)
	cases := []struct {
		from, to int
		want     api.Str
	}{
		{0, 6, str("abcdef", 2, 0, 2, 3, 1, 0, 1, top)},
		{math.MinInt, math.MaxInt, str("abcdef", 2, 0, 2, 3, 1, 0, 1, top)},
		{1, 3, str("bc", 1, 0, 1, 3)},
		{2, 4, str("cd", 2, 3)},
		{3, 4, str("d", 1, 3)},
		{-5, 1, str("a", 1, 0)},
		{5, 100, str("f", 1, top)},
		{3, 3, str("")},
		{4, 2, str("")},
		{6, 9, str("")},
		{-9, -1, str("")},
		{math.MaxInt, math.MinInt, str("")},
	}
	for _, c := range cases {
		if got := Cut(s, c.from, c.to); !alike(got, c.want) {
			t.Errorf("Cut(%v, %d, %d) = %v, want %v", s, c.from, c.to, got, c.want)
		}
	}
}

func TestCutAgainstModel(t *testing.T) { // P1.1
	for i, s := range someStrs() {
		if i%7 != 0 {
			continue
		}
		origins, end := byteOrigins(s), len(s.Text)
		for _, from := range places() {
			for _, to := range places() {
				var want api.Str
				lo, hi := min(max(from, 0), end), min(max(to, 0), end)
				if lo < hi {
					want = asTold(s.Text[lo:hi], origins[lo:hi])
				}
				if got := Cut(s, from, to); !alike(got, want) {
					t.Fatalf("Cut(%v, %d, %d) = %v, want %v", s, from, to, got, want)
				}
			}
		}
	}
}

func TestSame(t *testing.T) { // P1.1
	alikes := [][2]api.Str{
		{str(""), str("", 4, 4)},
		{str("ab", 2, 0), str("ab", 1, 0, 1, 0)},
		{str("ab"), str("ab", 2, top)},
		{str("ab", 2, -4), str("ab", 9, 0)},
		{str("ab", 2, top+1), str("ab", 1, math.MaxInt)},
	}
	for _, p := range alikes {
		if !Same(p[0], p[1]) || !Same(p[1], p[0]) {
			t.Errorf("Same(%v, %v) = false", p[0], p[1])
		}
	}
	unlike := [][2]api.Str{
		{str("ab", 2, 0), str("ac", 2, 0)},
		{str("ab", 2, 0), str("ab", 2, 1)},
		{str("ab", 2, 0), str("ab", 1, 0)},
		{str("ab", 2, 0), str("abc", 3, 0)},
		{str("ab", 1, 0, 1, 1), str("ab", 1, 1, 1, 0)},
		{str("ab"), str("ab", 2, 0)},
	}
	for _, p := range unlike {
		if Same(p[0], p[1]) || Same(p[1], p[0]) {
			t.Errorf("Same(%v, %v) = true", p[0], p[1])
		}
	}
}

func TestSameAgainstModel(t *testing.T) { // P1.1
	few := fewStrs()
	for _, a := range few {
		for _, b := range few {
			want := a.Text == b.Text && slices.Equal(byteOrigins(a), byteOrigins(b))
			if got := Same(a, b); got != want {
				t.Fatalf("Same(%v, %v) = %v", a, b, got)
			}
		}
	}
}

func TestPureOriginsWorst(t *testing.T) { // P1.1
	cases := []struct {
		s       api.Str
		pure    bool
		origins []int
		worst   int
	}{
		{str(""), true, nil, 0},
		{str("", 2, 8), true, nil, 0},
		{str("ab", 2, 0), true, []int{0}, 0},
		{str("ab", 2, -7), true, []int{0}, 0},
		{str("ab", 9, 0, 1, 5), true, []int{0}, 0},
		{str("ab", 1, 0), false, []int{0, top}, top},
		{str("ab"), false, []int{top}, top},
		{str("ab", 1, 0, 1, 1), false, []int{0, 1}, 1},
		{str("abcd", 1, 9, 1, 2, 1, 9, 1, 5), false, []int{2, 5, 9}, 9},
		{str("ab", 1, math.MaxInt, 1, 3), false, []int{3, top}, top},
	}
	for _, c := range cases {
		if got := Pure(c.s); got != c.pure {
			t.Errorf("Pure(%v) = %v", c.s, got)
		}
		if got := Origins(c.s); !slices.Equal(got, c.origins) {
			t.Errorf("Origins(%v) = %v, want %v", c.s, got, c.origins)
		}
		if got := Worst(c.s); got != c.worst {
			t.Errorf("Worst(%v) = %d, want %d", c.s, got, c.worst)
		}
	}
}

func TestPureOriginsWorstAgainstModel(t *testing.T) { // P1.1
	for _, s := range someStrs() {
		want := byteOrigins(s)
		slices.Sort(want)
		want = slices.Compact(want)
		worst := 0
		if len(want) > 0 {
			worst = want[len(want)-1]
		}
		if got := Origins(s); !slices.Equal(got, want) {
			t.Fatalf("Origins(%v) = %v, want %v", s, got, want)
		}
		if got := Worst(s); got != worst {
			t.Fatalf("Worst(%v) = %d, want %d", s, got, worst)
		}
		if got := Pure(s); got != (worst == 0) {
			t.Fatalf("Pure(%v) = %v", s, got)
		}
	}
}

func TestDye(t *testing.T) { // P1.1
	s := str("abcd", 1, 0, 1, 3, 1, 5)
	cases := []struct {
		origin int
		want   api.Str
	}{
		{math.MinInt, str("abcd", 1, 0, 1, 3, 1, 5, 1, top)},
		{0, str("abcd", 1, 0, 1, 3, 1, 5, 1, top)},
		{1, str("abcd", 1, 1, 1, 3, 1, 5, 1, top)},
		{3, str("abcd", 2, 3, 1, 5, 1, top)},
		{4, str("abcd", 2, 4, 1, 5, 1, top)},
		{5, str("abcd", 3, 5, 1, top)},
		{top, str("abcd", 4, top)},
		{top + 1, str("abcd", 4, top)},
		{math.MaxInt, str("abcd", 4, top)},
	}
	for _, c := range cases {
		if got := Dye(s, c.origin); !alike(got, c.want) {
			t.Errorf("Dye(%v, %d) = %v, want %v", s, c.origin, got, c.want)
		}
	}
	if got := Dye(str("", 3, 0), 4); !alike(got, api.Str{}) {
		t.Errorf("Dye of no bytes = %v", got)
	}
}

func TestDyeAgainstModel(t *testing.T) { // P1.1
	for _, s := range someStrs() {
		for _, origin := range []int{math.MinInt, -1, 0, 1, 5, top, top + 1, math.MaxInt} {
			origins := byteOrigins(s)
			for i := range origins {
				origins[i] = max(origins[i], min(origin, top))
			}
			if got, want := Dye(s, origin), asTold(s.Text, origins); !alike(got, want) {
				t.Fatalf("Dye(%v, %d) = %v, want %v", s, origin, got, want)
			}
		}
	}
}

func TestCutAndPutTogether(t *testing.T) { // P1.2
	for i, s := range someStrs() {
		if i%7 != 0 {
			continue
		}
		want := asTold(s.Text, byteOrigins(s))
		for _, at := range places() {
			if got := Cat(Cut(s, math.MinInt, at), Cut(s, at, math.MaxInt)); !alike(got, want) {
				t.Fatalf("%v, cut at %d and put together: %v", s, at, got)
			}
		}
		var parts []api.Str
		for at := range len(s.Text) {
			parts = append(parts, Cut(s, at, at+1))
		}
		if got := Cat(parts...); !alike(got, want) || !Same(got, s) {
			t.Fatalf("%v, cut byte by byte and put together: %v", s, got)
		}
	}
}

// calls tells the answers of every call that s may be given to.
func calls(s api.Str) []api.Str {
	return []api.Str{
		Of(s.Text, 3), Fix(s), Cat(s), Cat(s, s), Cat(api.Str{}, s, api.Str{}),
		Cut(s, 0, len(s.Text)), Cut(s, 1, 3), Dye(s, 0), Dye(s, 4), Dye(s, top),
	}
}

func TestArgumentsAreNotChanged(t *testing.T) { // P1.3
	for _, s := range someStrs() {
		before := slices.Clone(s.Runs)
		calls(s)
		Check(s)
		At(s, 1)
		Same(s, s)
		Pure(s)
		Origins(s)
		Worst(s)
		if !slices.Equal(s.Runs, before) {
			t.Fatalf("runs changed from %v to %v", before, s.Runs)
		}
	}
	l := []api.Str{str("a", 1, 0), str("b", 1, 0), str("c", 0, 5)}
	Cat(l...)
	if !alike(l[0], str("a", 1, 0)) || !alike(l[1], str("b", 1, 0)) || !alike(l[2], str("c", 0, 5)) {
		t.Errorf("Cat changed its list: %v", l)
	}
}

func TestBytesBehindAnArgumentAreNotChanged(t *testing.T) { // P1.3
	own := []api.Run{{Len: 1, Origin: 2}, {Len: 7, Origin: 7}}
	s := api.Str{Text: "abc", Runs: own[:1]} // an append in place would write to own[1]
	calls(s)
	if own[0] != (api.Run{Len: 1, Origin: 2}) || own[1] != (api.Run{Len: 7, Origin: 7}) {
		t.Errorf("memory behind the runs changed: %v", own)
	}
}

func TestAnswersAreNewMemory(t *testing.T) { // P1.3
	s := str("abcdef", 2, 0, 2, 3, 2, 5)
	for i, got := range calls(s) {
		want := slices.Clone(got.Runs)
		again := calls(s)[i]
		scribble(got.Runs)
		if !alike(s, str("abcdef", 2, 0, 2, 3, 2, 5)) {
			t.Fatalf("call %d: its answer shares runs with its argument", i)
		}
		if !slices.Equal(again.Runs, want) || !slices.Equal(calls(s)[i].Runs, want) {
			t.Fatalf("call %d: two answers share runs", i)
		}
		if shares(got.Text, s.Text) || shares(got.Text, again.Text) {
			t.Fatalf("call %d: its answer shares bytes", i)
		}
	}
}

func TestOriginsAreNewMemory(t *testing.T) { // P1.3
	s := str("abc", 1, 4, 1, 2, 1, 4)
	a, b := Origins(s), Origins(s)
	a = a[:cap(a)]
	for i := range a {
		a[i] = -5
	}
	if !slices.Equal(b, []int{2, 4}) || !slices.Equal(Origins(s), []int{2, 4}) {
		t.Errorf("answers share memory: %v", b)
	}
	if !alike(s, str("abc", 1, 4, 1, 2, 1, 4)) {
		t.Errorf("the argument changed: %v", s)
	}
}

// scribble writes over all that a list can reach.
func scribble(runs []api.Run) {
	runs = runs[:cap(runs)]
	for i := range runs {
		runs[i] = api.Run{Len: -9, Origin: -9}
	}
}

// shares tells whether two texts have bytes of one memory.
func shares(a, b string) bool {
	if a == "" || b == "" {
		return false
	}
	p, q := uintptr(unsafe.Pointer(unsafe.StringData(a))), uintptr(unsafe.Pointer(unsafe.StringData(b)))
	return p < q+uintptr(len(b)) && q < p+uintptr(len(a))
}

func TestAnswersAreAsTold(t *testing.T) { // P5 of DOC.md
	for _, s := range someStrs() {
		for i, got := range calls(s) {
			if Check(got) != api.OK {
				t.Fatalf("call %d of %v: %v is not as told", i, s, got)
			}
		}
	}
}

func TestNilAndEmptyAreOne(t *testing.T) { // P5 of DOC.md
	for _, text := range []string{"", "ab"} {
		none, empty := api.Str{Text: text}, api.Str{Text: text, Runs: []api.Run{}}
		if Check(none) != Check(empty) || !Same(none, empty) || !alike(Fix(none), Fix(empty)) {
			t.Errorf("%q: nil and empty runs are two", text)
		}
	}
	if !alike(Cat(), Cat([]api.Str{}...)) {
		t.Error("nil and empty lists are two")
	}
}

func TestAnswersHangOnArgumentsAlone(t *testing.T) { // P3 of DOC.md
	for _, s := range fewStrs() {
		first, second := calls(s), calls(s)
		for i := range first {
			if !alike(first[i], second[i]) {
				t.Fatalf("call %d of %v: %v, then %v", i, s, first[i], second[i])
			}
		}
	}
}

func TestLongTexts(t *testing.T) { // P1 of DOC.md: an end within bearable time
	const n = 1 << 18
	s := api.Str{Text: strings.Repeat("x", n)}
	for i := range n {
		s.Runs = append(s.Runs, api.Run{Len: 1, Origin: i % 2}, api.Run{Len: 0, Origin: 5})
	}
	if got := Fix(s); len(got.Runs) != n || Check(got) != api.OK {
		t.Errorf("Fix of %d runs has %d", n, len(got.Runs))
	}
	if got := Cat(Cut(s, 0, n/2), Cut(s, n/2, n)); !Same(got, s) {
		t.Error("P1.2 of a long text")
	}
	if got := Dye(s, 1); !alike(got, Of(s.Text, 1)) {
		t.Errorf("Dye has %d runs", len(got.Runs))
	}
	if got := Origins(s); !slices.Equal(got, []int{0, 1}) {
		t.Errorf("Origins: %v", got)
	}
}
