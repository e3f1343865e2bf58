package allow

import (
	"slices"
	"strings"
	"sync"
	"testing"
	"unsafe"

	"glazier/api"
	"glazier/mark"
	"glazier/serial"
	"glazier/token"
)

// The rows of the chapter, each name with a blank behind it.
const (
	tagRow     = "div span p a ul li b i em strong h1 h2 br hr img script style "
	attrRow    = "class id title alt name "
	addressRow = "href src "
	handlerRow = "onclick oninput onkey "
	rawRow     = "script style "
	voidRow    = "br hr img "
	commonRow  = "div span p a ul li b i em strong h1 h2 br hr img "
	namesRow   = "class id title alt name href src "
)

// question is a call that tells of a name whether it is one, and the row of which it asks.
type question struct {
	call string
	ask  func(string) bool
	row  string
}

// questions are all such calls.
func questions() []question {
	return []question{
		{"Tag", Tag, tagRow},
		{"Attr", Attr, attrRow},
		{"Address", Address, addressRow},
		{"Handler", Handler, handlerRow},
		{"Raw", Raw, rawRow},
		{"Void", Void, voidRow},
	}
}

// model is the model of the tests: a row is cut at its blanks, and each part held against name.
func model(row, name string) bool {
	for row != "" {
		at := strings.IndexByte(row, ' ')
		if row[:at] == name {
			return true
		}
		row = row[at+1:]
	}
	return false
}

// allNames are the names of all rows.
func allNames() []string {
	return strings.Fields(tagRow + attrRow + addressRow + handlerRow)
}

// check holds all questions, asked of name, against the model.
func check(t *testing.T, name string) {
	t.Helper()
	for _, q := range questions() {
		if got := q.ask(name); got != model(q.row, name) {
			t.Errorf("%s(%q) = %v", q.call, name, got)
		}
	}
}

// checkNone wants that name is none, whatever is asked.
func checkNone(t *testing.T, name string) {
	t.Helper()
	for _, q := range questions() {
		if q.ask(name) {
			t.Errorf("%s(%q) = true", q.call, name)
		}
	}
}

// checkLists holds all lists against the rows of the chapter.
func checkLists(t *testing.T) {
	t.Helper()
	if got := Tags(); !slices.Equal(got, strings.Fields(tagRow)) {
		t.Errorf("Tags() = %q", got)
	}
	shown, names := Common()
	if !slices.Equal(shown, strings.Fields(commonRow)) {
		t.Errorf("Common() tells the tags %q", shown)
	}
	if !slices.Equal(names, strings.Fields(namesRow)) {
		t.Errorf("Common() tells the attributes %q", names)
	}
}

func TestTags(t *testing.T) { // P16.1
	want := []string{"div", "span", "p", "a", "ul", "li", "b", "i", "em", "strong", "h1", "h2", "br", "hr", "img", "script", "style"}
	if got := Tags(); len(got) != 17 || !slices.Equal(got, want) {
		t.Errorf("Tags() = %q", got)
	}
}

func TestCommon(t *testing.T) { // P16.1
	shown, names := Common()
	if len(shown) != 15 || !slices.Equal(shown, []string{"div", "span", "p", "a", "ul", "li", "b", "i", "em", "strong", "h1", "h2", "br", "hr", "img"}) {
		t.Errorf("Common() tells the tags %q", shown)
	}
	if len(names) != 7 || !slices.Equal(names, []string{"class", "id", "title", "alt", "name", "href", "src"}) {
		t.Errorf("Common() tells the attributes %q", names)
	}
}

func TestListsAgainstQuestions(t *testing.T) { // P16.1
	for _, name := range Tags() {
		if !Tag(name) {
			t.Errorf("Tag(%q) = false", name)
		}
	}
	shown, names := Common()
	for _, name := range shown {
		if !Tag(name) || Raw(name) {
			t.Errorf("%q is told among the tags that are common", name)
		}
	}
	for _, name := range names {
		if Attr(name) == Address(name) || Handler(name) {
			t.Errorf("%q is told among the attributes that are common", name)
		}
	}
}

func TestExample(t *testing.T) { // P16.1: the chapter's example
	checkNone(t, "iframe")
}

func TestEachNameAskedOfEach(t *testing.T) { // P16.1
	for _, c := range []struct {
		names string
		want  [6]bool // as questions are: Tag, Attr, Address, Handler, Raw, Void
	}{
		{"div span p a ul li b i em strong h1 h2", [6]bool{true, false, false, false, false, false}},
		{"br hr img", [6]bool{true, false, false, false, false, true}},
		{"script style", [6]bool{true, false, false, false, true, false}},
		{"class id title alt name", [6]bool{false, true, false, false, false, false}},
		{"href src", [6]bool{false, false, true, false, false, false}},
		{"onclick oninput onkey", [6]bool{false, false, false, true, false, false}},
	} {
		for _, name := range strings.Fields(c.names) {
			for i, q := range questions() {
				if got := q.ask(name); got != c.want[i] {
					t.Errorf("%s(%q) = %v", q.call, name, got)
				}
			}
		}
	}
}

func TestOtherNames(t *testing.T) { // P16.1
	for _, name := range []string{
		"", " ", "\x00", "*", "<", "<p>", "p>", "/p", "</p>", "-", "1", "\xff", "\xc3\xa9", "\xef\xbb\xbfp", // of bytes of any kind
		"iframe", "object", "embed", "svg", "math", "html", "head", "body", "link", "meta", "base", "form", "input", "button", "textarea", "title_", "template", "noscript", "xmp", "plaintext", "video", "audio", "table", "td", "pre", "code", "u", "s", "q", "h", "h0", "h3", "h6", "ol", "dl", "wbr", "area", "col",
		"on", "onload", "onerror", "onkeydown", "onkeyup", "onmouseover", "onchange", "onsubmit", "onfocus", "click", "key", "formaction", "action", "srcset", "srcdoc", "xlink:href", "data", "poster", "background", "lang", "dir", "value", "type", "rel", "target", "tabindex", "aria-label", "data-id",
		"DIV", "Div", "diV", "P", "A", "H1", "BR", "Br", "IMG", "SCRIPT", "Script", "STYLE", "CLASS", "Id", "ID", "Title", "HREF", "Href", "SRC", "onClick", "OnClick", "ONCLICK", "onInput", "onKey", // with a capital letter
		"di", "iv", "spa", "h", "b ", " b", "b\t", "\ni", "i\x00", "a\x00b", "br/", "img ", "scrip", "cript", "tyle", "styl", "scripts", "classes", "clas", "lass", "itle", "hre", "ref", "sr", "rc", "onclic", "nclick", "oninpu", "onke", "nkey", "onkeys",
		"div span", "br,hr", "script style", "div span p", "hrefsrc", "pa", "ab", "bi", "ib", "ulli", "classid", "id\x00", "d\xc4\xb1v", "\xd1\x80", "scr\xc4\xb1pt", "\xc5\xbftyle", "\xc5\xbfrc", "on\xe2\x84\xaaey", // letters that fold to those of a name
		strings.TrimSpace(tagRow), tagRow, attrRow, addressRow, handlerRow, rawRow, voidRow,
	} {
		checkNone(t, name)
	}
}

// beside tells all texts that have a byte more, a byte less, or a byte other than text.
func beside(text string) []string {
	var out []string
	for i := range len(text) + 1 {
		for b := range 256 {
			one := string([]byte{byte(b)})
			out = append(out, text[:i]+one+text[i:])
			if i < len(text) {
				out = append(out, text[:i]+one+text[i+1:])
			}
		}
		if i < len(text) {
			out = append(out, text[:i]+text[i+1:])
		}
	}
	return out
}

func TestBesideNames(t *testing.T) { // P16.1
	for _, name := range allNames() {
		for _, other := range beside(name) {
			check(t, other)
		}
		for at := range len(name) + 1 { // cut short, at either end
			check(t, name[:at])
			check(t, name[at:])
		}
	}
}

func TestLettersOfAnyCase(t *testing.T) { // P16.1: names are as they are written alone
	for _, name := range allNames() {
		for pattern := range 1 << len(name) {
			other := []byte(name)
			for i, b := range other {
				if pattern>>i&1 == 1 && b >= 'a' && b <= 'z' {
					other[i] = b - 'a' + 'A'
				}
			}
			check(t, string(other))
		}
	}
}

func TestShortTexts(t *testing.T) { // P16.1: all texts of up to two bytes
	check(t, "")
	for a := range 256 {
		check(t, string([]byte{byte(a)}))
		for b := range 256 {
			check(t, string([]byte{byte(a), byte(b)}))
		}
	}
}

func TestNamesPutTogether(t *testing.T) { // P16.1
	for _, a := range allNames() {
		for _, b := range allNames() {
			for _, between := range []string{"", " ", ",", "\x00", "\n"} {
				check(t, a+between+b)
			}
		}
	}
}

func TestNamesAgainstLayersBelow(t *testing.T) { // P16.1: what is raw or void here is so where HTML is put and read
	for _, name := range append(allNames(), "", "iframe", "Script", "BR") {
		if got := token.IsRaw(name); got != Raw(name) {
			t.Errorf("Raw(%q) = %v, token.IsRaw %v", name, Raw(name), got)
		}
	}
	for _, name := range Tags() {
		end := serial.End(api.Tree{Tag: mark.Of(name, 0)})
		if got := end.Text == ""; got != Void(name) {
			t.Errorf("Void(%q) = %v, its end is %q", name, Void(name), end.Text)
		}
	}
}

func TestListsWrittenOver(t *testing.T) { // P16.2
	for range 3 {
		list := Tags()
		shown, names := Common()
		for _, l := range [][]string{list, shown, names} {
			l = l[:cap(l)]
			for i := range l {
				l[i] = "iframe"
			}
			_ = append(l[:0], "object", "onload")
		}
		checkLists(t)
		for _, name := range append(allNames(), "iframe", "object", "onload") {
			check(t, name)
		}
	}
}

func TestListsOfOneAnswer(t *testing.T) { // P16.2
	shown, names := Common()
	for i := range shown[:cap(shown)] {
		shown[:cap(shown)][i] = "iframe"
	}
	if !slices.Equal(names, strings.Fields(namesRow)) {
		t.Errorf("tags written over, the attributes are %q", names)
	}
	shown, names = Common()
	for i := range names[:cap(names)] {
		names[:cap(names)][i] = "onload"
	}
	if !slices.Equal(shown, strings.Fields(commonRow)) {
		t.Errorf("attributes written over, the tags are %q", shown)
	}
	shown, names = Common()
	shown, names = append(shown, "script"), append(names, "onclick")
	if !slices.Equal(shown, strings.Fields(commonRow+"script")) || !slices.Equal(names, strings.Fields(namesRow+"onclick")) {
		t.Errorf("each with one more, they are %q and %q", shown, names)
	}
}

func TestListsAreNewMemory(t *testing.T) { // P16.2
	var lists [][]string
	for range 2 {
		shown, names := Common()
		lists = append(lists, Tags(), shown, names)
	}
	for i, a := range lists {
		for j, b := range lists[i+1:] {
			if overlap(a, b) {
				t.Errorf("lists %d and %d share memory", i, i+1+j)
			}
		}
	}
	all := slices.Concat(lists...)
	for i, a := range all {
		for j, b := range all[i+1:] {
			if shares(a, b) {
				t.Errorf("names %d and %d, %q and %q, share bytes", i, i+1+j, a, b)
			}
		}
	}
}

// overlap tells whether two lists have elements, or room for them, of one memory.
func overlap(a, b []string) bool {
	p, q := uintptr(unsafe.Pointer(unsafe.SliceData(a))), uintptr(unsafe.Pointer(unsafe.SliceData(b)))
	size := unsafe.Sizeof("")
	return p < q+uintptr(cap(b))*size && q < p+uintptr(cap(a))*size
}

// shares tells whether two texts have bytes of one memory.
func shares(a, b string) bool {
	if a == "" || b == "" {
		return false
	}
	p, q := uintptr(unsafe.Pointer(unsafe.StringData(a))), uintptr(unsafe.Pointer(unsafe.StringData(b)))
	return p < q+uintptr(len(b)) && q < p+uintptr(len(a))
}

func TestNamesAreNotKept(t *testing.T) { // P16.2
	for _, name := range allNames() {
		own := []byte(name)
		asked := unsafe.String(unsafe.SliceData(own), len(own))
		check(t, asked)
		if string(own) != name {
			t.Errorf("%q was written over: %q", name, own)
		}
		own[0] = 'X' // what is asked next is another name of the same memory
		check(t, asked)
	}
	checkLists(t)
}

func TestAnswersHangOnArgumentsAlone(t *testing.T) { // P3 of DOC.md
	for range 50 {
		for _, name := range allNames() {
			check(t, name)
			checkNone(t, name+"?")
		}
		checkLists(t)
	}
	var group sync.WaitGroup
	for range 8 {
		group.Go(func() {
			for _, name := range allNames() {
				check(t, name)
				checkLists(t)
			}
		})
	}
	group.Wait()
}

func TestLongTexts(t *testing.T) { // P1 of DOC.md: an end within bearable time
	const n = 1 << 20
	for _, name := range allNames() {
		checkNone(t, strings.Repeat(name, n/len(name)))
		checkNone(t, name+strings.Repeat(" ", n))
		checkNone(t, strings.Repeat("\x00", n)+name)
	}
}
