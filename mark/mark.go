// Package mark is layer 1: texts whose bytes have origins. See shared/doc/01-mark.md.
package mark

import (
	"slices"
	"strings"

	"glazier/api"
)

// Of tells text as a labelled text, all of it of the origin nearest to the one given.
func Of(text string, origin int) api.Str {
	return api.Str{Text: strings.Clone(text), Runs: join(nil, len(text), nearest(origin))}
}

// Check tells ErrLabel, if s is not as told.
func Check(s api.Str) api.Errno {
	left := len(s.Text)
	for i, r := range s.Runs {
		// Lens are held against what is left, not summed up: a sum may wrap round.
		if r.Len < 1 || r.Len > left || r.Origin != nearest(r.Origin) {
			return api.ErrLabel
		}
		if i > 0 && s.Runs[i-1].Origin == r.Origin {
			return api.ErrLabel
		}
		left -= r.Len
	}
	if left > 0 {
		return api.ErrLabel
	}
	return api.OK
}

// Fix tells s as it is taken: the labelled text, as told, that any other stands for.
func Fix(s api.Str) api.Str {
	return api.Str{Text: strings.Clone(s.Text), Runs: taken(s)}
}

// At tells the origin of the i-th byte, or -1, if there is none.
func At(s api.Str, i int) int {
	if i < 0 || i >= len(s.Text) {
		return -1
	}
	for _, r := range s.Runs {
		if r.Len < 1 {
			continue
		}
		if i < r.Len {
			return nearest(r.Origin)
		}
		i -= r.Len
	}
	return api.MaxOrigin
}

// Cat tells the texts, one behind the other, as one.
func Cat(l ...api.Str) api.Str {
	var text strings.Builder
	var runs []api.Run
	for _, s := range l {
		text.WriteString(s.Text)
		for _, r := range taken(s) {
			runs = join(runs, r.Len, r.Origin)
		}
	}
	return api.Str{Text: text.String(), Runs: runs}
}

// Cut tells the bytes of the places from from on, below to.
func Cut(s api.Str, from int, to int) api.Str {
	end := len(s.Text)
	from, to = place(from, end), place(to, end)
	if to <= from {
		return api.Str{}
	}
	var runs []api.Run
	at := 0
	for _, r := range taken(s) {
		runs = join(runs, min(to, at+r.Len)-max(from, at), r.Origin)
		at += r.Len
	}
	return api.Str{Text: strings.Clone(s.Text[from:to]), Runs: runs}
}

// Same tells whether bytes and origins are alike.
func Same(a api.Str, b api.Str) bool {
	return a.Text == b.Text && slices.Equal(taken(a), taken(b))
}

// Pure tells whether all bytes are trusted.
func Pure(s api.Str) bool {
	return Worst(s) == 0
}

// Origins tells the origins that there are, rising, each once.
func Origins(s api.Str) []int {
	var origins []int
	for _, r := range taken(s) {
		origins = append(origins, r.Origin)
	}
	slices.Sort(origins)
	return slices.Compact(origins)
}

// Worst tells the greatest origin, 0 of no bytes.
func Worst(s api.Str) int {
	worst := 0
	for _, r := range taken(s) {
		worst = max(worst, r.Origin)
	}
	return worst
}

// Dye tells s with its bytes of lesser origins put to the origin nearest to the one given.
func Dye(s api.Str, origin int) api.Str {
	least := nearest(origin)
	var runs []api.Run
	for _, r := range taken(s) {
		runs = join(runs, r.Len, max(r.Origin, least))
	}
	return api.Str{Text: strings.Clone(s.Text), Runs: runs}
}

// taken tells the runs of s as chapter 1 takes those of any labelled text, in new memory.
func taken(s api.Str) []api.Run {
	var runs []api.Run
	left := len(s.Text)
	for _, r := range s.Runs {
		// Cut ahead of counting, so that Lens of any size don't wrap round.
		n := min(r.Len, left)
		if n > 0 {
			runs = join(runs, n, nearest(r.Origin))
			left -= n
		}
	}
	return join(runs, left, api.MaxOrigin)
}

// join puts n bytes of an origin behind runs, which must be the caller's own memory;
// it keeps neighbours of unlike origins, and adds nothing for an n below 1.
func join(runs []api.Run, n int, origin int) []api.Run {
	if n < 1 {
		return runs
	}
	last := len(runs) - 1
	if last >= 0 && runs[last].Origin == origin {
		runs[last].Len += n
		return runs
	}
	return append(runs, api.Run{Len: n, Origin: origin})
}

// nearest tells the origin nearest to the one given, of those that may be.
func nearest(origin int) int {
	return min(max(origin, 0), api.MaxOrigin)
}

// place tells the place nearest to i, from 0 to end.
func place(i int, end int) int {
	return min(max(i, 0), end)
}
