package page_test

import (
	"bytes"
	"slices"
	"testing"

	"parchment/api"
	"parchment/page"
)

// changed is bytes that differ from others at some places alone.
func changed(b []byte, places ...int) []byte {
	out := bytes.Clone(b)
	for _, i := range places {
		out[i] ^= byte(i%255 + 1)
	}
	return out
}

// wantSpans asks for spans, each an Off and a number of bytes, and for their bytes.
func wantSpans(t *testing.T, a, b []byte, want ...[2]int) {
	t.Helper()
	got := page.Diff(a, b)
	if len(got) != len(want) {
		t.Errorf("%d spans; want %v", len(got), want)
		return
	}
	for i, s := range got {
		from, to := want[i][0], want[i][0]+want[i][1]
		if s.Block != 0 || s.Off != from || !bytes.Equal(s.Old, a[from:to]) || !bytes.Equal(s.New, b[from:to]) {
			t.Errorf("span %d: block %d, off %d, % x, % x; want %v", i, s.Block, s.Off, s.Old, s.New, want[i])
		}
	}
}

// The chapter's second example.
func TestDiffExample(t *testing.T) {
	a := sheet{kind: 7, cells: [][]byte{some(100)}}.bytes()
	wantSpans(t, a, changed(a, 10, 12, 20), [2]int{10, 11})
	wantSpans(t, a, changed(a, 10, 19), [2]int{10, 1}, [2]int{19, 1})
}

// P9.3.

func TestDiffOfTwoThatAreAlike(t *testing.T) {
	for _, a := range [][]byte{page.New(0), page.New(9), some(512)} {
		wantSpans(t, a, a)
		wantSpans(t, a, bytes.Clone(a))
	}
}

func TestDiffAtEachPlace(t *testing.T) {
	for i := range 512 {
		wantSpans(t, some(512), changed(some(512), i), [2]int{i, 1})
		wantSpans(t, changed(page.New(0), i), page.New(0), [2]int{i, 1})
	}
}

func TestDiffAtEachTwoPlaces(t *testing.T) {
	a := some(512)
	for i := range 512 {
		for j := i + 1; j < 512; j++ {
			b := changed(a, i, j)
			if alike := j - i - 1; alike <= 7 {
				wantSpans(t, a, b, [2]int{i, j - i + 1})
			} else {
				wantSpans(t, a, b, [2]int{i, 1}, [2]int{j, 1})
			}
		}
	}
}

func TestDiffEverywhere(t *testing.T) {
	wantSpans(t, make([]byte, 512), bytes.Repeat([]byte{1}, 512), [2]int{0, 512})
	var seventh, ninth []int
	var each [][2]int
	for i := 0; i < 512; i += 8 {
		seventh = append(seventh, i)
	}
	for i := 0; i < 512; i += 9 {
		ninth = append(ninth, i)
		each = append(each, [2]int{i, 1})
	}
	wantSpans(t, some(512), changed(some(512), seventh...), [2]int{0, 505})
	wantSpans(t, some(512), changed(some(512), ninth...), each...)
}

func TestDiffAtTheEnds(t *testing.T) {
	a := page.New(0)
	wantSpans(t, a, changed(a, 0, 511), [2]int{0, 1}, [2]int{511, 1})
	wantSpans(t, a, changed(a, 0, 8, 503, 511), [2]int{0, 9}, [2]int{503, 9})
	wantSpans(t, a, changed(a, 0, 9, 502, 511), [2]int{0, 1}, [2]int{9, 1}, [2]int{502, 1}, [2]int{511, 1})
	wantSpans(t, a, changed(a, 1, 2, 3, 504, 505, 510), [2]int{1, 3}, [2]int{504, 7})
}

// Old are the first one's bytes, New the second one's, alike ones within the span too.
func TestDiffTellsBoth(t *testing.T) {
	a, b := make([]byte, 512), make([]byte, 512)
	copy(a[100:], []byte{1, 2, 3, 4})
	copy(b[100:], []byte{9, 2, 0, 8})
	s := page.Diff(a, b)
	if len(s) != 1 || s[0].Off != 100 || !bytes.Equal(s[0].Old, []byte{1, 2, 3, 4}) || !bytes.Equal(s[0].New, []byte{9, 2, 0, 8}) {
		t.Errorf("%v", s)
	}
	s = page.Diff(b, a)
	if len(s) != 1 || s[0].Off != 100 || !bytes.Equal(s[0].Old, []byte{9, 2, 0, 8}) || !bytes.Equal(s[0].New, []byte{1, 2, 3, 4}) {
		t.Errorf("%v", s)
	}
}

// Any 512 bytes are told apart, right pages or not; any other number is not.
func TestDiffOfOtherLengths(t *testing.T) {
	page512 := some(512)
	for _, n := range []int{0, 1, 510, 511, 513, 514, 1024} {
		for _, other := range [][]byte{make([]byte, n), some(n), make([]byte, n, 2048)} {
			for _, both := range [][2][]byte{{other, page512}, {page512, other}, {other, other}, {other, make([]byte, n)}, {nil, other}} {
				if s := page.Diff(both[0], both[1]); len(s) != 0 {
					t.Errorf("Diff of %d and %d bytes: %d spans", len(both[0]), len(both[1]), len(s))
				}
			}
		}
	}
	if s := page.Diff(nil, nil); len(s) != 0 {
		t.Errorf("Diff of none: %d spans", len(s))
	}
	wantSpans(t, some(512), make([]byte, 512, 2048), [2]int{0, 512})
}

// R3: spans share no memory with the pages, nor with one another.
func TestSpansAreNew(t *testing.T) {
	a := some(512)
	b := changed(a, 3, 5, 100, 300, 307, 511)
	wasA, wasB := bytes.Clone(a), bytes.Clone(b)
	want := page.Diff(a, b)
	for i := range want {
		got, other := page.Diff(a, b), page.Diff(a, b)
		scribble(got[i].Old)
		wantBytes(t, got[i].New, want[i].New)
		scribble(got[i].New)
		for j := range want {
			if j != i {
				wantBytes(t, got[j].Old, want[j].Old)
				wantBytes(t, got[j].New, want[j].New)
			}
			wantBytes(t, other[j].Old, want[j].Old)
			wantBytes(t, other[j].New, want[j].New)
		}
		clear(got[:cap(got)])
		if slices.ContainsFunc(other, func(s api.Span) bool { return s.New == nil }) {
			t.Error("two answers share a list")
		}
		wantBytes(t, a, wasA)
		wantBytes(t, b, wasB)
	}
	got := page.Diff(a, b)
	scribble(a)
	scribble(b)
	for j := range want {
		wantBytes(t, got[j].Old, want[j].Old)
		wantBytes(t, got[j].New, want[j].New)
	}
}

// P9.4: what Diff tells of calls that change a page, written over the page as it was, makes it as it is.
func TestDiffOfCalls(t *testing.T) {
	p := sheet{kind: 1, next: 2, cells: rows("abc", "", "defgh")}.bytes()
	for i, call := range []func(){
		func() { page.SetNext(p, 1<<32-1) },
		func() { page.Insert(p, 0, some(100)) },
		func() { page.Insert(p, 4, []byte("x")) },
		func() { page.Insert(p, 9, []byte("x")) },
		func() { page.Delete(p, 1) },
		func() { page.Delete(p, 0) },
		func() { page.SetNext(p, 0) },
	} {
		before := bytes.Clone(p)
		call()
		wantAsWords(t, before, p)
		if i == 3 && len(page.Diff(before, p)) != 0 {
			t.Error("what was refused has spans")
		}
	}
}
