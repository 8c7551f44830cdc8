package chars_test

import (
	"bytes"
	"math"
	"slices"
	"strings"
	"testing"
	"unsafe"

	"parchment/chars"
)

// The chapter's examples.
func TestExamples(t *testing.T) {
	for _, s := range []string{"a", "_1", "x-y.z", "é"} {
		wantName(t, s, true)
	}
	for _, s := range []string{"1a", "-a", "a:b", "a b", ""} {
		wantName(t, s, false)
	}
	for _, s := range []string{"\xff", "\x00", "\xef\xbf\xbe"} {
		wantTexts(t, s, false)
	}
	wantBlank(t, "\t\n", true)
	wantBlank(t, "\u00a0", false)
	wantBlank(t, "\xa0", false)
}

// What a character is: the first of these that it is holds the others in it.
const (
	none = iota
	text
	name
	start
)

// P5.1: characters on both sides of each bound that the chapter's table names.
func TestCharactersAtTheBounds(t *testing.T) {
	for _, c := range []struct {
		r    rune
		what int
	}{
		{0, none}, {1, none}, {8, none}, {9, text}, {0xA, text}, {0xB, none}, {0xC, none}, {0xD, text}, {0xE, none}, {0x1F, none}, {0x20, text},
		{',', text}, {'-', name}, {'.', name}, {'/', text}, {'0', name}, {'9', name}, {':', text}, {';', text},
		{'@', text}, {'A', start}, {'Z', start}, {'[', text}, {'^', text}, {'_', start}, {'`', text}, {'a', start}, {'z', start}, {'{', text},
		{0x7F, text}, {0x80, text}, {0x9F, text}, {0xA0, text}, {0xAA, text}, {0xB6, text}, {0xB7, name}, {0xB8, text}, {0xBF, text},
		{0xC0, start}, {0xD6, start}, {0xD7, text}, {0xD8, start}, {0xF6, start}, {0xF7, text}, {0xF8, start}, {0x2FF, start},
		{0x300, name}, {0x36F, name}, {0x370, start}, {0x37D, start}, {0x37E, text}, {0x37F, start}, {0x1FFF, start}, {0x2000, text},
		{0x200B, text}, {0x200C, start}, {0x200D, start}, {0x200E, text}, {0x203E, text}, {0x203F, name}, {0x2040, name}, {0x2041, text},
		{0x206F, text}, {0x2070, start}, {0x218F, start}, {0x2190, text}, {0x2BFF, text}, {0x2C00, start}, {0x2FEF, start}, {0x2FF0, text},
		{0x3000, text}, {0x3001, start}, {0xD7FF, start}, {0xD800, none}, {0xDBFF, none}, {0xDC00, none}, {0xDFFF, none}, {0xE000, text},
		{0xF8FF, text}, {0xF900, start}, {0xFDCF, start}, {0xFDD0, text}, {0xFDEF, text}, {0xFDF0, start}, {0xFFFD, start}, {0xFFFE, none},
		{0xFFFF, none}, {0x10000, start}, {0x1FFFE, start}, {0xEFFFF, start}, {0xF0000, text}, {0x10FFFF, text},
	} {
		wantCharacter(t, c.r, c.what)
	}
}

// P5.1: numbers that are no characters.
func TestNumbersThatAreNoCharacters(t *testing.T) {
	for _, r := range []rune{-1, -2, -9, -0x20, -'a', math.MinInt32, math.MinInt32 + 'a', 0x110000, 0x110001, 0x200000 + 'a', 1<<24 + 'a', math.MaxInt32 - 1, math.MaxInt32} {
		wantCharacter(t, r, none)
	}
}

// P5.2: names.
func TestNames(t *testing.T) {
	for _, s := range []string{"a", "Z", "_", "__", "a-", "a.", "a0", "a-b.c_9", "xml", "né", "a\u00b7", "a\u0300", "a\u203f\u2040", "\u200c", "日本語", "\ufffd", "a\ufffdb", "\U00010000", "\U000effff"} {
		wantName(t, s, true)
	}
	for _, s := range []string{
		"", " ", "a ", " a", "a\n", "-", ".", "0", "9a", ".a", "\u00b7a", "\u0300a", "\u203fa", ":", ":a", "a:", "a\u00d7", "a\u00f7b", "a\x00", "\x00", "\u00a0", "a\u037e",
		"\ufffe", "a\uffff", "\U000f0000", "a\U0010ffff", "a/b", "@a", "a<", "*",
	} {
		wantName(t, s, false)
	}
}

// P5.2 and Limits: a name's bytes count, however many characters they are.
func TestNamesLengths(t *testing.T) {
	for _, c := range []struct {
		s    string
		want bool
	}{
		{strings.Repeat("a", 99), true},
		{strings.Repeat("a", 100), true},
		{strings.Repeat("a", 101), false},
		{strings.Repeat("a", 1<<16), false},
		{strings.Repeat("é", 50), true},
		{strings.Repeat("é", 51), false},
		{strings.Repeat("é", 99), false},
		{strings.Repeat("é", 100), false},
		{"a" + strings.Repeat("é", 49), true},
		{"a" + strings.Repeat("é", 50), false},
		{strings.Repeat("語", 33), true},
		{strings.Repeat("語", 33) + "a", true},
		{strings.Repeat("語", 33) + "é", false},
		{strings.Repeat("語", 34), false},
		{strings.Repeat("\U00010000", 25), true},
		{strings.Repeat("\U00010000", 25) + "a", false},
		{strings.Repeat("a", 99) + " ", false},
		{strings.Repeat("a", 99) + "-", true},
	} {
		wantName(t, c.s, c.want)
	}
}

// P5.2: texts.
func TestTexts(t *testing.T) {
	for _, s := range []string{"", "a", " ", "\t\n\r ", "a b:c<>&\"'", "1", "\x7f", "\u0080", "é", "日本語", "\ud7ff", "\ue000", "\ufffd", "\xef\xbf\xbd", "\U00010000", "\U0001fffe", "\U0010ffff", strings.Repeat("é ", 1<<16)} {
		wantTexts(t, s, true)
	}
	for _, s := range []string{"\x00", "\x01", "\x08", "\x0b", "\x0c", "\x0e", "\x1f", "a\x00", "\x00a", "a\x1fb", "\ufffe", "\uffff", "a\uffffb", strings.Repeat("a", 1<<16) + "\x00"} {
		wantTexts(t, s, false)
	}
}

// P5.2: bytes that are not the shortest ones of characters make neither a name nor a text, wherever they stand.
func TestBytesThatAreNoCharacters(t *testing.T) {
	for _, s := range []string{
		"\x80", "\xbf", "\xc0", "\xc1", "\xf5", "\xfe", "\xff",
		"\xc3", "\xc3a", "\xe6\x97", "\xe6\x97a", "\xf0\x90\x80", "\xf0\x90\x80a", "\xc3\xa9\xa9",
		"\xc0\x80", "\xc1\xa1", "\xe0\x81\xa1", "\xe0\x9f\xbf", "\xf0\x80\x81\xa1", "\xf0\x8f\xbf\xbd",
		"\xed\xa0\x80", "\xed\xbf\xbf", "\xed\xa0\x80\xed\xb0\x80",
		"\xf4\x90\x80\x80", "\xf7\xbf\xbf\xbf", "\xf8\x88\x80\x80\x80",
	} {
		for _, whole := range []string{s, "a" + s, s + "a", "a" + s + "a", "é" + s, s + "\ufffd"} {
			wantName(t, whole, false)
			wantTexts(t, whole, false)
			wantBlank(t, whole, false)
			wantBlank(t, " "+whole+" ", false)
		}
	}
}

// P5.2: blanks.
func TestBlanks(t *testing.T) {
	for _, s := range []string{"", " ", "\t", "\n", "\r", " \t\r\n", "\r\n\r\n", strings.Repeat(" \t", 1<<16)} {
		wantBlank(t, s, true)
	}
	for _, s := range []string{"a", " a", "a ", " a ", "\x00", "\x08", "\x0b", "\x0c", "\x0e", "\x1f", "!", "\u0085", "\u00a0", "\u1680", "\u2000", "\u2003", "\u2028", "\u3000", "\ufeff", " \u0420", strings.Repeat(" ", 1<<16) + "."} {
		wantBlank(t, s, false)
	}
}

// P5.2: the empty text.
func TestTheEmptyText(t *testing.T) {
	wantName(t, "", false)
	wantTexts(t, "", true)
	wantBlank(t, "", true)
}

// R3: what is handed in is not changed, its spare room neither, and nothing of it is kept: a later call tells what the bytes are then.
func TestTextsAreNeitherChangedNorKept(t *testing.T) {
	room := make([]byte, 0, 64)
	for _, s := range []string{"aé-1", "a\x00é1", " \t\r\n  ", "\xffaaaaa", "", "aé-1"} {
		room = append(room[:0], s...)
		clear(room[len(s):cap(room)])
		before := slices.Clone(room[:cap(room)])
		shared := unsafe.String(unsafe.SliceData(room), len(room))
		wantName(t, shared, modelName(s))
		wantTexts(t, shared, modelTexts(s))
		wantBlank(t, shared, modelBlank(s))
		if !bytes.Equal(room[:cap(room)], before) {
			t.Errorf("%q was changed", s)
		}
	}
}

func wantCharacter(t *testing.T, r rune, what int) {
	t.Helper()
	if got := chars.Char(r); got != (what >= text) {
		t.Errorf("Char(%x) = %v", r, got)
	}
	if got := chars.NameChar(r); got != (what >= name) {
		t.Errorf("NameChar(%x) = %v", r, got)
	}
	if got := chars.NameStart(r); got != (what >= start) {
		t.Errorf("NameStart(%x) = %v", r, got)
	}
}

func wantName(t *testing.T, s string, want bool) {
	t.Helper()
	if got := chars.Name(s); got != want {
		t.Errorf("Name(%.200q) = %v", s, got)
	}
}

func wantTexts(t *testing.T, s string, want bool) {
	t.Helper()
	if got := chars.Texts(s); got != want {
		t.Errorf("Texts(%.200q) = %v", s, got)
	}
}

func wantBlank(t *testing.T, s string, want bool) {
	t.Helper()
	if got := chars.Blank(s); got != want {
		t.Errorf("Blank(%.200q) = %v", s, got)
	}
}
