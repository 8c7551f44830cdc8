package chars_test

import (
	"math/rand"
	"strconv"
	"strings"
	"testing"

	"parchment/api"
	"parchment/chars"
)

// The rows of the chapter's table, as it writes them; letters, digits and signs as their numbers.
const (
	tableTexts  = "9, A, D, 20 to D7FF, E000 to FFFD, 10000 to 10FFFF"
	tableStarts = "61 to 7A, 41 to 5A, 5F, C0 to D6, D8 to F6, F8 to 2FF, 370 to 37D, 37F to 1FFF, 200C, 200D, 2070 to 218F, 2C00 to 2FEF, 3001 to D7FF, F900 to FDCF, FDF0 to FFFD, 10000 to EFFFF"
	tableNames  = tableStarts + ", 2D, 2E, 30 to 39, B7, 300 to 36F, 203F, 2040"
	tableBlanks = "9, A, D, 20"
)

// set is a row of the table as a list by characters.
func set(table string) []bool {
	out := make([]bool, 0x110000)
	for part := range strings.SplitSeq(table, ", ") {
		first, last, more := strings.Cut(part, " to ")
		if !more {
			last = first
		}
		from, err := strconv.ParseUint(first, 16, 32)
		if err != nil {
			panic(err)
		}
		to, err := strconv.ParseUint(last, 16, 32)
		if err != nil {
			panic(err)
		}
		for r := from; r <= to; r++ {
			out[r] = true
		}
	}
	return out
}

var texts, starts, names, blanks = set(tableTexts), set(tableStarts), set(tableNames), set(tableBlanks)

// shortest is a character's bytes of UTF-8, worked out by its bits.
func shortest(r rune) string {
	behind := func(r rune) byte { return byte(0x80 + r%64) }
	switch {
	case r < 1<<7:
		return string([]byte{byte(r)})
	case r < 1<<11:
		return string([]byte{byte(0xC0 + r>>6), behind(r)})
	case r < 1<<16:
		return string([]byte{byte(0xE0 + r>>12), behind(r >> 6), behind(r)})
	}
	return string([]byte{byte(0xF0 + r>>18), behind(r >> 12), behind(r >> 6), behind(r)})
}

// byBytes is every character by its shortest bytes.
var byBytes = func() map[string]rune {
	out := make(map[string]rune, 0x110000)
	for r := rune(0); r < 0x110000; r++ {
		if r < 0xD800 || r > 0xDFFF {
			out[shortest(r)] = r
		}
	}
	return out
}()

// modelCharacters cuts a text into the shortest bytes of characters; no character's bytes begin another one's, so that there is one way at most.
func modelCharacters(s string) ([]rune, bool) {
	var out []rune
cut:
	for s != "" {
		for n := 1; n <= 4 && n <= len(s); n++ {
			if r, ok := byBytes[s[:n]]; ok {
				out, s = append(out, r), s[n:]
				continue cut
			}
		}
		return nil, false
	}
	return out, true
}

func modelOf(s string, of []bool) bool {
	rs, right := modelCharacters(s)
	for _, r := range rs {
		right = right && of[r]
	}
	return right
}

func modelTexts(s string) bool { return modelOf(s, texts) }

func modelBlank(s string) bool { return modelOf(s, blanks) }

func modelName(s string) bool {
	rs, right := modelCharacters(s)
	return right && len(s) >= 1 && len(s) <= api.MaxName && starts[rs[0]] && modelOf(s, names)
}

func wantAsModel(t *testing.T, s string) {
	t.Helper()
	wantName(t, s, modelName(s))
	wantTexts(t, s, modelTexts(s))
	wantBlank(t, s, modelBlank(s))
}

// P5.1: all characters, and numbers on both sides of them.
func TestEachCharacter(t *testing.T) {
	for r := rune(-1 << 21); r < 1<<22; r++ {
		in := r >= 0 && r < 0x110000
		if got := chars.Char(r); got != (in && texts[r]) {
			t.Fatalf("Char(%x) = %v", r, got)
		}
		if got := chars.NameStart(r); got != (in && starts[r]) {
			t.Fatalf("NameStart(%x) = %v", r, got)
		}
		if got := chars.NameChar(r); got != (in && names[r]) {
			t.Fatalf("NameChar(%x) = %v", r, got)
		}
	}
	random := rand.New(rand.NewSource(5))
	for range 1 << 20 {
		if r := rune(random.Uint32()); r < 0 || r > 0x10FFFF {
			wantCharacter(t, r, none)
		}
	}
}

// P5.2: each character as a text of its own, and behind a name.
func TestEachCharacterInATextAndAName(t *testing.T) {
	for r := rune(0); r < 0x110000; r++ {
		s := shortest(r)
		right := r < 0xD800 || r > 0xDFFF
		if got := chars.Texts(s); got != (right && texts[r]) {
			t.Fatalf("Texts of %x = %v", r, got)
		}
		if got := chars.Name(s); got != (right && starts[r]) {
			t.Fatalf("Name of %x = %v", r, got)
		}
		if got := chars.Name("a" + s); got != (right && names[r]) {
			t.Fatalf("Name of a and %x = %v", r, got)
		}
		if got := chars.Blank(s); got != blanks[r] {
			t.Fatalf("Blank of %x = %v", r, got)
		}
	}
}

// P5.2: all texts of at most two bytes, and of at most four that UTF-8 tells apart.
func TestShortTexts(t *testing.T) {
	wantAsModel(t, "")
	for a := range 256 {
		wantAsModel(t, string([]byte{byte(a)}))
		for b := range 256 {
			wantAsModel(t, string([]byte{byte(a), byte(b)}))
		}
	}
	telling := []byte{0, ' ', '-', '1', 'a', 0x7F, 0x80, 0x8F, 0x90, 0x9F, 0xA0, 0xBD, 0xBE, 0xBF, 0xC0, 0xC1, 0xC2, 0xC3, 0xDF, 0xE0, 0xE1, 0xED, 0xEF, 0xF0, 0xF1, 0xF3, 0xF4, 0xF5, 0xFF}
	for _, a := range telling {
		for _, b := range telling {
			for _, c := range telling {
				wantAsModel(t, string([]byte{a, b, c}))
				for _, d := range telling {
					wantAsModel(t, string([]byte{a, b, c, d}))
				}
			}
		}
	}
}

// someText is characters of all kinds, and now and then bytes that are none.
func someText(random *rand.Rand, most int) string {
	pieces := []string{"a", "Z", "_", "-", ".", "7", "é", "\u00b7", "\u0300", "\u203f", "語", "\ufffd", "\U00010000", "a", "b", "c", "x", "é"}
	others := []string{" ", "\t", "\n", "\r", ":", "\u00d7", "\U0010ffff", "\x00", "\ufffe", "\xff", "\xc3", "\xed\xa0\x80"}
	var b strings.Builder
	odd := random.Intn(3) == 0
	for n := random.Intn(most + 1); b.Len() < n; {
		if odd && random.Intn(20) == 0 {
			b.WriteString(others[random.Intn(len(others))])
		} else {
			b.WriteString(pieces[random.Intn(len(pieces))])
		}
	}
	return b.String()
}

func TestManyTexts(t *testing.T) {
	random := rand.New(rand.NewSource(52))
	for range 50000 {
		wantAsModel(t, someText(random, 120))
	}
}

// P5.3: what begins names is of names, what is of names is of texts.
func TestNamesLieWithinTexts(t *testing.T) {
	for r := rune(-10); r <= 0x110000; r++ {
		if chars.NameStart(r) && !chars.NameChar(r) || chars.NameChar(r) && !chars.Char(r) {
			t.Fatalf("%x: %v, %v, %v", r, chars.NameStart(r), chars.NameChar(r), chars.Char(r))
		}
	}
}

// P5.3: two texts that are right, put together.
func TestTextsPutTogether(t *testing.T) {
	random := rand.New(rand.NewSource(53))
	for range 20000 {
		a, b := someText(random, 40), someText(random, 40)
		_, first := modelCharacters(a)
		_, second := modelCharacters(b)
		if both := chars.Texts(a) && chars.Texts(b); first && second && chars.Texts(a+b) != both {
			t.Fatalf("Texts(%q and %q) = %v", a, b, !both)
		}
	}
	// Two that are not right may be halves of a character: put together they are.
	wantTexts(t, "\xc3", false)
	wantTexts(t, "\xa9", false)
	wantTexts(t, "\xc3"+"\xa9", true)
}

// P5.3: a name and more characters of names, as long as there is room.
func TestNamesGrow(t *testing.T) {
	random := rand.New(rand.NewSource(54))
	for range 20000 {
		a, b := someText(random, 60), someText(random, 60)
		if !chars.Name(a) || !modelOf(b, names) {
			continue
		}
		wantName(t, a+b, len(a)+len(b) <= api.MaxName)
	}
}
