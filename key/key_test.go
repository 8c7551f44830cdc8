package key_test

import (
	"bytes"
	"math"
	"slices"
	"strings"
	"testing"

	"parchment/key"
)

// The chapter's examples.
func TestExamples(t *testing.T) {
	wantBytes(t, "PutInt(0)", key.PutInt(0), []byte{0x80, 0, 0, 0, 0, 0, 0, 0})
	wantBytes(t, "PutInt(-1)", key.PutInt(-1), []byte{0x7f, 0xff, 0xff, 0xff, 0xff, 0xff, 0xff, 0xff})
	wantNoInt(t, make([]byte, 7))
	wantBytes(t, "PutBytes(1 0 2)", key.PutBytes([]byte{1, 0, 2}), []byte{1, 0, 0xff, 2, 0, 0})
	wantBytes(t, "PutBytes()", key.PutBytes(nil), []byte{0, 0})
	wantRow(t, []byte{0, 0, 7}, nil, 2)
	wantNoRow(t, []byte{1, 0, 5})
	wantNoRow(t, []byte{1})
	for _, s := range []string{"-0", "01", "", "+1", "9223372036854775808"} {
		wantNoNumber(t, s)
	}
	wantNumber(t, "-9223372036854775808", math.MinInt64)
}

// numbers and their bytes, in order.
func numbers() []struct {
	n int64
	b []byte
} {
	return []struct {
		n int64
		b []byte
	}{
		{math.MinInt64, []byte{0, 0, 0, 0, 0, 0, 0, 0}},
		{math.MinInt64 + 1, []byte{0, 0, 0, 0, 0, 0, 0, 1}},
		{math.MinInt64 + 255, []byte{0, 0, 0, 0, 0, 0, 0, 255}},
		{math.MinInt64 + 256, []byte{0, 0, 0, 0, 0, 0, 1, 0}},
		{math.MinInt64 + 0x0123456789abcdef, []byte{0x01, 0x23, 0x45, 0x67, 0x89, 0xab, 0xcd, 0xef}},
		{-1 << 32, []byte{127, 255, 255, 255, 0, 0, 0, 0}},
		{-257, []byte{127, 255, 255, 255, 255, 255, 254, 255}},
		{-256, []byte{127, 255, 255, 255, 255, 255, 255, 0}},
		{-2, []byte{127, 255, 255, 255, 255, 255, 255, 254}},
		{-1, []byte{127, 255, 255, 255, 255, 255, 255, 255}},
		{0, []byte{128, 0, 0, 0, 0, 0, 0, 0}},
		{1, []byte{128, 0, 0, 0, 0, 0, 0, 1}},
		{255, []byte{128, 0, 0, 0, 0, 0, 0, 255}},
		{256, []byte{128, 0, 0, 0, 0, 0, 1, 0}},
		{0x0123456789abcdef, []byte{0x81, 0x23, 0x45, 0x67, 0x89, 0xab, 0xcd, 0xef}},
		{math.MaxInt64 - 1, []byte{255, 255, 255, 255, 255, 255, 255, 254}},
		{math.MaxInt64, []byte{255, 255, 255, 255, 255, 255, 255, 255}},
	}
}

// P4.1: numbers as bytes, and back.
func TestInts(t *testing.T) {
	for _, c := range numbers() {
		wantBytes(t, "PutInt", key.PutInt(c.n), c.b)
		for _, behind := range [][]byte{nil, {0}, {255}, make([]byte, 8), bytes.Repeat([]byte{0xa5}, 1<<16)} {
			if n, k, ok := key.GetInt(slices.Concat(c.b, behind)); n != c.n || k != 8 || !ok {
				t.Errorf("GetInt(%v and %d more) = %d, %d, %v; want %d", c.b, len(behind), n, k, ok, c.n)
			}
		}
	}
}

func TestTooFewBytesForAnInt(t *testing.T) {
	for _, c := range numbers() {
		for n := range 8 {
			wantNoInt(t, c.b[:n])
			wantNoInt(t, slices.Clone(c.b[:n]))
		}
	}
	wantNoInt(t, nil)
}

// rows and their bytes, in order.
func rows() []struct{ row, b []byte } {
	return []struct{ row, b []byte }{
		{nil, []byte{0, 0}},
		{[]byte{0}, []byte{0, 255, 0, 0}},
		{[]byte{0, 0}, []byte{0, 255, 0, 255, 0, 0}},
		{[]byte{0, 0, 0}, []byte{0, 255, 0, 255, 0, 255, 0, 0}},
		{[]byte{0, 1}, []byte{0, 255, 1, 0, 0}},
		{[]byte{0, 255}, []byte{0, 255, 255, 0, 0}},
		{[]byte{0, 255, 0}, []byte{0, 255, 255, 0, 255, 0, 0}},
		{[]byte{1}, []byte{1, 0, 0}},
		{[]byte{1, 0}, []byte{1, 0, 255, 0, 0}},
		{[]byte{1, 0, 2}, []byte{1, 0, 255, 2, 0, 0}},
		{[]byte{1, 1}, []byte{1, 1, 0, 0}},
		{[]byte("abc"), []byte{'a', 'b', 'c', 0, 0}},
		{[]byte("b"), []byte{'b', 0, 0}},
		{[]byte{254}, []byte{254, 0, 0}},
		{[]byte{255}, []byte{255, 0, 0}},
		{[]byte{255, 0}, []byte{255, 0, 255, 0, 0}},
		{[]byte{255, 255}, []byte{255, 255, 0, 0}},
	}
}

// P4.2: rows as bytes, and back.
func TestRows(t *testing.T) {
	for _, c := range rows() {
		wantBytes(t, "PutBytes", key.PutBytes(c.row), c.b)
		for _, behind := range [][]byte{nil, {0}, {0, 0}, {1}, {255}, {255, 0, 0}, bytes.Repeat([]byte{0}, 1<<16)} {
			wantRow(t, slices.Concat(c.b, behind), c.row, len(c.b))
		}
	}
	// An empty list and none are the same.
	wantBytes(t, "PutBytes", key.PutBytes([]byte{}), []byte{0, 0})
}

func TestEachByteInARow(t *testing.T) {
	for c := range 256 {
		want := []byte{byte(c), 0, 0}
		if c == 0 {
			want = []byte{0, 255, 0, 0}
		}
		wantBytes(t, "PutBytes", key.PutBytes([]byte{byte(c)}), want)
		wantRow(t, want, []byte{byte(c)}, len(want))
	}
}

func TestLongRows(t *testing.T) {
	const long = 1 << 20
	wantBytes(t, "PutBytes", key.PutBytes(make([]byte, long)), append(bytes.Repeat([]byte{0, 255}, long), 0, 0))
	wantRow(t, append(bytes.Repeat([]byte{0, 255}, long), 0, 0), make([]byte, long), 2*long+2)
	wantBytes(t, "PutBytes", key.PutBytes(bytes.Repeat([]byte{255}, long)), append(bytes.Repeat([]byte{255}, long), 0, 0))
	wantRow(t, append(bytes.Repeat([]byte{255}, long), 0, 0), bytes.Repeat([]byte{255}, long), long+2)
	wantNoRow(t, bytes.Repeat([]byte{0, 255}, long))
	wantNoRow(t, bytes.Repeat([]byte{255}, long))
}

func TestNoRow(t *testing.T) {
	for _, b := range [][]byte{
		nil, {}, {1}, {255}, {1, 2, 3}, {0, 255}, {1, 0, 255}, {0, 255, 1}, // no end
		{0}, {1, 0}, {0, 255, 0}, {255, 0}, // a 0 that is followed by nothing
		{0, 1}, {0, 254}, {0, 1, 0, 0}, {1, 0, 5, 0, 0}, {0, 255, 0, 254, 0, 0}, {255, 0, 127, 0, 0}, // a 0 that is followed by another byte
	} {
		wantNoRow(t, b)
	}
	for c := 1; c < 255; c++ {
		wantNoRow(t, []byte{7, 0, byte(c), 0, 0})
	}
	for _, c := range rows() {
		for n := range c.b {
			wantNoRow(t, c.b[:n])
		}
	}
}

// P4.3: numbers in texts.
func TestWhole(t *testing.T) {
	for s, want := range map[string]int64{
		"0": 0, "1": 1, "9": 9, "10": 10, "100": 100, "1234567890": 1234567890, "-1": -1, "-9": -9, "-10": -10, "-1234567890": -1234567890,
		"2147483648": 1 << 31, "4294967296": 1 << 32, "-4294967297": -1<<32 - 1,
		"999999999999999999": 999999999999999999, "1000000000000000000": 1000000000000000000, "-1000000000000000000": -1000000000000000000,
		"9223372036854775799": math.MaxInt64 - 8, "9223372036854775806": math.MaxInt64 - 1, "9223372036854775807": math.MaxInt64,
		"-9223372036854775807": math.MinInt64 + 1, "-9223372036854775808": math.MinInt64,
	} {
		wantNumber(t, s, want)
	}
}

func TestNoNumber(t *testing.T) {
	for _, s := range []string{
		"", "-", "+", "--", // no digit
		"00", "01", "007", "-01", "-00", "00000000000000000001", // noughts ahead
		"-0", "+0", "+1", "+9223372036854775807", "--1", "-+1", "+-1", "1-", "1+", "1-1",
		"9223372036854775808", "9223372036854775810", "9300000000000000000", "9999999999999999999", // 19 digits that go beyond
		"-9223372036854775809", "-9223372036854775810", "-9999999999999999999",
		"10000000000000000000", "18446744073709551615", "18446744073709551616", "18446744073709551617", "99999999999999999999", "-10000000000000000000", "-18446744073709551616", // 20
		" ", " 1", "1 ", "1\n", "\t1", "1 2", "1\x00", "\x00", "a", "1a", "a1", "0x1", "0b1", "0o7", "1_0", "1_000", "_1", "1.0", "1.", ".5", "1e3", "1,000", "NaN", "Inf",
		"١", "１", "−1", "1\xff", "\xff", "½", "²",
		"/", ":", "1/", "1:", "-/", "-:", // the bytes beside the digits
	} {
		wantNoNumber(t, s)
	}
	wantNoNumber(t, strings.Repeat("9", 1<<20))
	wantNoNumber(t, "-"+strings.Repeat("1", 1<<20))
	wantNoNumber(t, strings.Repeat("0", 1<<20)+"1")
	wantNoNumber(t, strings.Repeat("-", 1<<20)+"1")
}

// P4.4: bytes stand as what they were made of does, whatever stands behind them.
func TestOrderOfInts(t *testing.T) {
	all := numbers()
	for i, a := range all {
		for j, b := range all {
			if got := bytes.Compare(key.PutInt(a.n), key.PutInt(b.n)); got != sign(i-j) {
				t.Errorf("%d and %d stand as %d", a.n, b.n, got)
			}
		}
	}
}

func TestOrderOfRows(t *testing.T) {
	all := rows()
	for i, a := range all {
		for j, b := range all {
			if got := bytes.Compare(key.PutBytes(a.row), key.PutBytes(b.row)); got != sign(i-j) {
				t.Errorf("%v and %v stand as %d", a.row, b.row, got)
			}
			if i != j && bytes.HasPrefix(key.PutBytes(a.row), key.PutBytes(b.row)) {
				t.Errorf("%v's bytes begin with %v's", a.row, b.row)
			}
		}
	}
}

// What is put one behind the other is got so.
func TestPutBehindOneAnother(t *testing.T) {
	var b []byte
	for i, c := range rows() {
		b = append(b, key.PutBytes(c.row)...)
		b = append(b, key.PutInt(int64(i)-8)...)
	}
	for i, c := range rows() {
		row, k, ok := key.GetBytes(b)
		if !bytes.Equal(row, c.row) || !ok {
			t.Fatalf("row %d: %v, %v; want %v", i, row, ok, c.row)
		}
		n, m, ok := key.GetInt(b[k:])
		if n != int64(i)-8 || !ok {
			t.Fatalf("number %d: %d, %v", i, n, ok)
		}
		b = b[k+m:]
	}
	if len(b) != 0 {
		t.Errorf("%v is left", b)
	}
}

// R3: arguments stay as they are, their spare room too, and answers share no memory with them, nor with one another.
func TestArgumentsStay(t *testing.T) {
	for _, row := range [][]byte{{}, {0}, {1, 0, 2}, {5, 6, 7}, {1, 2, 0, 0}, {0, 255, 0, 0}, {1, 0, 5}, bytes.Repeat([]byte{3}, 100), make([]byte, 8), bytes.Repeat([]byte{255}, 9)} {
		room := slices.Concat(row, bytes.Repeat([]byte{0xa5}, 300))
		before := bytes.Clone(room)
		arg := room[:len(row)]
		put := key.PutBytes(arg)
		got, _, _ := key.GetBytes(arg)
		key.GetInt(arg)
		if !bytes.Equal(room, before) {
			t.Errorf("%v: the argument has changed", row)
		}
		scribble(put)
		scribble(got)
		if !bytes.Equal(room, before) {
			t.Errorf("%v: an answer shares the argument's memory", row)
		}
		wantBytes(t, "PutBytes once more", key.PutBytes(arg), modelPutBytes(row))
	}
}

func TestAnswersAreNew(t *testing.T) {
	calls := []func() []byte{
		func() []byte { return key.PutInt(0) },
		func() []byte { return key.PutInt(-1) },
		func() []byte { return key.PutBytes(nil) },
		func() []byte { return key.PutBytes([]byte{1, 0, 2}) },
		func() []byte { row, _, _ := key.GetBytes([]byte{0, 0}); return row },
		func() []byte { row, _, _ := key.GetBytes([]byte{4, 5, 0, 255, 6, 0, 0}); return row },
	}
	for i, call := range calls {
		first := call()
		want := bytes.Clone(first)
		for j, other := range calls {
			scribble(other())
			if !bytes.Equal(first, want) {
				t.Errorf("answers %d and %d share memory", i, j)
			}
		}
		scribble(first)
		wantBytes(t, "the same call", call(), want)
	}
}

// R4: an answer hangs on the bytes alone, not on their spare room.
func TestSpareRoomIsNotRead(t *testing.T) {
	ended := []byte{1, 0, 0, 9}
	wantNoRow(t, ended[:1])
	wantNoRow(t, ended[:2])
	wantRow(t, ended[:3], []byte{1}, 3)
	wantNoInt(t, make([]byte, 7, 64))
}

// scribble writes over bytes and their spare room.
func scribble(b []byte) {
	b = b[:cap(b)]
	for i := range b {
		b[i] ^= 0x5a
	}
}

func sign(n int) int {
	switch {
	case n < 0:
		return -1
	case n > 0:
		return 1
	}
	return 0
}

func wantBytes(t *testing.T, what string, got, want []byte) {
	t.Helper()
	if !bytes.Equal(got, want) {
		t.Errorf("%s: % x; want % x", what, got[:min(len(got), 20)], want[:min(len(want), 20)])
	}
}

func wantRow(t *testing.T, b, want []byte, size int) {
	t.Helper()
	if row, k, ok := key.GetBytes(b); !bytes.Equal(row, want) || k != size || !ok {
		t.Errorf("GetBytes(% x) = % x, %d, %v; want % x, %d", b[:min(len(b), 20)], row[:min(len(row), 20)], k, ok, want[:min(len(want), 20)], size)
	}
}

func wantNoRow(t *testing.T, b []byte) {
	t.Helper()
	if row, k, ok := key.GetBytes(b); len(row) != 0 || k != 0 || ok {
		t.Errorf("GetBytes(% x) = % x, %d, %v; want none", b[:min(len(b), 20)], row[:min(len(row), 20)], k, ok)
	}
}

func wantNoInt(t *testing.T, b []byte) {
	t.Helper()
	if n, k, ok := key.GetInt(b); n != 0 || k != 0 || ok {
		t.Errorf("GetInt(% x) = %d, %d, %v; want none", b, n, k, ok)
	}
}

func wantNumber(t *testing.T, s string, want int64) {
	t.Helper()
	if n, ok := key.Whole(s); n != want || !ok {
		t.Errorf("Whole(%q) = %d, %v; want %d", s, n, ok, want)
	}
}

func wantNoNumber(t *testing.T, s string) {
	t.Helper()
	if n, ok := key.Whole(s); n != 0 || ok {
		t.Errorf("Whole(%q) = %d, %v; want none", s[:min(len(s), 40)], n, ok)
	}
}
