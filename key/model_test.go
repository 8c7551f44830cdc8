package key_test

import (
	"bytes"
	"cmp"
	"math/big"
	"math/rand"
	"regexp"
	"slices"
	"testing"

	"parchment/key"
)

// modelPutInt writes n + 2^63 as the chapter's words say it.
func modelPutInt(n int64) []byte {
	above := new(big.Int).Add(big.NewInt(n), new(big.Int).Lsh(big.NewInt(1), 63))
	return above.FillBytes(make([]byte, 8))
}

func modelPutBytes(row []byte) []byte {
	return append(bytes.ReplaceAll(row, []byte{0}, []byte{0, 255}), 0, 0)
}

// modelGetBytes tries each beginning of b: it is a row's if a row can be read back out of it that has it as its bytes.
func modelGetBytes(b []byte) ([]byte, int, bool) {
	for n := 2; n <= len(b); n++ {
		row := bytes.ReplaceAll(b[:n-2], []byte{0, 255}, []byte{0})
		if bytes.Equal(modelPutBytes(row), b[:n]) {
			return row, n, true
		}
	}
	return nil, 0, false
}

func modelWhole(s string) (int64, bool) {
	if !regexp.MustCompile(`\A(0|-?[1-9][0-9]*)\z`).MatchString(s) {
		return 0, false
	}
	n, ok := new(big.Int).SetString(s, 10)
	if !ok || !n.IsInt64() {
		return 0, false
	}
	return n.Int64(), true
}

// allOf is every row of at most n of some bytes.
func allOf(n int, of ...byte) [][]byte {
	out := [][]byte{nil}
	for i := 0; i < len(out); i++ {
		if len(out[i]) == n {
			break
		}
		for _, c := range of {
			out = append(out, append(slices.Clone(out[i]), c))
		}
	}
	return out
}

// someInts is numbers about each power of two and of ten, and others.
func someInts() []int64 {
	var out []int64
	for i := range 64 {
		for near := int64(-3); near <= 3; near++ {
			out = append(out, 1<<i+near, -1<<i+near)
		}
	}
	for ten, i := int64(1), 0; i < 19; ten, i = 10*ten, i+1 {
		out = append(out, ten, ten-1, ten+1, -ten, -ten-1, -ten+1)
	}
	r := rand.New(rand.NewSource(4))
	for range 2000 {
		out = append(out, int64(r.Uint64())>>r.Intn(64))
	}
	return out
}

// P4.1, P4.4: numbers' bytes are the chapter's, and stand as the numbers do.
func TestManyInts(t *testing.T) {
	all := someInts()
	for i, n := range all {
		b := key.PutInt(n)
		wantBytes(t, "PutInt", b, modelPutInt(n))
		if m, k, ok := key.GetInt(append(b, byte(i), byte(i>>8))); m != n || k != 8 || !ok {
			t.Fatalf("%d was put, %d is got (%d, %v)", n, m, k, ok)
		}
		for _, m := range all[i%7*50:][:100] {
			if got := bytes.Compare(key.PutInt(n), key.PutInt(m)); got != cmp.Compare(n, m) {
				t.Fatalf("%d and %d stand as %d", n, m, got)
			}
		}
	}
}

// P4.1: eight bytes are always a number's, and just that one's.
func TestEightBytesAreANumbers(t *testing.T) {
	r := rand.New(rand.NewSource(5))
	b := make([]byte, 8)
	for range 5000 {
		r.Read(b)
		n, k, ok := key.GetInt(b)
		if k != 8 || !ok || !bytes.Equal(modelPutInt(n), b) {
			t.Fatalf("GetInt(% x) = %d, %d, %v", b, n, k, ok)
		}
	}
}

// P4.2: all short rows of bytes that mean something, put and got.
func TestAllShortRows(t *testing.T) {
	for _, b := range allOf(7, 0, 1, 254, 255) {
		wantBytes(t, "PutBytes", key.PutBytes(b), modelPutBytes(b))
		row, k, ok := key.GetBytes(b)
		want, wantK, wantOk := modelGetBytes(b)
		if !bytes.Equal(row, want) || k != wantK || ok != wantOk {
			t.Fatalf("GetBytes(% x) = % x, %d, %v; want % x, %d, %v", b, row, k, ok, want, wantK, wantOk)
		}
	}
}

// P4.4: rows stand as their bytes do, and no row's bytes begin another's, whatever stands behind these.
func TestAllShortRowsStandInOrder(t *testing.T) {
	all := allOf(4, 0, 1, 254, 255)
	behind := [][]byte{nil, {0}, {255, 255}}
	for i, a := range all {
		for j, b := range all {
			want := bytes.Compare(a, b)
			putA, putB := key.PutBytes(a), key.PutBytes(b)
			if i != j && bytes.HasPrefix(putA, putB) {
				t.Fatalf("% x's bytes begin with % x's", a, b)
			}
			for n := range 9 {
				x, y := slices.Concat(putA, behind[n/3]), slices.Concat(putB, behind[n%3])
				if got := bytes.Compare(x, y); want != 0 && got != want {
					t.Fatalf("% x and % x stand as %d; want %d", x, y, got, want)
				}
			}
		}
	}
}

// P4.2, P4.4: longer rows, cut and behind one another.
func TestManyRows(t *testing.T) {
	r := rand.New(rand.NewSource(6))
	some := func() []byte {
		row := make([]byte, r.Intn(60))
		for i := range row {
			row[i] = []byte{0, 0, 255, 1, byte(r.Intn(256))}[r.Intn(5)]
		}
		return row
	}
	for range 5000 {
		a, b := some(), some()
		all := slices.Concat(key.PutBytes(a), key.PutBytes(b))
		row, k, ok := key.GetBytes(all)
		next, m, okToo := key.GetBytes(all[min(k, len(all)):])
		if !ok || !okToo || !bytes.Equal(row, a) || !bytes.Equal(next, b) || k+m != len(all) {
			t.Fatalf("% x and % x were put; got % x, % x", a, b, row, next)
		}
		wantNoRow(t, all[:r.Intn(k)])
		if want := bytes.Compare(a, b); want != bytes.Compare(key.PutBytes(a), key.PutBytes(b)) {
			t.Fatalf("% x and % x stand as %d; their bytes don't", a, b, want)
		}
	}
}

// P4.3: all short texts of signs, digits and what some take for digits.
func TestAllShortTexts(t *testing.T) {
	for _, s := range allOf(5, []byte("-+019_ x")...) {
		n, ok := key.Whole(string(s))
		if want, wantOk := modelWhole(string(s)); n != want || ok != wantOk {
			t.Fatalf("Whole(%q) = %d, %v; want %d, %v", s, n, ok, want, wantOk)
		}
	}
}

// P4.3: numbers about the bounds, and what is written a little otherwise.
func TestManyTexts(t *testing.T) {
	for _, n := range someInts() {
		said := big.NewInt(n).String()
		for _, s := range []string{said, "+" + said, "-" + said, "0" + said, said + "0", said + " ", "1" + said, said[1:]} {
			got, ok := key.Whole(s)
			if want, wantOk := modelWhole(s); got != want || ok != wantOk {
				t.Fatalf("Whole(%q) = %d, %v; want %d, %v", s, got, ok, want, wantOk)
			}
		}
	}
	bound := new(big.Int).Lsh(big.NewInt(1), 63)
	for near := int64(-1000); near <= 1000; near++ {
		up := new(big.Int).Add(bound, big.NewInt(near))
		for _, s := range []string{up.String(), "-" + up.String()} {
			got, ok := key.Whole(s)
			if want, wantOk := modelWhole(s); got != want || ok != wantOk {
				t.Fatalf("Whole(%q) = %d, %v; want %d, %v", s, got, ok, want, wantOk)
			}
		}
	}
}
