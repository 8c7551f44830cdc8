package log_test

import (
	"bytes"
	"encoding/binary"
	"hash/crc32"
	"math"
	"math/rand"
	"reflect"
	"slices"
	"testing"

	"parchment/api"
	"parchment/log"
)

// written is a record's bytes, as the chapter's words have them, whether it is right or not.
func written(r api.Record) []byte {
	body := []byte{byte(r.Kind)}
	body = binary.BigEndian.AppendUint64(body, uint64(r.Tx))
	body = binary.BigEndian.AppendUint64(body, uint64(r.Prev))
	if r.Kind == api.RecUndo {
		body = binary.BigEndian.AppendUint64(body, uint64(r.Next))
	}
	if r.Kind == api.RecChange || r.Kind == api.RecUndo {
		body = binary.BigEndian.AppendUint32(body, uint32(r.Span.Block))
		body = binary.BigEndian.AppendUint16(body, uint16(r.Span.Off))
		body = binary.BigEndian.AppendUint16(body, uint16(len(r.Span.New)))
		body = append(body, r.Span.Old...)
		body = append(body, r.Span.New...)
	}
	return summed(uint64(r.Lsn), uint32(r.Turn), body)
}

// summed is a head whose sum is right, and a body.
func summed(lsn uint64, turn uint32, body []byte) []byte {
	out := binary.BigEndian.AppendUint64(nil, lsn)
	out = binary.BigEndian.AppendUint32(out, turn)
	out = binary.BigEndian.AppendUint16(out, uint16(len(body)))
	sum := crc32.ChecksumIEEE(slices.Concat(out, body))
	return append(binary.BigEndian.AppendUint32(out, sum), body...)
}

// some are so many bytes, noughts among them.
func some(n int) []byte {
	b := make([]byte, n)
	for i := range b {
		b[i] = byte(i * 37 % 251)
	}
	return b
}

func change(lsn, turn int64, off, n int) api.Record {
	return api.Record{Lsn: lsn, Turn: turn, Kind: api.RecChange, Tx: 3, Prev: 4, Span: api.Span{Block: 5, Off: off, Old: some(n), New: bytes.Repeat([]byte{7}, n)}}
}

func undo(lsn, turn int64, off, n int) api.Record {
	return api.Record{Lsn: lsn, Turn: turn, Kind: api.RecUndo, Tx: 3, Prev: 4, Next: 5, Span: api.Span{Block: 5, Off: off, New: some(n)}}
}

func commit(lsn, turn int64) api.Record {
	return api.Record{Lsn: lsn, Turn: turn, Kind: api.RecCommit, Tx: 3, Prev: 4}
}

func abort(lsn, turn int64) api.Record {
	return api.Record{Lsn: lsn, Turn: turn, Kind: api.RecAbort, Tx: 3, Prev: 4}
}

// plain is a record whose empty rows are none, so that two can be compared.
func plain(r api.Record) api.Record {
	if len(r.Span.Old) == 0 {
		r.Span.Old = nil
	}
	if len(r.Span.New) == 0 {
		r.Span.New = nil
	}
	return r
}

func sameRecord(a, b api.Record) bool {
	return reflect.DeepEqual(plain(a), plain(b))
}

func wantPut(t *testing.T, r api.Record) {
	t.Helper()
	b, e := log.Put(r)
	if e != api.OK || !bytes.Equal(b, written(r)) {
		t.Errorf("Put(%+v) = %v, %d; want %v", r, b, e, written(r))
	}
	for _, behind := range [][]byte{nil, {0}, some(40), written(commit(9, 9))} {
		wantGet(t, slices.Concat(written(r), behind), r, len(written(r)))
	}
}

func wantGet(t *testing.T, b []byte, r api.Record, n int) {
	t.Helper()
	got, size, e := log.Get(b)
	if e != api.OK || size != n || !sameRecord(got, r) {
		t.Errorf("Get(%v) = %+v, %d, %d; want %+v, %d", b, got, size, e, r, n)
	}
}

func wantNoPut(t *testing.T, r api.Record) {
	t.Helper()
	if b, e := log.Put(r); e != api.ErrShape || len(b) > 0 {
		t.Errorf("Put(%+v) = %v, %d", r, b, e)
	}
}

func wantNoGet(t *testing.T, b []byte) {
	t.Helper()
	if r, n, e := log.Get(b); e != api.ErrShape || n != 0 || !sameRecord(r, api.Record{}) {
		t.Errorf("Get(%v) = %+v, %d, %d", b, r, n, e)
	}
}

// P10.1.

// What is written out here does not hang on how this file writes records; the sums are those of an outside CRC-32.
func TestBytesOfEachKind(t *testing.T) {
	for _, c := range []struct {
		r    api.Record
		want []byte
	}{
		{
			api.Record{Lsn: 1, Turn: 1, Kind: api.RecCommit, Tx: 1},
			[]byte{0, 0, 0, 0, 0, 0, 0, 1, 0, 0, 0, 1, 0, 17, 0, 0, 0, 0, 3, 0, 0, 0, 0, 0, 0, 0, 1, 0, 0, 0, 0, 0, 0, 0, 0},
		},
		{
			api.Record{Lsn: 0x0102030405060708, Turn: 0x090a0b0c, Kind: api.RecAbort, Tx: 0x1112131415161718, Prev: 0x2122232425262728},
			[]byte{1, 2, 3, 4, 5, 6, 7, 8, 9, 10, 11, 12, 0, 17, 0, 0, 0, 0, 4, 17, 18, 19, 20, 21, 22, 23, 24, 33, 34, 35, 36, 37, 38, 39, 40},
		},
		{
			api.Record{Lsn: 258, Turn: 3, Kind: api.RecChange, Tx: 4, Prev: 5, Span: api.Span{Block: 0x1234, Off: 0x0156, Old: []byte{7, 8, 0}, New: []byte{0, 10, 11}}},
			[]byte{0, 0, 0, 0, 0, 0, 1, 2, 0, 0, 0, 3, 0, 31, 0, 0, 0, 0, 1, 0, 0, 0, 0, 0, 0, 0, 4, 0, 0, 0, 0, 0, 0, 0, 5, 0, 0, 18, 52, 1, 86, 0, 3, 7, 8, 0, 0, 10, 11},
		},
		{
			api.Record{Lsn: 258, Turn: 3, Kind: api.RecUndo, Tx: 4, Prev: 5, Next: 6, Span: api.Span{Block: 0x1234, Off: 0x0156, New: []byte{0, 10}}},
			[]byte{0, 0, 0, 0, 0, 0, 1, 2, 0, 0, 0, 3, 0, 35, 0, 0, 0, 0, 2, 0, 0, 0, 0, 0, 0, 0, 4, 0, 0, 0, 0, 0, 0, 0, 5, 0, 0, 0, 0, 0, 0, 0, 6, 0, 0, 18, 52, 1, 86, 0, 2, 0, 10},
		},
	} {
		sum := crc32.ChecksumIEEE(slices.Concat(c.want[:14], c.want[18:]))
		binary.BigEndian.PutUint32(c.want[14:], sum)
		b, e := log.Put(c.r)
		if e != api.OK || !bytes.Equal(b, c.want) {
			t.Errorf("Put(%+v) = %v, %d; want %v", c.r, b, e, c.want)
		}
		wantGet(t, c.want, c.r, len(c.want))
	}
}

// The chapter's sum, bit by bit: a second opinion beside the library's.
func TestSum(t *testing.T) {
	for _, r := range []api.Record{commit(1, 1), abort(1<<62, 1<<31-1), change(77, 3, 9, 100), undo(1000, 2, 0, 512)} {
		b, e := log.Put(r)
		if e != api.OK {
			t.Fatal(e)
		}
		sum := uint64(1<<32 - 1)
		for i, c := range b {
			if i >= 14 && i < 18 {
				continue
			}
			for bit := range 8 {
				out := sum%2 != uint64(c>>bit)%2
				sum /= 2
				if out {
					sum ^= 0xEDB88320
				}
			}
		}
		if want := uint32(1<<32 - 1 - sum); binary.BigEndian.Uint32(b[14:]) != want {
			t.Errorf("%+v: its sum is %v, want %d", r, b[14:18], want)
		}
	}
}

// rightOnes are records at the edges of what they may have.
func rightOnes() []api.Record {
	var out []api.Record
	for _, n := range []int64{1, 2, 255, 256, 1 << 31, 1 << 32, 1<<61 + 12345, 1<<62 - 1, 1 << 62} {
		for _, r := range []api.Record{commit(1, 1), abort(1, 1), change(1, 1, 0, 1), undo(1, 1, 0, 1)} {
			l, x, p := r, r, r
			l.Lsn, x.Tx, p.Prev = n, n, n
			out = append(out, l, x, p)
		}
		next := undo(1, 1, 3, 2)
		next.Next = n
		out = append(out, next)
	}
	for _, turn := range []int64{1, 2, 256, 1 << 16, 1 << 24, 1 << 30, 1<<31 - 2, 1<<31 - 1} {
		out = append(out, commit(5, turn), abort(5, turn), change(5, turn, 3, 4), undo(5, turn, 3, 4))
	}
	for _, r := range []api.Record{commit(1, 1), abort(1, 1), change(1, 1, 0, 1), undo(1, 1, 0, 1)} {
		r.Tx, r.Prev, r.Next = 0, 0, 0
		out = append(out, r)
	}
	for _, block := range []int{0, 1, 255, 256, 1<<16 - 2, 1<<16 - 1} {
		c, u := change(1, 1, 2, 3), undo(1, 1, 2, 3)
		c.Span.Block, u.Span.Block = block, block
		out = append(out, c, u)
	}
	for _, n := range []int{1, 2, 255, 256, 257, 510, 511, 512} {
		for _, off := range []int{0, 1, 255, 256, 510, 511} {
			if off+n <= 512 {
				out = append(out, change(9, 9, off, n), undo(9, 9, off, n))
			}
		}
		out = append(out, change(9, 9, 512-n, n), undo(9, 9, 512-n, n))
	}
	return out
}

func TestRightRecords(t *testing.T) {
	for _, r := range rightOnes() {
		wantPut(t, r)
	}
	if b, _ := log.Put(change(1, 1, 0, 512)); len(b) != 1067 {
		t.Errorf("the longest record has %d bytes", len(b))
	}
}

func TestEachLengthAndPlaceOfSpans(t *testing.T) {
	for n := range 514 {
		for _, off := range []int{0, 512 - n, 513 - n} {
			right := n > 0 && off >= 0 && off+n <= 512
			for _, r := range []api.Record{change(1, 1, off, n), undo(1, 1, off, n)} {
				if right {
					wantGet(t, written(r), r, len(written(r)))
				}
				if _, e := log.Put(r); (e == api.OK) != right {
					t.Errorf("Put of %d bytes at %d: %d", n, off, e)
				}
				if _, _, e := log.Get(written(r)); off >= 0 && (e == api.OK) != right {
					t.Errorf("Get of %d bytes at %d: %d", n, off, e)
				}
			}
		}
	}
}

// An empty list and none are the same (R6).
func TestEmptyRowsAreNone(t *testing.T) {
	for _, r := range []api.Record{commit(1, 1), abort(1, 1)} {
		r.Span.Old, r.Span.New = []byte{}, make([]byte, 0, 9)
		wantPut(t, r)
	}
	r := undo(1, 1, 2, 3)
	r.Span.Old = []byte{}
	wantPut(t, r)
}

// bent is a record that a function has changed.
func bent(r api.Record, f func(*api.Record)) api.Record {
	f(&r)
	return r
}

// wrongNumbers are records with a number beyond what it may be; they can be written all the same.
func wrongNumbers() []api.Record {
	var out []api.Record
	for _, r := range []api.Record{commit(5, 5), abort(5, 5), change(5, 5, 5, 5), undo(5, 5, 5, 5)} {
		for _, n := range []int64{-1, math.MinInt64, 1<<62 + 1, 1<<62 + 1<<61, math.MaxInt64} {
			out = append(out,
				bent(r, func(r *api.Record) { r.Lsn = n }),
				bent(r, func(r *api.Record) { r.Tx = n }),
				bent(r, func(r *api.Record) { r.Prev = n }))
			if r.Kind == api.RecUndo {
				out = append(out, bent(r, func(r *api.Record) { r.Next = n }))
			}
		}
		out = append(out,
			bent(r, func(r *api.Record) { r.Lsn = 0 }),
			bent(r, func(r *api.Record) { r.Turn = 0 }),
			bent(r, func(r *api.Record) { r.Turn = 1 << 31 }),
			bent(r, func(r *api.Record) { r.Turn = 1<<32 - 1 }))
		if r.Kind != api.RecChange && r.Kind != api.RecUndo {
			continue
		}
		for _, block := range []int{1 << 16, 1<<16 + 1, 1 << 24, 1 << 31, 1<<32 - 1} {
			out = append(out, bent(r, func(r *api.Record) { r.Span.Block = block }))
		}
		for _, off := range []int{508, 509, 512, 1 << 15, 1<<16 - 5, 1<<16 - 1} {
			out = append(out, bent(r, func(r *api.Record) { r.Span.Off = off }))
		}
	}
	return out
}

func TestWrongNumbers(t *testing.T) {
	for _, r := range wrongNumbers() {
		wantNoPut(t, r)
		wantNoGet(t, written(r))
	}
	for _, r := range []api.Record{commit(5, 5), abort(5, 5), change(5, 5, 5, 5), undo(5, 5, 5, 5)} {
		for _, turn := range []int64{-1, math.MinInt64, math.MaxInt64, 1<<32 + 5} {
			wantNoPut(t, bent(r, func(r *api.Record) { r.Turn = turn }))
		}
	}
}

func TestWrongKinds(t *testing.T) {
	for kind := range 256 {
		r := api.Record{Lsn: 1, Turn: 1, Kind: api.RecordKind(kind), Tx: 1}
		if kind == 3 || kind == 4 {
			wantPut(t, r)
			continue
		}
		wantNoPut(t, r)
		if kind != 1 && kind != 2 {
			wantNoGet(t, written(r))
			wantNoPut(t, bent(change(1, 1, 2, 3), func(r *api.Record) { r.Kind = api.RecordKind(kind) }))
		}
	}
}

func TestWrongSpans(t *testing.T) {
	for _, r := range []api.Record{
		{Lsn: 1, Turn: 1, Kind: api.RecChange},
		{Lsn: 1, Turn: 1, Kind: api.RecUndo},
		{Lsn: 1, Turn: 1, Kind: api.RecChange, Span: api.Span{Old: []byte{1}}},
		{Lsn: 1, Turn: 1, Kind: api.RecChange, Span: api.Span{New: []byte{1}}},
		{Lsn: 1, Turn: 1, Kind: api.RecChange, Span: api.Span{Old: []byte{1, 2}, New: []byte{1}}},
		{Lsn: 1, Turn: 1, Kind: api.RecChange, Span: api.Span{Old: []byte{1}, New: []byte{1, 2}}},
		{Lsn: 1, Turn: 1, Kind: api.RecChange, Next: 1, Span: api.Span{Old: []byte{1}, New: []byte{1}}},
		{Lsn: 1, Turn: 1, Kind: api.RecUndo, Span: api.Span{Old: []byte{1}, New: []byte{1}}},
		{Lsn: 1, Turn: 1, Kind: api.RecUndo, Span: api.Span{Old: []byte{1}}},
		{Lsn: 1, Turn: 1, Kind: api.RecCommit, Next: 1},
		{Lsn: 1, Turn: 1, Kind: api.RecAbort, Next: -1},
		{Lsn: 1, Turn: 1, Kind: api.RecCommit, Span: api.Span{Block: 1}},
		{Lsn: 1, Turn: 1, Kind: api.RecAbort, Span: api.Span{Off: 1}},
		{Lsn: 1, Turn: 1, Kind: api.RecCommit, Span: api.Span{Old: []byte{0}}},
		{Lsn: 1, Turn: 1, Kind: api.RecAbort, Span: api.Span{New: []byte{0}}},
		{Lsn: 1, Turn: 1, Kind: api.RecUndo, Span: api.Span{Block: -1, New: []byte{1}}},
		{Lsn: 1, Turn: 1, Kind: api.RecUndo, Span: api.Span{Block: math.MinInt, New: []byte{1}}},
		{Lsn: 1, Turn: 1, Kind: api.RecUndo, Span: api.Span{Block: math.MaxInt, New: []byte{1}}},
		{Lsn: 1, Turn: 1, Kind: api.RecUndo, Span: api.Span{Off: -1, New: []byte{1}}},
		{Lsn: 1, Turn: 1, Kind: api.RecUndo, Span: api.Span{Off: math.MinInt, New: []byte{1}}},
		{Lsn: 1, Turn: 1, Kind: api.RecUndo, Span: api.Span{Off: math.MaxInt, New: []byte{1}}},
		{Lsn: 1, Turn: 1, Kind: api.RecUndo, Span: api.Span{Off: 512, New: []byte{1}}},
		{Lsn: 1, Turn: 1, Kind: api.RecUndo, Span: api.Span{New: make([]byte, 513)}},
		{Lsn: 1, Turn: 1, Kind: api.RecUndo, Span: api.Span{New: make([]byte, 1<<16+1)}},
		{},
	} {
		wantNoPut(t, r)
	}
}

// A change whose old bytes are not as many as the new ones, and bodies that are a byte too short or too long, with their sums right.
func TestBodiesOfOtherLengths(t *testing.T) {
	for _, r := range []api.Record{commit(5, 5), abort(5, 5), change(5, 5, 5, 5), undo(5, 5, 5, 5), change(1, 1, 0, 1), undo(1, 1, 0, 1)} {
		body := written(r)[18:]
		for n := range body {
			wantNoGet(t, summed(5, 5, body[:n]))
		}
		wantGet(t, summed(5, 5, body), bent(r, func(r *api.Record) { r.Lsn, r.Turn = 5, 5 }), 18+len(body))
		for _, more := range [][]byte{{0}, {7}, {0, 0}, make([]byte, 8), make([]byte, 16), some(1000)} {
			wantNoGet(t, summed(5, 5, slices.Concat(body, more)))
		}
	}
	wantNoGet(t, written(bent(change(5, 5, 5, 5), func(r *api.Record) { r.Span.Old = some(4) })))
	wantNoGet(t, written(bent(change(5, 5, 5, 5), func(r *api.Record) { r.Span.Old = some(6) })))
	wantNoGet(t, written(bent(undo(5, 5, 5, 5), func(r *api.Record) { r.Span.Old = some(5) })))
	wantNoGet(t, written(api.Record{Lsn: 1, Turn: 1, Kind: api.RecChange}))
	wantNoGet(t, written(api.Record{Lsn: 1, Turn: 1, Kind: api.RecUndo}))
	// Of these the body's length is right for the kind, and how many bytes New has is not.
	for _, n := range []byte{4, 6} {
		b := written(undo(5, 5, 5, 5))[18:]
		b[32] = n
		wantNoGet(t, summed(5, 5, b))
		b = written(change(5, 5, 5, 5))[18:]
		b[24] = n
		wantNoGet(t, summed(5, 5, b))
	}
}

func TestPartsOfRecords(t *testing.T) {
	wantNoGet(t, nil)
	for _, r := range []api.Record{commit(5, 5), abort(5, 5), change(5, 5, 5, 5), undo(5, 5, 5, 5)} {
		b := written(r)
		for n := range b {
			wantNoGet(t, b[:n])
			wantNoGet(t, slices.Clone(b[:n]))
		}
	}
	for n := range 80 {
		wantNoGet(t, make([]byte, n))
		wantNoGet(t, bytes.Repeat([]byte{255}, n))
	}
}

func TestEachBitCounts(t *testing.T) {
	for _, r := range []api.Record{commit(5, 5), abort(5, 5), change(5, 5, 5, 5), undo(5, 5, 5, 5)} {
		b := slices.Concat(written(r), make([]byte, 100))
		for i := range len(written(r)) {
			for bit := range 8 {
				b[i] ^= 1 << bit
				wantNoGet(t, b)
				b[i] ^= 1 << bit
			}
		}
		wantGet(t, b, r, len(written(r)))
	}
}

// Whatever is got is put as the very bytes that it took.
func TestManyBodies(t *testing.T) {
	rnd := rand.New(rand.NewSource(1))
	got := 0
	for range 100000 {
		body := make([]byte, 17+rnd.Intn(40))
		for i := range body {
			body[i] = byte(rnd.Intn(3) * rnd.Intn(4))
		}
		clear(body[1:17])
		if rnd.Intn(2) == 0 && len(body) > 35 {
			clear(body[17:23])
			clear(body[25:31])
		}
		b := summed(uint64(rnd.Intn(3)), uint32(rnd.Intn(3)), body)
		r, n, e := log.Get(b)
		if e != api.OK {
			if _, e := log.Put(r); e == api.OK || n != 0 {
				t.Fatalf("Get(%v) tells %+v, %d", b, r, n)
			}
			continue
		}
		got++
		if again, e := log.Put(r); e != api.OK || n != len(b) || !bytes.Equal(again, b) {
			t.Fatalf("Get(%v) = %+v, %d, which Put tells as %v, %d", b, r, n, again, e)
		}
	}
	if got < 100 {
		t.Errorf("just %d of them are records", got)
	}
}

// R3: what comes in is neither changed nor kept, and what goes out is new.

func roomy(b []byte) []byte {
	out := make([]byte, len(b), len(b)+64)
	copy(out, b)
	for i := len(b); i < cap(out); i++ {
		out[:cap(out)][i] = 9
	}
	return out
}

// scribble writes over a row and its spare room.
func scribble(b []byte) {
	for i := range b[:cap(b)] {
		b[:cap(b)][i] = 0xAA
	}
}

func TestPutLeavesItsRecord(t *testing.T) {
	for _, r := range []api.Record{change(5, 5, 5, 50), undo(5, 5, 5, 50)} {
		was := written(r)
		old, new := r.Span.Old, r.Span.New
		r.Span.Old, r.Span.New = roomy(old), roomy(new)
		b, _ := log.Put(r)
		other, _ := log.Put(r)
		scribble(b)
		if !bytes.Equal(r.Span.Old[:cap(r.Span.Old)], roomy(old)[:cap(r.Span.Old)]) || !bytes.Equal(r.Span.New[:cap(r.Span.New)], roomy(new)[:cap(r.Span.New)]) {
			t.Errorf("Put changed, or shares, what it was handed: %+v", r)
		}
		scribble(r.Span.Old)
		scribble(r.Span.New)
		if !bytes.Equal(other, was) {
			t.Errorf("Put's answer is kept somewhere else, too: %v", other)
		}
	}
}

func TestGetLeavesItsBytes(t *testing.T) {
	for _, r := range []api.Record{change(5, 5, 5, 50), undo(5, 5, 5, 50), commit(5, 5)} {
		b := roomy(written(r))
		got, _, _ := log.Get(b)
		other, _, _ := log.Get(b)
		scribble(got.Span.Old)
		if !bytes.Equal(got.Span.New, r.Span.New) {
			t.Errorf("Old and New share memory")
		}
		scribble(got.Span.New)
		if !bytes.Equal(b[:cap(b)], roomy(written(r))[:cap(b)]) {
			t.Errorf("Get changed, or shares, what it was handed")
		}
		scribble(b)
		if !sameRecord(other, r) {
			t.Errorf("Get's answer is kept somewhere else, too: %+v", other)
		}
	}
}
