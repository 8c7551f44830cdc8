package change

import (
	"parchment/api"
	"parchment/page"
)

// How many bytes records have (chapter 10): a last one in all, the others but for the bytes of their spans.
const (
	lastSize   = 35
	changeSize = 43
	undoSize   = 51
)

// stand is what a transaction waits for.
type stand int

const (
	none   stand = iota // there is no transaction
	open                // for changes, or an end
	sealed              // for its end: RecCommit is appended, and may be safe or not
	torn                // for Abort alone: it was stopped among its changes, or among their undoing
)

// deal is a transaction. What it has changed stands in the log.
type deal struct {
	stand   stand
	number  int64 // where the log ended when it began; since each one ends with a record, no other one's
	changes int
	last    int64 // the lsn of its last record; 0: it has none
	next    int64 // the lsn of the change that is to be undone next; 0: there is none
	undone  int64 // the lsn of that one's RecUndo, if the page has not followed yet; 0: it is not appended
	kept    int   // how many bytes the log must have for undoing its changes
}

// needs is how many bytes the log must have for changes, and for undoing them and all others, and a last record.
func (t *deal) needs(spans []api.Span) int {
	all := t.kept + lastSize
	for _, s := range spans {
		all += changeSize + 2*len(s.New) + undoing(s)
	}
	return all
}

// undoing is how many bytes it takes to undo a change.
func undoing(s api.Span) int {
	return undoSize + len(s.New)
}

// differing is where a page that has some bytes is to get others.
func differing(number int, was, data []byte) []api.Span {
	spans := page.Diff(was, data)
	for i := range spans {
		spans[i].Block = number
	}
	return spans
}

// write logs changes, each ahead of its being done.
func (b *Book) write(spans []api.Span) api.Errno {
	var steps []func() api.Errno
	for _, s := range spans {
		steps = append(steps,
			func() api.Errno { return b.logChange(s) },
			func() api.Errno { return b.pool.Change(s, b.deal.last) },
		)
	}
	e := inTurn(steps...)
	if e != api.OK {
		b.deal.stand = torn
	}
	return e
}

func (b *Book) logChange(s api.Span) api.Errno {
	t := b.deal
	if e := b.add(api.Record{Kind: api.RecChange, Span: s}); e != api.OK {
		return e
	}
	t.changes++
	t.next = t.last
	t.kept += undoing(s)
	return api.OK
}

// add appends a record of the transaction.
func (b *Book) add(r api.Record) api.Errno {
	r.Tx, r.Prev = b.deal.number, b.deal.last
	lsn, e := b.log.Append(r)
	if e != api.OK {
		return e
	}
	b.deal.last = lsn
	return api.OK
}

// logCommit appends RecCommit; not once more, if a Commit ahead of this one did and could not force the log.
func (b *Book) logCommit() api.Errno {
	if b.deal.stand == sealed {
		return api.OK
	}
	if e := b.add(api.Record{Kind: api.RecCommit}); e != api.OK {
		return e
	}
	b.deal.stand = sealed
	return api.OK
}

// reach asks for each page that is to be changed back, so that where one can't be had nothing is undone.
func (b *Book) reach() api.Errno {
	for lsn := b.deal.next; lsn > 0; {
		r, e := b.log.Read(lsn)
		if e != api.OK {
			return e
		}
		if _, e := b.pool.Read(r.Span.Block); e != api.OK {
			return e
		}
		lsn = r.Prev
	}
	return api.OK
}

// undo undoes all changes, the last one first.
func (b *Book) undo() api.Errno {
	for b.deal.next > 0 {
		if e := b.undoNext(); e != api.OK {
			return e
		}
	}
	return api.OK
}

// undoNext undoes one change. If it is stopped behind its record, it goes on from there the next time: the log has room for one such record alone.
func (b *Book) undoNext() api.Errno {
	t := b.deal
	r, e := b.log.Read(t.next)
	if e != api.OK {
		return e
	}
	back := api.Span{Block: r.Span.Block, Off: r.Span.Off, New: r.Span.Old}
	return inTurn(
		func() api.Errno { return b.logUndo(back, r.Prev) },
		func() api.Errno { return b.pool.Change(back, t.undone) },
		func() api.Errno {
			t.next, t.undone = r.Prev, 0
			return api.OK
		},
	)
}

func (b *Book) logUndo(back api.Span, next int64) api.Errno {
	t := b.deal
	if t.undone > 0 {
		return api.OK
	}
	if e := b.add(api.Record{Kind: api.RecUndo, Next: next, Span: back}); e != api.OK {
		return e
	}
	t.undone = t.last
	t.stand = torn
	return api.OK
}

// logAbort appends RecAbort. Put has kept the log's room for it; where it is gone, a RecCommit that could not be forced has taken it, and the transaction ends without: ahead of the next one the log is so full that a checkpoint is taken.
func (b *Book) logAbort() api.Errno {
	if b.log.Room() < lastSize {
		return api.OK
	}
	return b.add(api.Record{Kind: api.RecAbort})
}

// leave ends the transaction.
func (b *Book) leave() api.Errno {
	*b.deal = deal{}
	return api.OK
}
