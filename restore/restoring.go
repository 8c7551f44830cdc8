package restore

import (
	"parchment/api"
	"parchment/log"
	"parchment/pool"
)

// lastSize is how many bytes a transaction's last record has (chapter 10).
const lastSize = 35

// restoring is one that is under way.
type restoring struct {
	log  *log.Log
	pool *pool.Pool
	last api.Record // the last one that was gone through, or appended
	told Told
}

// redo does all over again that the log says. Where pages are ahead of some of it they come back to where they were: bytes that were put are put once more.
func (r *restoring) redo() api.Errno {
	waiting := inLine(r.log.From(r.log.Oldest()))
	for {
		select {
		case next, more := <-waiting:
			if !more {
				return api.OK
			}
			if e := r.again(next); e != api.OK {
				return e
			}
		}
	}
}

// inLine lets records wait, all of which there ever will be.
func inLine(records []api.Record) <-chan api.Record {
	waiting := make(chan api.Record, len(records))
	for _, next := range records {
		waiting <- next
	}
	close(waiting)
	return waiting
}

// again does what one record says.
func (r *restoring) again(next api.Record) api.Errno {
	r.last = next
	r.told.Records++
	switch next.Kind {
	case api.RecCommit:
		r.told.Committed++
	case api.RecChange, api.RecUndo:
		r.told.Redone++
		return r.pool.Change(next.Span, next.Lsn)
	}
	return api.OK
}

// undo undoes what is left of the transaction that has no end, and ends it.
func (r *restoring) undo() api.Errno {
	next := r.last.Lsn
	switch r.last.Kind {
	case api.RecChange:
	case api.RecUndo:
		next = r.last.Next
	default:
		return api.OK
	}
	for next > 0 {
		done, e := r.log.Read(next)
		if e != api.OK {
			return e
		}
		if e := r.undoOne(done); e != api.OK {
			return e
		}
		next = done.Prev
	}
	if e := r.abort(); e != api.OK {
		return e
	}
	return r.log.Force()
}

// undoOne undoes a change, and logs that ahead of doing it: whoever restores behind a crash goes on from there.
func (r *restoring) undoOne(done api.Record) api.Errno {
	back := api.Span{Block: done.Span.Block, Off: done.Span.Off, New: done.Span.Old}
	if e := r.add(api.Record{Kind: api.RecUndo, Next: done.Prev, Span: back}); e != api.OK {
		return e
	}
	r.told.Undone++
	return r.pool.Change(back, r.last.Lsn)
}

// abort appends RecAbort. There is room for it, unless a RecCommit that was never told as done has taken that; the transaction ends without then: nothing of it is left to be undone, and no other one comes behind it ahead of the checkpoint.
func (r *restoring) abort() api.Errno {
	if r.log.Room() < lastSize {
		return api.OK
	}
	return r.add(api.Record{Kind: api.RecAbort})
}

// add appends a record of the transaction whose record is the last one.
func (r *restoring) add(next api.Record) api.Errno {
	next.Tx, next.Prev = r.last.Tx, r.last.Lsn
	lsn, e := r.log.Append(next)
	if e != api.OK {
		return e
	}
	next.Lsn = lsn
	r.last = next
	return api.OK
}
