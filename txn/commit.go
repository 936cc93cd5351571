package txn

import (
	"rickyard/api"
	"rickyard/row"
)

// step performs the next step of the commit of a client's transaction.
func step(w *api.World, c *api.Client) api.Answer {
	switch c.Phase {
	case api.Open:
		if len(c.Writes) == 0 {
			return api.Answer{Code: drop(c)}
		}
		c.Phase = api.Locking
		return api.Answer{Code: lockNext(w, c)}
	case api.Locking:
		if c.At == len(c.Writes) {
			return seal(w, c)
		}
		return api.Answer{Code: lockNext(w, c)}
	case api.Sealing, api.Closing:
		return api.Answer{Code: commitNext(w, c)}
	default:
		return api.Answer{Code: api.ErrState}
	}
}

func lockNext(w *api.World, c *api.Client) api.Errno {
	primary, next := c.Writes[0].Key, c.Writes[c.At]
	e := changeRow(w, next.Key, func(r api.Row) (api.Row, api.Errno) {
		return row.LockFor(r, c.Start, primary, next.Value)
	})
	switch e {
	case api.OK:
		c.At++
	case api.ErrBusy: // the client may try again
	default:
		fail(w, c)
	}
	return e
}

// seal gives the transaction a commit time when all its rows are locked. Whoever
// begins later and reads one of them has to learn the outcome first.
func seal(w *api.World, c *api.Client) api.Answer {
	c.Phase, c.Commit, c.At = api.Sealing, tick(w), 0
	return api.Answer{Time: c.Commit}
}

// commitNext commits the next row. The first one decides on the whole transaction;
// in the others, somebody else may have resolved the lock already.
func commitNext(w *api.World, c *api.Client) api.Errno {
	e := commitRow(w, c.Writes[c.At].Key, c.Start, c.Commit)
	if e != api.OK && c.Phase == api.Sealing {
		fail(w, c)
		return api.ErrGone
	}
	c.Phase = api.Closing
	c.At++
	if c.At == len(c.Writes) {
		return drop(c)
	}
	return api.OK
}

// fail undoes the transaction where it has a lock, and makes the client Idle.
func fail(w *api.World, c *api.Client) {
	for _, x := range c.Writes {
		if status, _ := statusIn(w, x.Key, c.Start); status == api.Locked {
			undoRow(w, x.Key, c.Start)
		}
	}
	drop(c)
}

// resolve ends the transaction that has the lock of a row: its primary row tells
// whether it is committed, and if it is not, it is undone there first, so that it
// never will be.
func resolve(w *api.World, key string) api.Errno {
	if !row.Key(key) {
		return api.ErrForm
	}
	i, is := findRow(w, key)
	if !is || w.Rows[i].Lock.Start == 0 {
		return api.ErrNone
	}
	lock := w.Rows[i].Lock
	if status, commit := statusIn(w, lock.Primary, lock.Start); status == api.Committed {
		return commitRow(w, key, lock.Start, commit)
	}
	if e := undoRow(w, lock.Primary, lock.Start); e != api.OK {
		return e
	}
	return undoRow(w, key, lock.Start)
}
