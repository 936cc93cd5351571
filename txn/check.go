package txn

import (
	"rickyard/api"
	"rickyard/row"
)

// lastClock leaves enough times for a whole script.
const lastClock = api.MaxTime - api.MaxActs

func validRows(l []api.Row, clock int) bool {
	if len(l) > api.MaxRows {
		return false
	}
	for i, r := range l {
		if row.Check(r) != api.OK || i > 0 && l[i-1].Key >= r.Key || !upTo(r, clock) {
			return false
		}
	}
	return true
}

// upTo reports whether no time in a row is after the clock.
func upTo(r api.Row, clock int) bool {
	for _, c := range r.Records {
		if c.Start > clock || c.Commit > clock {
			return false
		}
	}
	return r.Lock.Start <= clock
}

func validClients(l []api.Client, clock int) bool {
	if len(l) > api.MaxClients {
		return false
	}
	for _, c := range l {
		if !validWrites(c.Writes) || !validTimes(c, clock) || !validAt(c) {
			return false
		}
	}
	return true
}

func validWrites(l []api.Write) bool {
	if len(l) > api.MaxWrites {
		return false
	}
	for i, x := range l {
		if !row.Key(x.Key) || i > 0 && l[i-1].Key >= x.Key || len(x.Value) > api.MaxValue {
			return false
		}
	}
	return true
}

func validTimes(c api.Client, clock int) bool {
	switch c.Phase {
	case api.Idle:
		return c.Start == 0 && c.Commit == 0
	case api.Sealing, api.Closing:
		return c.Start >= 1 && c.Commit > c.Start && c.Commit <= clock
	default:
		return c.Start >= 1 && c.Start <= clock && c.Commit == 0
	}
}

// validAt also rejects a Phase that does not exist.
func validAt(c api.Client) bool {
	n := len(c.Writes)
	switch c.Phase {
	case api.Idle:
		return n == 0 && c.At == 0
	case api.Open:
		return c.At == 0
	case api.Locking:
		return n >= 1 && c.At >= 0 && c.At <= n
	case api.Sealing:
		return n >= 1 && c.At == 0
	case api.Closing:
		return c.At >= 1 && c.At <= n-1
	default:
		return false
	}
}

// actError returns the error of an action that can't be performed at all.
func actError(w api.World, a api.Act) api.Errno {
	if e := Check(w); e != api.OK {
		return e
	}
	if a.Kind < api.Begin || a.Kind > api.Resolve {
		return api.ErrKind
	}
	if a.C < 0 || a.C >= len(w.Clients) {
		return api.ErrRange
	}
	if w.Clock == lastClock {
		return api.ErrSize
	}
	return api.OK
}
