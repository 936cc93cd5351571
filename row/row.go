// Package row: rows with locks and records.
package row

import "rickyard/api"

// Key reports whether s is a valid key: 1 to MaxKey letters from a to z.
func Key(s string) bool {
	if len(s) < 1 || len(s) > api.MaxKey {
		return false
	}
	for i := 0; i < len(s); i++ {
		if s[i] < 'a' || s[i] > 'z' {
			return false
		}
	}
	return true
}

// Check returns ErrState unless the row is valid.
func Check(r api.Row) api.Errno {
	if !Key(r.Key) || len(r.Records) > maxRecords(r) || !validRecords(r.Records) || !validLock(r) {
		return api.ErrState
	}
	return api.OK
}

// Copy returns a copy of a row, valid or not, in memory of its own.
func Copy(r api.Row) api.Row {
	records := make([]api.Record, len(r.Records))
	copy(records, r.Records)
	r.Records = records
	return r
}

// Read returns what was committed last up to a time; false: nothing was.
func Read(r api.Row, at int) (string, bool, api.Errno) {
	if e := checkAt(r, at); e != api.OK {
		return "", false, e
	}
	if locked(r) && r.Lock.Start <= at {
		return "", false, api.ErrBusy
	}
	// In a valid row, the last of these records has the greatest Commit.
	i := findLast(r.Records, func(c api.Record) bool { return c.Commit != 0 && c.Commit <= at })
	if i < 0 {
		return "", false, api.OK
	}
	return r.Records[i].Value, true, api.OK
}

// Status returns the status of a transaction in a row and, if it is Committed, its Commit.
func Status(r api.Row, start int) (int, int, api.Errno) {
	if e := checkAt(r, start); e != api.OK {
		return api.Unknown, 0, e
	}
	status, commit := statusOf(r, start)
	return status, commit, api.OK
}

// LockFor gives the lock to a transaction, with the value that it is going to write.
func LockFor(r api.Row, start int, primary, value string) (api.Row, api.Errno) {
	if e := lockError(r, start, primary, value); e != api.OK {
		return api.Row{}, e
	}
	out := Copy(r)
	out.Lock = api.Lock{Start: start, Primary: primary}
	out.Value = value
	return out, api.OK
}

// Commit turns the lock of a transaction into a committed record.
func Commit(r api.Row, start, commit int) (api.Row, api.Errno) {
	if e := checkAt(r, start); e != api.OK {
		return api.Row{}, e
	}
	if commit <= start || commit > api.MaxTime {
		return api.Row{}, api.ErrRange
	}
	switch status, _ := statusOf(r, start); status {
	case api.Undone:
		return api.Row{}, api.ErrGone
	case api.Locked:
		record := api.Record{Start: start, Commit: commit, Value: r.Value}
		return withRecord(withoutLock(r), record), api.OK
	default:
		return api.Row{}, api.ErrNone
	}
}

// Undo records that a transaction is undone, so that it can never be committed in this row.
func Undo(r api.Row, start int) (api.Row, api.Errno) {
	if e := checkAt(r, start); e != api.OK {
		return api.Row{}, e
	}
	record := api.Record{Start: start}
	switch status, _ := statusOf(r, start); status {
	case api.Committed:
		return api.Row{}, api.ErrState
	case api.Undone:
		return Copy(r), api.OK
	case api.Locked:
		// There is always room: the lock has kept a place for this record.
		return withRecord(withoutLock(r), record), api.OK
	default:
		if len(r.Records) >= maxRecords(r) {
			return api.Row{}, api.ErrSize
		}
		return withRecord(r, record), api.OK
	}
}
