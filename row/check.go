package row

import "rickyard/api"

func isTime(n int) bool { return n >= 1 && n <= api.MaxTime }

func locked(r api.Row) bool { return r.Lock.Start != 0 }

// maxRecords keeps one place free for the record that a lock is going to become.
func maxRecords(r api.Row) int {
	if locked(r) {
		return api.MaxRecords - 1
	}
	return api.MaxRecords
}

func validRecords(l []api.Record) bool {
	start, commit := 0, 0 // the greatest ones of the preceding records
	for _, c := range l {
		if c.Start <= start || !validRecord(c) {
			return false
		}
		if c.Commit != 0 && c.Start < commit {
			return false
		}
		start, commit = c.Start, max(commit, c.Commit)
	}
	return true
}

func validRecord(c api.Record) bool {
	if !isTime(c.Start) {
		return false
	}
	if c.Commit == 0 {
		return c.Value == ""
	}
	return c.Commit > c.Start && c.Commit <= api.MaxTime && len(c.Value) <= api.MaxValue
}

func validLock(r api.Row) bool {
	start := r.Lock.Start
	if !locked(r) {
		return r.Lock.Primary == "" && r.Value == ""
	}
	if !isTime(start) || !Key(r.Lock.Primary) || len(r.Value) > api.MaxValue {
		return false
	}
	i := findLast(r.Records, func(c api.Record) bool { return c.Start == start || c.Commit > start })
	return i < 0
}

// checkAt finds the errors that all functions with a row and a time have in common.
func checkAt(r api.Row, time int) api.Errno {
	if e := Check(r); e != api.OK {
		return e
	}
	if !isTime(time) {
		return api.ErrRange
	}
	return api.OK
}

func lockError(r api.Row, start int, primary, value string) api.Errno {
	if e := checkAt(r, start); e != api.OK {
		return e
	}
	if !Key(primary) {
		return api.ErrForm
	}
	if len(value) > api.MaxValue {
		return api.ErrSize
	}
	if status, _ := statusOf(r, start); status == api.Undone {
		return api.ErrGone
	}
	if findLast(r.Records, func(c api.Record) bool { return c.Commit > start }) >= 0 {
		return api.ErrLate
	}
	if locked(r) {
		return api.ErrBusy
	}
	if len(r.Records) >= api.MaxRecords {
		return api.ErrSize
	}
	return api.OK
}
