package row

import "rickyard/api"

// findLast returns the index of the last record that fits, or -1.
func findLast(l []api.Record, fits func(api.Record) bool) int {
	for i := len(l) - 1; i >= 0; i-- {
		if fits(l[i]) {
			return i
		}
	}
	return -1
}

// statusOf returns the status of a transaction in a valid row, and its Commit.
func statusOf(r api.Row, start int) (int, int) {
	if locked(r) && r.Lock.Start == start {
		return api.Locked, 0
	}
	i := findLast(r.Records, func(c api.Record) bool { return c.Start == start })
	if i < 0 {
		return api.Unknown, 0
	}
	if r.Records[i].Commit == 0 {
		return api.Undone, 0
	}
	return api.Committed, r.Records[i].Commit
}

func withoutLock(r api.Row) api.Row {
	r.Lock = api.Lock{}
	r.Value = ""
	return r
}

// withRecord returns the row in new memory, with one more record. Its place need
// not be the last one: later transactions may have been undone before this one ends.
func withRecord(r api.Row, c api.Record) api.Row {
	i := findLast(r.Records, func(o api.Record) bool { return o.Start < c.Start }) + 1
	records := make([]api.Record, 0, len(r.Records)+1)
	records = append(records, r.Records[:i]...)
	records = append(records, c)
	records = append(records, r.Records[i:]...)
	r.Records = records
	return r
}
