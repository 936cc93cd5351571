package row_test

import (
	"testing"

	"rickyard/api"
	"rickyard/row"
)

// The tests of this file try all small rows, and compare the results with what
// the document says, written as directly as possible.

const lastSmall = 5 // the last time in a small row

// smallRows calls f with all rows of at most three records with small times.
func smallRows(f func(api.Row)) {
	var records []api.Record
	for start := 1; start <= lastSmall; start++ {
		records = append(records, api.Record{Start: start})
		for commit := 1; commit <= lastSmall; commit++ {
			records = append(records, api.Record{Start: start, Commit: commit, Value: string(rune('0' + commit))})
		}
	}
	var extend func(l []api.Record)
	extend = func(l []api.Record) {
		f(plain(l...))
		for start := 1; start <= lastSmall; start++ {
			f(held(start, l...))
		}
		if len(l) == 3 {
			return
		}
		for _, c := range records {
			extend(append(l[:len(l):len(l)], c))
		}
	}
	extend(nil)
}

// validSmall restates P1.2, as far as small rows may break it.
func validSmall(r api.Row) bool {
	for i, c := range r.Records {
		if c.Commit != 0 && c.Commit <= c.Start {
			return false
		}
		if r.Lock.Start != 0 && (c.Start == r.Lock.Start || c.Commit > r.Lock.Start) {
			return false
		}
		for _, before := range r.Records[:i] {
			if before.Start >= c.Start || c.Commit != 0 && before.Commit > c.Start {
				return false
			}
		}
	}
	return true
}

// statuses returns the status and the Commit of each small transaction.
func statuses(r api.Row) [lastSmall + 1][2]int {
	var l [lastSmall + 1][2]int
	if r.Lock.Start != 0 {
		l[r.Lock.Start][0] = api.Locked
	}
	for _, c := range r.Records {
		l[c.Start] = [2]int{api.Committed, c.Commit}
		if c.Commit == 0 {
			l[c.Start][0] = api.Undone
		}
	}
	return l
}

func TestSmallRows(t *testing.T) {
	valid := 0
	smallRows(func(r api.Row) {
		if (row.Check(r) == api.OK) != validSmall(r) {
			t.Fatalf("Check of %v: %v", r, row.Check(r))
		}
		if !validSmall(r) {
			return
		}
		valid++
		for start := 1; start <= lastSmall; start++ {
			checkSmallRead(t, r, start)
			checkSmallStatus(t, r, start)
			checkSmallLock(t, r, start)
			checkSmallUndo(t, r, start)
			for commit := 1; commit <= lastSmall; commit++ {
				checkSmallCommit(t, r, start, commit)
			}
		}
	})
	if valid < 100 {
		t.Errorf("only %d valid rows", valid)
	}
}

func checkSmallRead(t *testing.T, r api.Row, at int) {
	best := api.Record{}
	for _, c := range r.Records {
		if c.Commit <= at && c.Commit > best.Commit {
			best = c
		}
	}
	want, code := best, api.OK
	if r.Lock.Start != 0 && r.Lock.Start <= at {
		want, code = api.Record{}, api.ErrBusy
	}
	value, is, e := row.Read(r, at)
	if value != want.Value || is != (want.Commit != 0) || e != code {
		t.Fatalf("Read(%v, %d) = %q %v %v", r, at, value, is, e)
	}
}

func checkSmallStatus(t *testing.T, r api.Row, start int) {
	status, commit, e := row.Status(r, start)
	if [2]int{status, commit} != statuses(r)[start] || e != api.OK {
		t.Fatalf("Status(%v, %d) = %d %d %v", r, start, status, commit, e)
	}
}

func checkSmallLock(t *testing.T, r api.Row, start int) {
	code := api.OK
	if r.Lock.Start != 0 {
		code = api.ErrBusy
	}
	for _, c := range r.Records {
		if c.Commit > start {
			code = api.ErrLate
		}
	}
	want := statuses(r)
	if want[start][0] == api.Undone {
		code = api.ErrGone
	}
	got, e := row.LockFor(r, start, "q", "y")
	want[start] = [2]int{api.Locked, 0}
	checkSmallChange(t, r, got, e, code, want)
	if e == api.OK && (got.Lock != api.Lock{Start: start, Primary: "q"} || got.Value != "y") {
		t.Fatalf("LockFor(%v, %d) = %v", r, start, got)
	}
}

func checkSmallCommit(t *testing.T, r api.Row, start, commit int) {
	want := statuses(r)
	code := api.OK
	switch {
	case commit <= start:
		code = api.ErrRange
	case want[start][0] == api.Undone:
		code = api.ErrGone
	case want[start][0] != api.Locked:
		code = api.ErrNone
	}
	got, e := row.Commit(r, start, commit)
	want[start] = [2]int{api.Committed, commit}
	checkSmallChange(t, r, got, e, code, want)
	if e != api.OK {
		return
	}
	if value, is, _ := row.Read(got, commit); value != r.Value || !is {
		t.Fatalf("Commit(%v, %d, %d) = %v", r, start, commit, got)
	}
}

func checkSmallUndo(t *testing.T, r api.Row, start int) {
	want := statuses(r)
	code := api.OK
	if want[start][0] == api.Committed {
		code = api.ErrState
	}
	got, e := row.Undo(r, start)
	want[start] = [2]int{api.Undone, 0}
	checkSmallChange(t, r, got, e, code, want)
	if e == api.OK && r.Lock.Start != start && (got.Lock != r.Lock || got.Value != r.Value) {
		t.Fatalf("Undo(%v, %d) = %v", r, start, got)
	}
}

// checkSmallChange: the result of a change is zero with an error, and otherwise a
// valid row with these statuses, in which all records that were there still are.
func checkSmallChange(t *testing.T, r, got api.Row, e, code api.Errno, want [lastSmall + 1][2]int) {
	if e != code {
		t.Fatalf("%v becomes %v: %v, want %v", r, got, e, code)
	}
	if e != api.OK {
		if !same(got, api.Row{}) {
			t.Fatalf("%v becomes %v beside %v", r, got, e)
		}
		return
	}
	if row.Check(got) != api.OK || got.Key != r.Key || statuses(got) != want {
		t.Fatalf("%v becomes %v", r, got)
	}
	kept := 0
	for _, c := range got.Records {
		if kept < len(r.Records) && c == r.Records[kept] {
			kept++
		}
	}
	if kept != len(r.Records) {
		t.Fatalf("%v becomes %v", r, got)
	}
}
