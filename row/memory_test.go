package row_test

import (
	"slices"
	"testing"

	"rickyard/api"
	"rickyard/row"
)

// spare returns a row like r whose Records have unused capacity, and the whole of this memory.
func spare(r api.Row) (api.Row, []api.Record) {
	all := make([]api.Record, len(r.Records)+4)
	n := copy(all, r.Records)
	for i := n; i < len(all); i++ {
		all[i] = api.Record{Start: -i, Commit: -i, Value: "spare"}
	}
	r.Records = all[:n]
	return r, all
}

// scribble overwrites the Records of a row, including their unused capacity.
func scribble(r api.Row) {
	l := r.Records[:cap(r.Records)]
	for i := range l {
		l[i] = api.Record{Start: -100, Commit: -200, Value: "scribble"}
	}
}

// changes returns, by name, the functions that return a row, with arguments for which they succeed.
func changes() map[string]struct {
	r  api.Row
	do func(api.Row) (api.Row, api.Errno)
} {
	old := api.Record{Start: 3, Commit: 7, Value: "o"}
	type entry = struct {
		r  api.Row
		do func(api.Row) (api.Row, api.Errno)
	}
	undo := func(start int) func(api.Row) (api.Row, api.Errno) {
		return func(r api.Row) (api.Row, api.Errno) { return row.Undo(r, start) }
	}
	commit := func(r api.Row) (api.Row, api.Errno) { return row.Commit(r, 9, 20) }
	lock := func(r api.Row) (api.Row, api.Errno) { return row.LockFor(r, 9, "p", "x") }
	clone := func(r api.Row) (api.Row, api.Errno) { return row.Copy(r), api.OK }
	return map[string]entry{
		"copy":               {held(9, old, api.Record{Start: 11}), clone},
		"copy, no records":   {plain(), clone},
		"lock":               {plain(old, api.Record{Start: 11}), lock},
		"lock, no records":   {plain(), lock},
		"commit, last":       {held(9, old), commit},
		"commit, first":      {held(9, api.Record{Start: 11}), commit},
		"commit, only":       {held(9), commit},
		"undo, last":         {plain(old), undo(9)},
		"undo, first":        {plain(old), undo(1)},
		"undo, only":         {plain(), undo(1)},
		"undo its lock":      {held(9, old, api.Record{Start: 11}), undo(9)},
		"undone before":      {plain(old, api.Record{Start: 9}), undo(9)},
		"undo beside a lock": {held(9, old), undo(12)},
	}
}

// TestArgumentsStay: arguments and their unused capacity are not modified, and results do not share them.
func TestArgumentsStay(t *testing.T) {
	for name, c := range changes() {
		r, all := spare(c.r)
		before := slices.Clone(all)
		got, e := c.do(r)
		if e != api.OK {
			t.Errorf("%s: %v", name, e)
		}
		if !slices.Equal(all, before) {
			t.Errorf("%s modifies its argument", name)
		}
		scribble(got)
		if !slices.Equal(all, before) {
			t.Errorf("%s returns the memory of its argument", name)
		}
	}
}

// TestResultsStay: a result does not change together with the argument or with the result of another call.
func TestResultsStay(t *testing.T) {
	for name, c := range changes() {
		r, _ := spare(c.r)
		first, _ := c.do(r)
		second, _ := c.do(r)
		want, _ := c.do(c.r)
		scribble(r)
		if !same(first, want) {
			t.Errorf("%s retains its argument", name)
		}
		scribble(second)
		if !same(first, want) {
			t.Errorf("%s shares memory between its results", name)
		}
	}
}

// TestReadingLeavesArguments: the functions that do not return a row, and those that fail, do not modify it either.
func TestReadingLeavesArguments(t *testing.T) {
	r, all := spare(held(9, api.Record{Start: 3, Commit: 7, Value: "o"}, api.Record{Start: 11}))
	before := slices.Clone(all)
	for start := -1; start < 14; start++ {
		row.Check(r)
		row.Read(r, start)
		row.Status(r, start)
		row.LockFor(r, start, "p", "x")
		row.Commit(r, start, 8)
		row.Undo(r, start)
	}
	if !slices.Equal(all, before) {
		t.Error("the argument is modified")
	}
}
