package row_test

import (
	"slices"
	"strings"
	"testing"

	"rickyard/api"
	"rickyard/row"
)

var (
	longKey   = strings.Repeat("z", api.MaxKey)
	longValue = strings.Repeat("v", api.MaxValue)
)

// same compares rows; a list without elements may be nil or not.
func same(a, b api.Row) bool {
	return a.Key == b.Key && a.Lock == b.Lock && a.Value == b.Value && slices.Equal(a.Records, b.Records)
}

// plain is a row without a lock.
func plain(records ...api.Record) api.Row { return api.Row{Key: "a", Records: records} }

// held is a row with the lock of a transaction that is going to write x.
func held(start int, records ...api.Record) api.Row {
	return api.Row{Key: "a", Lock: api.Lock{Start: start, Primary: "p"}, Value: "x", Records: records}
}

// undone returns n records of undone transactions, from a start on.
func undone(from, n int) []api.Record {
	var l []api.Record
	for i := range n {
		l = append(l, api.Record{Start: from + i})
	}
	return l
}

// P1.1

func TestKey(t *testing.T) {
	for s, want := range map[string]bool{
		"a": true, "z": true, "cow": true, longKey: true,
		"": false, longKey + "z": false, "A": false, "Z": false, "a1": false, "1a": false,
		"`": false, "{": false, "a b": false, " ": false, "é": false, "a\x00": false, "\xff": false, "coW": false,
	} {
		if row.Key(s) != want {
			t.Errorf("Key(%q) is not %v", s, want)
		}
	}
}

// P1.2

func TestCheckAccepts(t *testing.T) {
	for i, r := range []api.Row{
		{Key: "a"},
		{Key: longKey, Records: []api.Record{}},
		{Key: "a", Lock: api.Lock{Start: 1, Primary: "a"}},
		{Key: "a", Lock: api.Lock{Start: api.MaxTime, Primary: longKey}, Value: longValue},
		plain(api.Record{Start: 1}),
		plain(api.Record{Start: api.MaxTime}),
		plain(api.Record{Start: 1, Commit: 2}),
		plain(api.Record{Start: 1, Commit: 2, Value: longValue}),
		plain(api.Record{Start: api.MaxTime - 1, Commit: api.MaxTime, Value: "x"}),
		plain(api.Record{Start: 1, Commit: 5}, api.Record{Start: 5, Commit: 6}),
		plain(api.Record{Start: 1, Commit: 5}, api.Record{Start: 3}, api.Record{Start: 5, Commit: 6}),
		plain(undone(1, api.MaxRecords)...),
		held(5, api.Record{Start: 1, Commit: 5}),
		held(5, api.Record{Start: 4}, api.Record{Start: 6}),
		held(5, undone(6, api.MaxRecords-1)...),
	} {
		if e := row.Check(r); e != api.OK {
			t.Errorf("row %d: %v", i, e)
		}
	}
}

func TestCheckRefuses(t *testing.T) {
	for i, r := range []api.Row{
		{},
		{Key: longKey + "z"},
		{Key: "A"},
		{Key: "a", Lock: api.Lock{Primary: "p"}},
		{Key: "a", Value: "x"},
		{Key: "a", Lock: api.Lock{Start: -1, Primary: "p"}},
		{Key: "a", Lock: api.Lock{Start: api.MaxTime + 1, Primary: "p"}},
		{Key: "a", Lock: api.Lock{Start: 1}},
		{Key: "a", Lock: api.Lock{Start: 1, Primary: "P"}},
		{Key: "a", Lock: api.Lock{Start: 1, Primary: longKey + "z"}},
		{Key: "a", Lock: api.Lock{Start: 1, Primary: "p"}, Value: longValue + "v"},
		plain(api.Record{Start: 0}),
		plain(api.Record{Start: 0, Commit: 1}),
		plain(api.Record{Start: -1}),
		plain(api.Record{Start: api.MaxTime + 1}),
		plain(api.Record{Start: 2}, api.Record{Start: 2}),
		plain(api.Record{Start: 2}, api.Record{Start: 1}),
		plain(api.Record{Start: 2, Value: "x"}),
		plain(api.Record{Start: 2, Commit: 2}),
		plain(api.Record{Start: 2, Commit: 1}),
		plain(api.Record{Start: 2, Commit: -1}),
		plain(api.Record{Start: 2, Commit: api.MaxTime + 1}),
		plain(api.Record{Start: 2, Commit: 3, Value: longValue + "v"}),
		plain(api.Record{Start: 1, Commit: 5}, api.Record{Start: 4, Commit: 6}),
		plain(api.Record{Start: 1, Commit: 5}, api.Record{Start: 2}, api.Record{Start: 4, Commit: 6}),
		plain(undone(1, api.MaxRecords+1)...),
		held(5, api.Record{Start: 5}),
		held(5, api.Record{Start: 1, Commit: 6}),
		held(5, api.Record{Start: 6, Commit: 7}),
		held(5, api.Record{Start: 1, Commit: 6}, api.Record{Start: 2}),
		held(500, undone(1, api.MaxRecords)...),
	} {
		if e := row.Check(r); e != api.ErrState {
			t.Errorf("row %d: %v", i, e)
		}
	}
}

func TestCopy(t *testing.T) {
	for i, r := range []api.Row{
		{},
		{Key: "NO KEY", Lock: api.Lock{Start: -4, Primary: "?"}, Value: longValue + "v"},
		plain(undone(1, api.MaxRecords+1)...),
		held(5, api.Record{Start: 1, Commit: 3, Value: "y"}, api.Record{Start: 9}),
	} {
		if c := row.Copy(r); !same(c, r) {
			t.Errorf("row %d: %v", i, c)
		}
	}
}

// allErrors returns the errors of the functions with a row and a time; none of them may return anything else beside.
func allErrors(t *testing.T, r api.Row, time int) []api.Errno {
	value, is, e1 := row.Read(r, time)
	status, commit, e2 := row.Status(r, time)
	r3, e3 := row.LockFor(r, time, "BAD", longValue+"v")
	r4, e4 := row.Commit(r, time, time)
	r5, e5 := row.Undo(r, time)
	if value != "" || is || status != 0 || commit != 0 || !same(r3, api.Row{}) || !same(r4, api.Row{}) || !same(r5, api.Row{}) {
		t.Errorf("a result beside an error: %v at %d", r, time)
	}
	return []api.Errno{e1, e2, e3, e4, e5}
}

func TestInvalidRowComesFirst(t *testing.T) {
	bad := plain(api.Record{Start: 3, Commit: 7, Value: "x"}, api.Record{Start: 4, Commit: 8, Value: "y"})
	for _, time := range []int{-1, 0, 3, 4, 7, api.MaxTime + 1} {
		for i, e := range allErrors(t, bad, time) {
			if e != api.ErrState {
				t.Errorf("function %d, time %d: %v", i, time, e)
			}
		}
	}
}

func TestTimeOutOfRangeComesSecond(t *testing.T) {
	r := held(5, undone(6, api.MaxRecords-1)...)
	for _, time := range []int{-1 << 63, -1, 0, api.MaxTime + 1, 1<<63 - 1} {
		for i, e := range allErrors(t, r, time) {
			if e != api.ErrRange {
				t.Errorf("function %d, time %d: %v", i, time, e)
			}
		}
	}
}

// P1.3

func TestRead(t *testing.T) {
	history := []api.Record{
		{Start: 1},
		{Start: 3, Commit: 7, Value: "x"},
		{Start: 5},
		{Start: 7, Commit: 9, Value: ""},
		{Start: 10, Commit: 20, Value: "z"},
		{Start: 11},
	}
	for _, c := range []struct {
		r     api.Row
		at    int
		value string
		is    bool
		e     api.Errno
	}{
		{plain(), 1, "", false, api.OK},
		{plain(), api.MaxTime, "", false, api.OK},
		{plain(undone(1, 3)...), 9, "", false, api.OK},
		{plain(history...), 1, "", false, api.OK},
		{plain(history...), 6, "", false, api.OK},
		{plain(history...), 7, "x", true, api.OK},
		{plain(history...), 8, "x", true, api.OK},
		{plain(history...), 9, "", true, api.OK},
		{plain(history...), 19, "", true, api.OK},
		{plain(history...), 20, "z", true, api.OK},
		{plain(history...), api.MaxTime, "z", true, api.OK},
		{held(22, history...), 6, "", false, api.OK},
		{held(22, history...), 21, "z", true, api.OK},
		{held(22, history...), 22, "", false, api.ErrBusy},
		{held(22, history...), 23, "", false, api.ErrBusy},
		{held(22, history...), api.MaxTime, "", false, api.ErrBusy},
	} {
		value, is, e := row.Read(c.r, c.at)
		if value != c.value || is != c.is || e != c.e {
			t.Errorf("Read(%v, %d) = %q %v %v", c.r, c.at, value, is, e)
		}
	}
}

// P1.4

func TestStatus(t *testing.T) {
	r := held(9, api.Record{Start: 3, Commit: 7, Value: "x"}, api.Record{Start: 4}, api.Record{Start: 12})
	for _, c := range []struct{ start, status, commit int }{
		{1, api.Unknown, 0},
		{3, api.Committed, 7},
		{4, api.Undone, 0},
		{7, api.Unknown, 0},
		{9, api.Locked, 0},
		{12, api.Undone, 0},
		{api.MaxTime, api.Unknown, 0},
	} {
		status, commit, e := row.Status(r, c.start)
		if status != c.status || commit != c.commit || e != api.OK {
			t.Errorf("Status of %d: %d %d %v", c.start, status, commit, e)
		}
	}
}

// change is a call that changes a row: what it must return.
type change struct {
	name string
	got  api.Row
	e    api.Errno
	want api.Row
	code api.Errno
}

func judge(t *testing.T, l []change) {
	for _, c := range l {
		if c.e != c.code || !same(c.got, c.want) {
			t.Errorf("%s: %v %v, want %v %v", c.name, c.got, c.e, c.want, c.code)
		}
		if c.e == api.OK && row.Check(c.got) != api.OK {
			t.Errorf("%s: not valid: %v", c.name, c.got)
		}
	}
}

// P1.5

func TestLockFor(t *testing.T) {
	var l []change
	try := func(name string, r api.Row, start int, primary, value string, want api.Row, code api.Errno) {
		got, e := row.LockFor(r, start, primary, value)
		l = append(l, change{name, got, e, want, code})
	}
	none := api.Row{}
	old := api.Record{Start: 3, Commit: 7, Value: "o"}
	full := undone(10, api.MaxRecords)
	try("empty row", plain(), 5, "p", "x", held(5), api.OK)
	try("first time", plain(), 1, "p", "x", held(1), api.OK)
	try("last time", plain(), api.MaxTime, "p", "x", held(api.MaxTime), api.OK)
	try("longest", plain(), 5, longKey, longValue, api.Row{Key: "a", Lock: api.Lock{Start: 5, Primary: longKey}, Value: longValue}, api.OK)
	try("empty value", plain(), 5, "a", "", api.Row{Key: "a", Lock: api.Lock{Start: 5, Primary: "a"}}, api.OK)
	try("after a commit", plain(old), 7, "p", "x", held(7, old), api.OK)
	try("before an undone one", plain(old, api.Record{Start: 9}), 8, "p", "x", held(8, old, api.Record{Start: 9}), api.OK)
	try("last place", plain(full[1:]...), 5, "p", "x", held(5, full[1:]...), api.OK)
	try("no primary", plain(), 5, "", "x", none, api.ErrForm)
	try("long primary", plain(), 5, longKey+"z", "x", none, api.ErrForm)
	try("form before size", plain(), 5, "P", longValue+"v", none, api.ErrForm)
	try("form before gone", plain(api.Record{Start: 5}), 5, "P", "x", none, api.ErrForm)
	try("long value", plain(), 5, "p", longValue+"v", none, api.ErrSize)
	try("size before gone", plain(api.Record{Start: 5}), 5, "p", longValue+"v", none, api.ErrSize)
	try("size before late", plain(old), 5, "p", longValue+"v", none, api.ErrSize)
	try("size before busy", held(9), 5, "p", longValue+"v", none, api.ErrSize)
	try("gone", plain(api.Record{Start: 5}), 5, "p", "x", none, api.ErrGone)
	try("gone before late", plain(old, api.Record{Start: 5}), 5, "p", "x", none, api.ErrGone)
	try("gone before busy", held(9, api.Record{Start: 5}), 5, "p", "x", none, api.ErrGone)
	try("gone before full", plain(full...), 10, "p", "x", none, api.ErrGone)
	try("late", plain(old), 5, "p", "x", none, api.ErrLate)
	try("just late", plain(old), 6, "p", "x", none, api.ErrLate)
	try("late before the start of the other", plain(old), 1, "p", "x", none, api.ErrLate)
	try("committed itself", plain(old), 3, "p", "x", none, api.ErrLate)
	try("late, an undone one last", plain(old, api.Record{Start: 8}), 5, "p", "x", none, api.ErrLate)
	try("late before busy", held(9, old), 5, "p", "x", none, api.ErrLate)
	try("late before full", plain(append([]api.Record{old}, full[1:]...)...), 5, "p", "x", none, api.ErrLate)
	try("busy, lock of an earlier one", held(9), 10, "p", "x", none, api.ErrBusy)
	try("busy, lock of a later one", held(9), 8, "p", "x", none, api.ErrBusy)
	try("busy, its own lock", held(9), 9, "p", "x", none, api.ErrBusy)
	try("busy before full", held(9, full[1:]...), 8, "p", "x", none, api.ErrBusy)
	try("full", plain(full...), 5, "p", "x", none, api.ErrSize)
	judge(t, l)
}

// P1.6

func TestCommit(t *testing.T) {
	var l []change
	try := func(name string, r api.Row, start, commit int, want api.Row, code api.Errno) {
		got, e := row.Commit(r, start, commit)
		l = append(l, change{name, got, e, want, code})
	}
	none := api.Row{}
	old := api.Record{Start: 3, Commit: 7, Value: "o"}
	full := undone(10, api.MaxRecords-1)
	done := api.Record{Start: 9, Commit: 20, Value: "x"}
	try("only record", held(9), 9, 20, plain(done), api.OK)
	try("last record", held(9, old, api.Record{Start: 8}), 9, 20, plain(old, api.Record{Start: 8}, done), api.OK)
	try("record in between", held(9, old, api.Record{Start: 11}), 9, 20, plain(old, done, api.Record{Start: 11}), api.OK)
	try("first record", held(9, full...), 9, 20, plain(append([]api.Record{done}, full...)...), api.OK)
	try("next time", held(9), 9, 10, plain(api.Record{Start: 9, Commit: 10, Value: "x"}), api.OK)
	try("last time", held(9), 9, api.MaxTime, plain(api.Record{Start: 9, Commit: api.MaxTime, Value: "x"}), api.OK)
	try("commit at start", held(9), 9, 9, none, api.ErrRange)
	try("commit before start", held(9), 9, 8, none, api.ErrRange)
	try("negative commit", held(9), 9, -1<<63, none, api.ErrRange)
	try("commit beyond the last time", held(9), 9, api.MaxTime+1, none, api.ErrRange)
	try("start is the last time", held(api.MaxTime), api.MaxTime, api.MaxTime, none, api.ErrRange)
	try("range before gone", plain(api.Record{Start: 9}), 9, 9, none, api.ErrRange)
	try("range before none", plain(), 9, 9, none, api.ErrRange)
	try("gone", plain(api.Record{Start: 9}), 9, 20, none, api.ErrGone)
	try("gone, another one has the lock", held(12, api.Record{Start: 9}), 9, 20, none, api.ErrGone)
	try("no lock", plain(), 9, 20, none, api.ErrNone)
	try("lock of an earlier one", held(8), 9, 20, none, api.ErrNone)
	try("lock of a later one", held(12), 9, 20, none, api.ErrNone)
	try("committed before", plain(old), 3, 7, none, api.ErrNone)
	judge(t, l)
}

// P1.7

func TestUndo(t *testing.T) {
	var l []change
	try := func(name string, r api.Row, start int, want api.Row, code api.Errno) {
		got, e := row.Undo(r, start)
		l = append(l, change{name, got, e, want, code})
	}
	none := api.Row{}
	old := api.Record{Start: 3, Commit: 7, Value: "o"}
	gone := api.Record{Start: 5}
	full := undone(10, api.MaxRecords)
	try("empty row", plain(), 5, plain(gone), api.OK)
	try("last record", plain(old), 5, plain(old, gone), api.OK)
	try("first record", plain(old), 1, plain(api.Record{Start: 1}, old), api.OK)
	try("record in between", plain(old, api.Record{Start: 8}), 5, plain(old, gone, api.Record{Start: 8}), api.OK)
	try("last time", plain(), api.MaxTime, plain(api.Record{Start: api.MaxTime}), api.OK)
	try("its lock", held(5), 5, plain(gone), api.OK)
	try("its lock, other records", held(9, old, api.Record{Start: 11}), 9, plain(old, api.Record{Start: 9}, api.Record{Start: 11}), api.OK)
	try("lock of another one", held(9, old), 5, held(9, old, gone), api.OK)
	try("lock of an earlier one", held(9, old), 12, held(9, old, api.Record{Start: 12}), api.OK)
	try("undone before", plain(gone), 5, plain(gone), api.OK)
	try("undone before, lock of another one", held(9, gone), 5, held(9, gone), api.OK)
	try("undone before, full", plain(full...), 10, plain(full...), api.OK)
	try("undone before, full with a lock", held(9, full[1:]...), 11, held(9, full[1:]...), api.OK)
	try("its lock, last place", held(10, full[1:]...), 10, plain(full...), api.OK)
	try("last place", plain(full[1:]...), 10, plain(full...), api.OK)
	try("last place beside a lock", held(9, full[2:]...), 11, held(9, full[1:]...), api.OK)
	try("committed", plain(old), 3, none, api.ErrState)
	try("committed, lock of another one", held(9, old), 3, none, api.ErrState)
	try("committed before full", plain(append([]api.Record{old}, full[1:]...)...), 3, none, api.ErrState)
	try("full", plain(full...), 5, none, api.ErrSize)
	try("full beside a lock", held(9, full[1:]...), 10, none, api.ErrSize)
	judge(t, l)
}
