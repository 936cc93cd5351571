package txn_test

import (
	"testing"

	"rickyard/api"
)

func step(c int) api.Act { return api.Act{Kind: api.Step, C: c} }

// steps is a change by a step of client 0, with a Code and a Time.
func steps(name string, before, after api.World, code api.Errno, time int) change {
	return change{name, before, step(0), after, api.Answer{Code: code, Phase: after.Clients[0].Phase, Time: time}}
}

var idle = api.Client{}

// TestStepOpen: steps of clients that are Idle or Open (P2.4).
func TestStepOpen(t *testing.T) {
	old := plain("b", done(1, 2, "o"))
	judge(t, []change{
		refused("idle", world(9, rows(old), idle, open(3, "a", "x")), step(0), api.ErrState),
		refused("idle, second", world(9, rows(old), open(3, "a", "x"), idle), step(1), api.ErrState),
		steps("nothing to commit", world(9, rows(old), open(3)), world(9, rows(old), idle), api.OK, 0),
		steps("row is there", world(9, rows(old), open(3, "b", "x", "c", "y")),
			world(9, rows(held("b", 3, "b", "x", done(1, 2, "o"))), locking(3, 1, "b", "x", "c", "y")), api.OK, 0),
		steps("row is not there", world(9, rows(old), open(3, "a", "x")),
			world(9, rows(held("a", 3, "a", "x"), old), locking(3, 1, "a", "x")), api.OK, 0),
		steps("no rows", world(3, nil, open(3, "a", longest)), world(3, rows(held("a", 3, "a", longest)), locking(3, 1, "a", longest)), api.OK, 0),
		steps("last row", world(9, manyRows(api.MaxRows-1), open(3, "a", "x")),
			world(9, append(rows(held("a", 3, "a", "x")), manyRows(api.MaxRows-1)...), locking(3, 1, "a", "x")), api.OK, 0),
		steps("too many rows", world(9, manyRows(api.MaxRows), open(3, "a", "x")), world(9, manyRows(api.MaxRows), idle), api.ErrSize, 0),
		steps("busy", world(9, rows(held("b", 2, "a", "z")), open(3, "b", "x")), world(9, rows(held("b", 2, "a", "z")), locking(3, 0, "b", "x")), api.ErrBusy, 0),
		steps("late", world(9, rows(plain("b", done(1, 4, "o"))), open(3, "b", "x")), world(9, rows(plain("b", done(1, 4, "o"))), idle), api.ErrLate, 0),
		steps("gone", world(9, rows(plain("b", undone(3))), open(3, "b", "x")), world(9, rows(plain("b", undone(3))), idle), api.ErrGone, 0),
		steps("too many records", world(200, rows(plain("b", undoneAll(4, api.MaxRecords)...)), open(3, "b", "x")),
			world(200, rows(plain("b", undoneAll(4, api.MaxRecords)...)), idle), api.ErrSize, 0),
	})
}

// TestStepLocking: locks after the first one (P2.4).
func TestStepLocking(t *testing.T) {
	l := []string{"b", "x", "d", "y", "f", "z"}
	b, d, f := held("b", 3, "b", "x"), held("d", 3, "b", "y"), held("f", 3, "b", "z")
	busy := held("d", 8, "a", "w")
	judge(t, []change{
		steps("second", world(9, rows(b), locking(3, 1, l...)), world(9, rows(b, d), locking(3, 2, l...)), api.OK, 0),
		steps("third", world(9, rows(b, d, plain("e"), plain("f")), locking(3, 2, l...), open(4)),
			world(9, rows(b, d, plain("e"), f), locking(3, 3, l...), open(4)), api.OK, 0),
		steps("first, again", world(9, nil, locking(3, 0, l...)), world(9, rows(b), locking(3, 1, l...)), api.OK, 0),
		steps("busy", world(9, rows(b, busy), locking(3, 1, l...)), world(9, rows(b, busy), locking(3, 1, l...)), api.ErrBusy, 0),
		steps("own lock", world(9, rows(b, d), locking(3, 1, l...)), world(9, rows(b, d), locking(3, 1, l...)), api.ErrBusy, 0),
	})
}

// TestStepFails: a client that fails undoes its transaction where it has the lock, and nowhere else (P2.4).
func TestStepFails(t *testing.T) {
	l := []string{"b", "x", "d", "y", "f", "z"}
	b, d := held("b", 3, "b", "x"), held("d", 3, "b", "y")
	late, gone := plain("f", done(4, 5, "o")), plain("f", undone(3))
	freed := func(key string) api.Row { return plain(key, undone(3)) }
	other := held("d", 8, "a", "w")
	judge(t, []change{
		steps("late", world(9, rows(b, d, late), locking(3, 2, l...)), world(9, rows(freed("b"), freed("d"), late), idle), api.ErrLate, 0),
		steps("gone", world(9, rows(b, d, gone), locking(3, 2, l...)), world(9, rows(freed("b"), freed("d"), gone), idle), api.ErrGone, 0),
		steps("lock of another", world(9, rows(b, other, late), locking(3, 2, l...)), world(9, rows(freed("b"), other, late), idle), api.ErrLate, 0),
		steps("rows missing", world(9, rows(late), locking(3, 2, l...)), world(9, rows(late), idle), api.ErrLate, 0),
		steps("rows without locks", world(9, rows(plain("b"), plain("d"), late), locking(3, 2, l...)), world(9, rows(plain("b"), plain("d"), late), idle), api.ErrLate, 0),
		steps("lock of a later write", world(9, rows(plain("b", done(4, 5, "o")), d), open(3, l...)),
			world(9, rows(plain("b", done(4, 5, "o")), freed("d")), idle), api.ErrLate, 0),
		steps("rows of others stay", world(9, rows(b, held("c", 3, "b", "x"), late), locking(3, 2, l...), open(3, "c", "")),
			world(9, rows(freed("b"), held("c", 3, "b", "x"), late), idle, open(3, "c", "")), api.ErrLate, 0),
		steps("too many rows", world(9, append(rows(b, d), manyRows(api.MaxRows-2)...), locking(3, 2, l...)),
			world(9, append(rows(freed("b"), freed("d")), manyRows(api.MaxRows-2)...), idle), api.ErrSize, 0),
		steps("full row with a lock", world(200, rows(held("b", 3, "b", "x", undoneAll(4, api.MaxRecords-1)...), plain("f", done(4, 5, "o"))), locking(3, 2, l...)),
			world(200, rows(plain("b", undoneAll(3, api.MaxRecords)...), plain("f", done(4, 5, "o"))), idle), api.ErrLate, 0),
	})
}

// TestStepSeals: the commit time (P2.5).
func TestStepSeals(t *testing.T) {
	b, d := held("b", 3, "b", "x"), held("d", 3, "b", "y")
	judge(t, []change{
		steps("two rows", world(9, rows(b, d), locking(3, 2, "b", "x", "d", "y"), open(5)),
			world(10, rows(b, d), sealing(3, 10, "b", "x", "d", "y"), open(5)), api.OK, 10),
		steps("one row", world(3, rows(b), locking(3, 1, "b", "x")), world(4, rows(b), sealing(3, 4, "b", "x")), api.OK, 4),
		steps("locks are gone", world(9, nil, locking(3, 1, "b", "x")), world(10, nil, sealing(3, 10, "b", "x")), api.OK, 10),
		steps("last time", world(lastClock-1, rows(b), locking(3, 1, "b", "x")), world(lastClock, rows(b), sealing(3, lastClock, "b", "x")), api.OK, lastClock),
	})
}

// TestStepCommits: the commit of the first row (P2.5).
func TestStepCommits(t *testing.T) {
	l := []string{"b", "x", "d", "y"}
	b, d := held("b", 3, "b", "x", undone(2), undone(4)), held("d", 3, "b", "y")
	kept := plain("b", undone(2), done(3, 7, "x"), undone(4))
	freed := plain("d", undone(3))
	full := manyRows(api.MaxRows)
	judge(t, []change{
		steps("first of two", world(9, rows(b, d), sealing(3, 7, l...)), world(9, rows(kept, d), closing(3, 7, 1, l...)), api.OK, 0),
		steps("only one", world(9, rows(b), sealing(3, 7, "b", "x")), world(9, rows(kept), idle), api.OK, 0),
		steps("value of the lock", world(9, rows(b), sealing(3, 7, "b", "other")), world(9, rows(kept), idle), api.OK, 0),
		steps("undone", world(9, rows(plain("b", undone(3)), d), sealing(3, 7, l...)), world(9, rows(plain("b", undone(3)), freed), idle), api.ErrGone, 0),
		steps("no lock", world(9, rows(plain("b"), d), sealing(3, 7, l...)), world(9, rows(plain("b"), freed), idle), api.ErrGone, 0),
		steps("lock of another", world(9, rows(held("b", 4, "b", "z"), d), sealing(3, 7, l...)), world(9, rows(held("b", 4, "b", "z"), freed), idle), api.ErrGone, 0),
		steps("no row", world(9, rows(d), sealing(3, 7, l...)), world(9, rows(freed), idle), api.ErrGone, 0),
		steps("no rows at all", world(9, nil, sealing(3, 7, l...)), world(9, nil, idle), api.ErrGone, 0),
		steps("no row, most rows", world(9, full, sealing(3, 7, l...)), world(9, full, idle), api.ErrGone, 0),
		steps("committed already", world(9, rows(plain("b", done(3, 6, "x"))), sealing(3, 7, l...)), world(9, rows(plain("b", done(3, 6, "x"))), idle), api.ErrGone, 0),
	})
}

// TestStepCloses: the commit of the other rows (P2.5).
func TestStepCloses(t *testing.T) {
	l := []string{"b", "x", "d", "y", "f", "z"}
	b, d, f := plain("b", done(3, 7, "x")), held("d", 3, "b", "y"), held("f", 3, "b", "z")
	full := manyRows(api.MaxRows)
	judge(t, []change{
		steps("second", world(9, rows(b, d, f), closing(3, 7, 1, l...)), world(9, rows(b, plain("d", done(3, 7, "y")), f), closing(3, 7, 2, l...)), api.OK, 0),
		steps("last", world(9, rows(b, d, f), closing(3, 7, 2, l...)), world(9, rows(b, d, plain("f", done(3, 7, "z"))), idle), api.OK, 0),
		steps("resolved", world(9, rows(b, plain("d", done(3, 7, "y")), f), closing(3, 7, 1, l...)),
			world(9, rows(b, plain("d", done(3, 7, "y")), f), closing(3, 7, 2, l...)), api.OK, 0),
		steps("undone", world(9, rows(plain("d", undone(3))), closing(3, 7, 1, l...)), world(9, rows(plain("d", undone(3))), closing(3, 7, 2, l...)), api.OK, 0),
		steps("lock of another", world(9, rows(held("d", 7, "d", "o")), closing(3, 7, 1, l...)), world(9, rows(held("d", 7, "d", "o")), closing(3, 7, 2, l...)), api.OK, 0),
		steps("no row", world(9, rows(b), closing(3, 7, 1, l...)), world(9, rows(b), closing(3, 7, 2, l...)), api.OK, 0),
		steps("no row, last", world(9, rows(b), closing(3, 7, 2, l...)), world(9, rows(b), idle), api.OK, 0),
		steps("no row, most rows", world(9, full, closing(3, 7, 1, l...)), world(9, full, closing(3, 7, 2, l...)), api.OK, 0),
	})
}

// resolves is a change by client 1, who resolves the lock of row d.
func resolves(name string, before, after []api.Row) change {
	a := api.Act{Kind: api.Resolve, C: 1, Key: "d", Value: "no"}
	return change{name, world(200, before, sealing(3, 7, "b", "x", "d", "y"), open(5, "d", "z")), a,
		world(200, after, sealing(3, 7, "b", "x", "d", "y"), open(5, "d", "z")), api.Answer{Phase: api.Open}}
}

// TestResolve: P2.6.
func TestResolve(t *testing.T) {
	d, kept, freed := held("d", 3, "b", "y", undone(4)), plain("d", done(3, 6, "y"), undone(4)), plain("d", undone(3), undone(4))
	most := manyRows(api.MaxRows - 2)
	judge(t, []change{
		resolves("committed", rows(plain("b", done(3, 6, "x")), d), rows(plain("b", done(3, 6, "x")), kept)),
		resolves("committed, later locked", rows(held("b", 8, "b", "w", done(3, 6, "x")), d), rows(held("b", 8, "b", "w", done(3, 6, "x")), kept)),
		resolves("primary is locked", rows(held("b", 3, "b", "x"), d), rows(plain("b", undone(3)), freed)),
		resolves("primary is undone", rows(plain("b", undone(3)), d), rows(plain("b", undone(3)), freed)),
		resolves("primary without it", rows(plain("b", done(1, 2, "o"), done(5, 6, "o")), d), rows(plain("b", done(1, 2, "o"), undone(3), done(5, 6, "o")), freed)),
		resolves("primary locked by another", rows(held("b", 5, "b", "x"), d), rows(held("b", 5, "b", "x", undone(3)), freed)),
		resolves("primary is missing", rows(plain("a"), d), rows(plain("a"), plain("b", undone(3)), freed)),
		resolves("primary is missing, after", rows(held("d", 3, "e", "y")), rows(plain("d", undone(3)), plain("e", undone(3)))),
		resolves("last row", append(rows(plain("c"), d), most[1:]...), append(rows(plain("b", undone(3)), plain("c"), freed), most[1:]...)),
		resolves("the primary itself", rows(held("d", 3, "d", "y", done(1, 2, "o"))), rows(plain("d", done(1, 2, "o"), undone(3)))),
		resolves("full primary itself", rows(held("d", 3, "d", "y", undoneAll(4, api.MaxRecords-1)...)), rows(plain("d", undoneAll(3, api.MaxRecords)...))),
		resolves("full, committed", rows(plain("b", append(records(done(3, 6, "x")), undoneAll(7, api.MaxRecords-1)...)...), held("d", 3, "b", "y", undoneAll(4, api.MaxRecords-1)...)),
			rows(plain("b", append(records(done(3, 6, "x")), undoneAll(7, api.MaxRecords-1)...)...), plain("d", append(records(done(3, 6, "y")), undoneAll(4, api.MaxRecords-1)...)...))),
		resolves("full, undone", rows(plain("b", undoneAll(3, api.MaxRecords)...), d), rows(plain("b", undoneAll(3, api.MaxRecords)...), freed)),
		resolves("full, locked", rows(held("b", 3, "b", "x", undoneAll(4, api.MaxRecords-1)...), d), rows(plain("b", undoneAll(3, api.MaxRecords)...), freed)),
		resolves("nearly full", rows(plain("b", undoneAll(4, api.MaxRecords-1)...), d), rows(plain("b", undoneAll(3, api.MaxRecords)...), freed)),
		resolves("other locks stay", rows(held("b", 3, "b", "x"), d, held("e", 3, "b", "z")), rows(plain("b", undone(3)), freed, held("e", 3, "b", "z"))),
	})
}

func records(l ...api.Record) []api.Record { return l }

// TestResolveErrors: P2.6; with an error nothing changes.
func TestResolveErrors(t *testing.T) {
	l := rows(plain("a", done(1, 2, "x")), held("b", 3, "a", "y"), held("c", 3, "x", "y"))
	full := rows(plain("a", undoneAll(4, api.MaxRecords)...), held("b", 3, "a", "y"))
	nearly := rows(held("a", 150, "a", "x", undoneAll(4, api.MaxRecords-1)...), held("b", 3, "a", "y"))
	most := append(rows(held("c", 3, "x", "y")), manyRows(api.MaxRows-1)...)
	for _, c := range append(phases(), idle) {
		w := world(200, l, idle, c)
		resolve := func(key string) api.Act { return api.Act{Kind: api.Resolve, C: 1, Key: key} }
		judge(t, []change{
			refused("no key", w, resolve(""), api.ErrForm),
			refused("bad key", w, resolve("B"), api.ErrForm),
			refused("long key", w, resolve("bbbbbbb"), api.ErrForm),
			refused("no row", w, resolve("d"), api.ErrNone),
			refused("no lock", w, resolve("a"), api.ErrNone),
			refused("full primary", world(200, full, idle, c), resolve("b"), api.ErrSize),
			refused("full primary with a lock", world(200, nearly, idle, c), resolve("b"), api.ErrSize),
			refused("too many rows", world(200, most, idle, c), resolve("c"), api.ErrSize),
		})
		l := rows(plain("a", undone(3)), plain("b", undone(3)))
		judge(t, []change{{"any phase", world(9, rows(plain("a"), held("b", 3, "a", "y")), idle, c), resolve("b"), world(9, l, idle, c), api.Answer{Phase: c.Phase}}})
	}
}
