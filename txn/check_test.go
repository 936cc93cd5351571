package txn_test

import (
	"math"
	"testing"

	"rickyard/api"
	"rickyard/txn"
)

// TestCheckValid: worlds that are valid, most of them just (P2.1).
func TestCheckValid(t *testing.T) {
	six := []string{"a", "", "b", longest, "c", "", "d", "", "e", "", "zzzzzz", ""}
	for name, w := range map[string]api.World{
		"empty":                {},
		"empty lists":          {Rows: []api.Row{}, Clients: []api.Client{{Writes: []api.Write{}}}},
		"last clock":           world(lastClock, nil, open(lastClock)),
		"most rows":            world(0, manyRows(api.MaxRows)),
		"most clients":         {Clients: make([]api.Client, api.MaxClients)},
		"lock at the clock":    world(7, rows(held("a", 7, "b", "x", done(1, 7, "")))),
		"record at the clock":  world(7, rows(plain("a", undone(7)))),
		"clients at the clock": world(7, nil, open(7), locking(7, 0, "a", ""), sealing(6, 7, "a", ""), closing(6, 7, 1, "a", "", "b", "")),
		"open":                 world(1, nil, open(1, six...)),
		"open without writes":  world(1, nil, open(1)),
		"locking none":         world(1, nil, locking(1, 0, six...)),
		"locking all":          world(1, nil, locking(1, 6, six...)),
		"sealing":              world(2, nil, sealing(1, 2, six...)),
		"closing first":        world(2, nil, closing(1, 2, 1, six...)),
		"closing last":         world(2, nil, closing(1, 2, 5, six...)),
		"one start":            world(3, rows(held("a", 3, "b", "")), open(3), locking(3, 1, "a", "")),
		"prefixes as keys":     world(1, rows(plain("a"), plain("aa"), plain("ab"), plain("b")), open(1, "a", "", "aa", "")),
	} {
		if e := txn.Check(w); e != api.OK {
			t.Errorf("%s: %v", name, e)
		}
	}
}

// TestCheckRows: invalid rows and clocks (P2.1).
func TestCheckRows(t *testing.T) {
	for name, w := range map[string]api.World{
		"clock below 0":         world(-1, nil),
		"least clock":           world(math.MinInt, nil),
		"clock beyond the last": world(lastClock+1, nil),
		"greatest clock":        world(math.MaxInt, nil),
		"too many rows":         world(0, manyRows(api.MaxRows+1)),
		"invalid key":           world(9, rows(plain("A"))),
		"invalid row":           world(9, rows(plain("a"), plain("b", done(3, 3, "")), plain("c"))),
		"equal keys":            world(9, rows(plain("a"), plain("b"), plain("b"))),
		"decreasing keys":       world(9, rows(plain("b"), plain("a"), plain("c"))),
		"late lock":             world(9, rows(held("a", 10, "a", ""))),
		"late start":            world(9, rows(plain("a", undone(8), undone(10)))),
		"late commit":           world(9, rows(plain("a"), plain("b", done(9, 10, "")))),
		"late commit before":    world(9, rows(plain("a", done(3, 10, ""), undone(4)))),
	} {
		if e := txn.Check(w); e != api.ErrState {
			t.Errorf("%s: %v", name, e)
		}
	}
}

// TestCheckClients: invalid clients (P2.1), each beside a valid one.
func TestCheckClients(t *testing.T) {
	seven := []string{"a", "", "b", "", "c", "", "d", "", "e", "", "f", "", "g", ""}
	for name, c := range map[string]api.Client{
		"idle with a start":      {Start: 1},
		"idle with a commit":     {Commit: 1},
		"idle with a write":      {Writes: writes("a", "")},
		"idle with an index":     {At: 1},
		"no phase below":         {Phase: -1, Start: 1},
		"no phase beyond":        {Phase: 5, Start: 1},
		"no phase, all zero":     {Phase: 5},
		"open without a start":   open(0),
		"open, start below 0":    open(-1),
		"open, late start":       open(10),
		"open, commit":           {Phase: api.Open, Start: 1, Commit: 2},
		"open, index":            {Phase: api.Open, Start: 1, At: 1, Writes: writes("a", "")},
		"open, too many writes":  open(1, seven...),
		"open, long value":       open(1, "a", longest+"v"),
		"open, empty key":        open(1, "", ""),
		"open, long key":         open(1, "aaaaaaa", ""),
		"open, bad key":          open(1, "a", "", "b1", ""),
		"open, equal keys":       open(1, "a", "", "b", "", "b", ""),
		"open, decreasing keys":  open(1, "b", "", "a", "", "c", ""),
		"locking nothing":        locking(1, 0),
		"locking below 0":        locking(1, -1, "a", ""),
		"locking beyond":         locking(1, 2, "a", ""),
		"locking without start":  locking(0, 0, "a", ""),
		"locking, late start":    locking(10, 0, "a", ""),
		"locking, commit":        {Phase: api.Locking, Start: 1, Commit: 2, Writes: writes("a", "")},
		"locking, too many":      locking(1, 0, seven...),
		"sealing nothing":        sealing(1, 2),
		"sealing, index":         {Phase: api.Sealing, Start: 1, Commit: 2, At: 1, Writes: writes("a", "")},
		"sealing, no commit":     sealing(1, 0, "a", ""),
		"sealing at its start":   sealing(2, 2, "a", ""),
		"sealing before":         sealing(3, 2, "a", ""),
		"sealing, late commit":   sealing(1, 10, "a", ""),
		"sealing, no start":      sealing(0, 2, "a", ""),
		"sealing, start below 0": sealing(-1, 2, "a", ""),
		"closing nothing":        closing(1, 2, 1),
		"closing one write":      closing(1, 2, 1, "a", ""),
		"closing none":           closing(1, 2, 0, "a", "", "b", ""),
		"closing, below 0":       closing(1, 2, -1, "a", "", "b", ""),
		"closing all":            closing(1, 2, 2, "a", "", "b", ""),
		"closing, no commit":     closing(1, 0, 1, "a", "", "b", ""),
		"closing at its start":   closing(2, 2, 1, "a", "", "b", ""),
		"closing, late commit":   closing(1, 10, 1, "a", "", "b", ""),
		"closing, no start":      closing(0, 2, 1, "a", "", "b", ""),
		"greatest start":         open(math.MaxInt),
		"greatest index":         locking(1, math.MaxInt, "a", ""),
	} {
		for _, w := range []api.World{world(9, nil, c), world(9, nil, c, open(1)), world(9, nil, open(1), c)} {
			if e := txn.Check(w); e != api.ErrState {
				t.Errorf("%s: %v", name, e)
			}
		}
	}
	if e := txn.Check(api.World{Clients: make([]api.Client, api.MaxClients+1)}); e != api.ErrState {
		t.Errorf("too many clients: %v", e)
	}
}

// TestCopyEqual: a copy is equal, also that of an invalid world (P2.1).
func TestCopyEqual(t *testing.T) {
	for name, w := range map[string]api.World{
		"empty":   {},
		"valid":   world(9, rows(held("a", 3, "b", "x", done(1, 2, "y"), undone(4)), plain("b")), closing(5, 6, 1, "a", "", "b", "x"), api.Client{}),
		"invalid": world(-5, rows(plain("", done(9, 1, "")), plain("")), api.Client{Phase: 9, Start: -1, Commit: -2, At: -3, Writes: writes("", "")}),
	} {
		if got := txn.Copy(w); !same(got, w) {
			t.Errorf("%s: %+v", name, got)
		}
	}
}
