package txn_test

import (
	"slices"
	"strings"
	"testing"

	"rickyard/api"
	"rickyard/txn"
)

const lastClock = api.MaxTime - api.MaxActs

var longest = strings.Repeat("v", api.MaxValue)

func sameRow(a, b api.Row) bool {
	return a.Key == b.Key && a.Lock == b.Lock && a.Value == b.Value && slices.Equal(a.Records, b.Records)
}

func sameClient(a, b api.Client) bool {
	return a.Phase == b.Phase && a.Start == b.Start && a.Commit == b.Commit && a.At == b.At && slices.Equal(a.Writes, b.Writes)
}

// same compares two worlds; a list without elements may be nil or not.
func same(a, b api.World) bool {
	return a.Clock == b.Clock && slices.EqualFunc(a.Rows, b.Rows, sameRow) && slices.EqualFunc(a.Clients, b.Clients, sameClient)
}

func writes(pairs ...string) []api.Write {
	var l []api.Write
	for i := 0; i < len(pairs); i += 2 {
		l = append(l, api.Write{Key: pairs[i], Value: pairs[i+1]})
	}
	return l
}

func open(start int, pairs ...string) api.Client {
	return api.Client{Phase: api.Open, Start: start, Writes: writes(pairs...)}
}

func locking(start, at int, pairs ...string) api.Client {
	return api.Client{Phase: api.Locking, Start: start, At: at, Writes: writes(pairs...)}
}

func sealing(start, commit int, pairs ...string) api.Client {
	return api.Client{Phase: api.Sealing, Start: start, Commit: commit, Writes: writes(pairs...)}
}

func closing(start, commit, at int, pairs ...string) api.Client {
	return api.Client{Phase: api.Closing, Start: start, Commit: commit, At: at, Writes: writes(pairs...)}
}

// plain is a row without a lock.
func plain(key string, l ...api.Record) api.Row {
	return api.Row{Key: key, Records: l}
}

// held is a row with a lock.
func held(key string, start int, primary, value string, l ...api.Record) api.Row {
	return api.Row{Key: key, Lock: api.Lock{Start: start, Primary: primary}, Value: value, Records: l}
}

func done(start, commit int, value string) api.Record {
	return api.Record{Start: start, Commit: commit, Value: value}
}

func undone(start int) api.Record { return api.Record{Start: start} }

// undoneAll returns n records of undone transactions, from a start on.
func undoneAll(from, n int) []api.Record {
	var l []api.Record
	for i := range n {
		l = append(l, undone(from+i))
	}
	return l
}

func rows(l ...api.Row) []api.Row { return l }

func world(clock int, l []api.Row, clients ...api.Client) api.World {
	return api.World{Clock: clock, Rows: l, Clients: clients}
}

// manyRows returns n rows whose keys are after z.
func manyRows(n int) []api.Row {
	var l []api.Row
	for i := range n {
		l = append(l, plain("z"+string(rune('a'+i/26))+string(rune('a'+i%26))))
	}
	return l
}

// change is an action, with what becomes of the world and the answer to it.
type change struct {
	name   string
	w      api.World
	a      api.Act
	want   api.World
	answer api.Answer
}

// judge performs changes. None of them has an error of Do.
func judge(t *testing.T, l []change) {
	t.Helper()
	for _, c := range l {
		if txn.Check(c.w) != api.OK || txn.Check(c.want) != api.OK {
			t.Fatalf("%s: the test has an invalid world", c.name)
		}
		got, answer, e := txn.Do(c.w, c.a)
		if e != api.OK {
			t.Errorf("%s: error %v", c.name, e)
		}
		if answer != c.answer {
			t.Errorf("%s: answer %+v, want %+v", c.name, answer, c.answer)
		}
		if !same(got, c.want) {
			t.Errorf("%s: world\n%+v, want\n%+v", c.name, got, c.want)
		}
	}
}

// refused is a change that changes nothing.
func refused(name string, w api.World, a api.Act, code api.Errno) change {
	return change{name, w, a, w, api.Answer{Code: code, Phase: w.Clients[a.C].Phase}}
}
