package txn_test

import (
	"fmt"
	"strconv"
	"strings"
	"testing"

	"rickyard/api"
	"rickyard/row"
	"rickyard/txn"
)

// The test of this file tries all that two clients may do with the rows a and b, in
// all orders, up to a last time, and checks what the document says of the whole.
// The Value of a write names all keys of its transaction, and its start: ab3.

const lastSmall = 4

func perform(t *testing.T, w api.World, a api.Act) (api.World, api.Answer) {
	next, answer, e := txn.Do(w, a)
	if e != api.OK || txn.Check(next) != api.OK || answer.Phase != next.Clients[a.C].Phase {
		t.Fatalf("%+v in %+v: %+v %+v %v", a, w, next, answer, e)
	}
	return next, answer
}

// beginSmall begins a transaction that writes to some keys.
func beginSmall(t *testing.T, w api.World, c int, keys string) api.World {
	w, answer := perform(t, w, act(api.Begin, c, "", ""))
	for _, key := range keys {
		w, _ = perform(t, w, act(api.Put, c, string(key), keys+strconv.Itoa(answer.Time)))
	}
	return w
}

// followers returns the worlds that one action makes of w.
func followers(t *testing.T, w api.World) []api.World {
	var l []api.World
	try := func(a api.Act) {
		next, answer := perform(t, w, a)
		if answer.Code != api.OK && answer.Phase == w.Clients[a.C].Phase && !same(next, w) {
			t.Fatalf("%+v in %+v: %v and %+v", a, w, answer.Code, next)
		}
		l = append(l, next)
	}
	for c, client := range w.Clients {
		if client.Phase != api.Idle {
			try(step(c))
			try(act(api.Drop, c, "", ""))
			continue
		}
		for _, keys := range []string{"", "a", "b", "ab"} {
			l = append(l, beginSmall(t, w, c, keys))
		}
	}
	try(act(api.Resolve, 0, "a", ""))
	try(act(api.Resolve, 1, "b", ""))
	return l
}

// statusIn returns the status of a transaction in a row that need not exist, and its Commit.
func statusIn(w api.World, key string, start int) (int, int) {
	for _, r := range w.Rows {
		if r.Key == key {
			status, commit, _ := row.Status(r, start)
			return status, commit
		}
	}
	return api.Unknown, 0
}

// split returns the keys and the start that a Value names.
func split(value string) (string, int) {
	keys := strings.TrimRight(value, "0123456789")
	start, _ := strconv.Atoi(value[len(keys):])
	return keys, start
}

// committed calls f with the key, for each key of each transaction that has a committed record somewhere.
func committed(w api.World, f func(key string, c api.Record)) {
	for _, r := range w.Rows {
		for _, c := range r.Records {
			keys, _ := split(c.Value)
			for _, key := range keys {
				f(string(key), c)
			}
		}
	}
}

// checkWhole: a transaction that is committed in a row is committed in its first row,
// and committed or locked in its other ones.
func checkWhole(t *testing.T, w api.World) {
	committed(w, func(key string, c api.Record) {
		status, commit := statusIn(w, key, c.Start)
		if commit != c.Commit && (key == c.Value[:1] || status != api.Locked) {
			t.Fatalf("transaction %d in row %s of %+v", c.Start, key, w)
		}
	})
}

// checkResolved: resolving all locks leaves none, and transactions that are committed in all rows or in none.
func checkResolved(t *testing.T, w api.World) {
	w, _ = perform(t, w, act(api.Resolve, 0, "a", ""))
	w, _ = perform(t, w, act(api.Resolve, 0, "b", ""))
	for _, r := range w.Rows {
		if r.Lock.Start != 0 {
			t.Fatalf("row %s of %+v is locked", r.Key, w)
		}
	}
	checkWhole(t, w)
}

// reads returns the answers to reading a and b, by key.
func reads(t *testing.T, w api.World, c int) map[string]api.Answer {
	l := map[string]api.Answer{}
	for _, key := range []string{"a", "b"} {
		next, answer := perform(t, w, act(api.Get, c, key, ""))
		if !same(next, w) {
			t.Fatalf("Get changes %+v to %+v", w, next)
		}
		l[key] = answer
	}
	return l
}

// checkReads: a client without writes reads, unless it has to wait, the last of
// what transactions have written that were committed up to its start.
func checkReads(t *testing.T, w api.World, c int) {
	seen := map[string]int{} // the Commit of what it reads
	answers := reads(t, w, c)
	for key, answer := range answers {
		_, start := split(answer.Value)
		if start != 0 {
			_, seen[key] = statusIn(w, key, start)
		}
		if answer.Is != (start != 0) || seen[key] > w.Clients[c].Start {
			t.Fatalf("client %d reads %v in %+v", c, answer, w)
		}
	}
	committed(w, func(key string, r api.Record) {
		if r.Commit <= w.Clients[c].Start && answers[key].Code == api.OK && seen[key] < r.Commit {
			t.Fatalf("client %d does not see transaction %d in row %s of %+v", c, r.Start, key, w)
		}
	})
}

// small is a world, with the answers that its open clients have got on the way to it.
type small struct {
	w    api.World
	seen [2]map[string]api.Answer
}

// look reads as all open clients. What a client has read does not change while it is
// open, but it may have to wait for it.
func look(t *testing.T, before small, w api.World) small {
	after := small{w: w}
	for c, client := range w.Clients {
		after.seen[c] = map[string]api.Answer{}
		if client.Phase != api.Open {
			continue
		}
		if len(client.Writes) == 0 {
			checkReads(t, w, c)
		}
		for key, answer := range reads(t, w, c) {
			old, is := before.seen[c][key]
			if is && answer.Code == api.OK && answer != old {
				t.Fatalf("client %d has read %v and reads %v in %+v", c, old, answer, w)
			}
			if !is && answer.Code == api.OK {
				old, is = answer, true
			}
			if is {
				after.seen[c][key] = old
			}
		}
	}
	return after
}

// TestSmall: a transaction is committed in all its rows or in none, depending on its
// first row; and a transaction reads the state at its start.
func TestSmall(t *testing.T) {
	begin := small{w: world(0, nil, idle, idle)}
	known := map[string]bool{}
	for work := []small{begin}; len(work) > 0; {
		now := work[len(work)-1]
		work = work[:len(work)-1]
		checkWhole(t, now.w)
		checkResolved(t, now.w)
		for _, w := range followers(t, now.w) {
			if w.Clock > lastSmall {
				continue
			}
			next := look(t, now, w)
			if name := fmt.Sprint(next); !known[name] {
				known[name] = true
				work = append(work, next)
			}
		}
	}
	t.Logf("%d worlds", len(known))
	if len(known) < 1000 {
		t.Errorf("only %d worlds", len(known))
	}
}
