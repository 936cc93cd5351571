package txn_test

import (
	"math/rand"
	"slices"
	"testing"

	"rickyard/api"
	"rickyard/row"
	"rickyard/txn"
)

// The test of this file performs actions in valid worlds, most of which no script
// leads to, and checks what holds for all actions.

var fewKeys = []string{"a", "b", "c", "d"}

func randomRow(r *rand.Rand, key string) api.Row {
	out := plain(key)
	for range r.Intn(5) {
		start := 1 + r.Intn(9)
		next, e := row.LockFor(out, start, fewKeys[r.Intn(4)], "v")
		if e == api.OK && r.Intn(3) > 0 {
			next, e = row.Commit(next, start, start+1+r.Intn(9-start+1))
		} else if e == api.OK && r.Intn(3) > 0 {
			next, e = row.Undo(next, start)
		}
		if e == api.OK {
			out = next
		}
	}
	return out
}

func randomClient(r *rand.Rand) api.Client {
	c := api.Client{Phase: r.Intn(5), Start: 1 + r.Intn(9), At: r.Intn(4)}
	if c.Phase >= api.Sealing {
		c.Commit = 1 + r.Intn(10)
	}
	if c.Phase == api.Idle {
		return api.Client{}
	}
	for _, key := range fewKeys {
		if r.Intn(2) == 0 {
			c.Writes = append(c.Writes, api.Write{Key: key, Value: "w"})
		}
	}
	return c
}

func randomWorld(r *rand.Rand) api.World {
	w := world(10, nil, randomClient(r), randomClient(r))
	for _, key := range fewKeys {
		if r.Intn(4) > 0 {
			w.Rows = append(w.Rows, randomRow(r, key))
		}
	}
	return w
}

// checkKept: rows and records never vanish, and a lock only gives way to a record.
func checkKept(t *testing.T, a api.Act, w, next api.World) {
	for _, old := range w.Rows {
		i := slices.IndexFunc(next.Rows, func(r api.Row) bool { return r.Key == old.Key })
		if i < 0 {
			t.Fatalf("%+v: row %s vanishes from %+v", a, old.Key, w)
		}
		for _, c := range old.Records {
			if !slices.Contains(next.Rows[i].Records, c) {
				t.Fatalf("%+v: record %v vanishes from %+v", a, c, w)
			}
		}
		if old.Lock.Start != 0 && next.Rows[i].Lock != old.Lock {
			if status, _ := statusIn(next, old.Key, old.Lock.Start); status != api.Committed && status != api.Undone {
				t.Fatalf("%+v: lock of %s vanishes from %+v", a, old.Key, w)
			}
		}
	}
}

// checkAct: an action changes no other client, and the Clock only by a tick that it
// returns; a Code other than OK changes nothing, unless it ends a step in another Phase.
func checkAct(t *testing.T, a api.Act, w api.World) {
	next, answer := perform(t, w, a)
	checkKept(t, a, w, next)
	if answer.Code != api.OK && (a.Kind != api.Step || w.Clients[a.C].Phase == answer.Phase) && !same(next, w) {
		t.Fatalf("%+v: %v changes %+v to %+v", a, answer.Code, w, next)
	}
	if !sameClient(w.Clients[1-a.C], next.Clients[1-a.C]) {
		t.Fatalf("%+v changes another client of %+v to %+v", a, w, next)
	}
	if answer.Time != 0 && answer.Time != w.Clock+1 || answer.Time == 0 && next.Clock != w.Clock || answer.Time != 0 && next.Clock != answer.Time {
		t.Fatalf("%+v: clock of %+v becomes %d, answer %+v", a, w, next.Clock, answer)
	}
}

func TestRandomWorlds(t *testing.T) {
	r := rand.New(rand.NewSource(1))
	valid := 0
	for range 20000 {
		w := randomWorld(r)
		if txn.Check(w) != api.OK {
			continue
		}
		valid++
		for kind := api.Begin; kind <= api.Resolve; kind++ {
			checkAct(t, act(kind, r.Intn(2), fewKeys[r.Intn(4)], "x"), w)
		}
	}
	t.Logf("%d valid worlds", valid)
	if valid < 1000 {
		t.Errorf("only %d valid worlds", valid)
	}
}
