package txn_test

import (
	"slices"
	"testing"

	"rickyard/api"
	"rickyard/txn"
)

// spare returns a list like l with unused capacity, which is filled with x.
func spare[T any](l []T, x T) []T {
	all := append(slices.Clone(l), x, x, x)
	return all[:len(l)]
}

// spacious returns a world like w of which all lists have unused capacity.
func spacious(w api.World) api.World {
	w.Rows = spare(w.Rows, plain("spare", done(-1, -1, "spare")))
	for i := range w.Rows {
		w.Rows[i].Records = spare(w.Rows[i].Records, done(-1, -1, "spare"))
	}
	w.Clients = spare(w.Clients, open(-1, "spare", "spare"))
	for i := range w.Clients {
		w.Clients[i].Writes = spare(w.Clients[i].Writes, api.Write{Key: "spare", Value: "spare"})
	}
	return w
}

// whole returns a world whose lists contain also the unused capacity of those of w.
func whole(w api.World) api.World {
	w.Rows = slices.Clone(w.Rows[:cap(w.Rows)])
	for i, r := range w.Rows {
		w.Rows[i].Records = slices.Clone(r.Records[:cap(r.Records)])
	}
	w.Clients = slices.Clone(w.Clients[:cap(w.Clients)])
	for i, c := range w.Clients {
		w.Clients[i].Writes = slices.Clone(c.Writes[:cap(c.Writes)])
	}
	return w
}

// scribble overwrites a list, including its unused capacity.
func scribble[T any](l []T, x T) {
	for i := range l[:cap(l)] {
		l[:cap(l)][i] = x
	}
}

// scribbleWorld overwrites all lists of a world.
func scribbleWorld(w api.World) {
	for _, r := range w.Rows[:cap(w.Rows)] {
		scribble(r.Records, done(-2, -2, "scribble"))
	}
	for _, c := range w.Clients[:cap(w.Clients)] {
		scribble(c.Writes, api.Write{Key: "scribble"})
	}
	scribble(w.Rows, plain("scribble"))
	scribble(w.Clients, api.Client{Phase: -2})
}

// busyWorld has clients of all Phases, and rows with and without locks.
func busyWorld() api.World {
	return world(9, rows(
		held("a", 3, "a", "x", done(1, 2, "o"), undone(4)), held("b", 3, "a", "y"), plain("c", done(5, 6, "c")), plain("d"),
		held("e", 7, "m", "w", undone(8)), held("f", 5, "c", "w")),
		idle, open(6, "d", "x", "g", "y"), locking(6, 1, "d", "x", "k", "y"), sealing(3, 4, "a", "x", "b", "y"), closing(5, 6, 1, "c", "c", "f", "w"))
}

// allActs calls f with actions of all kinds and all clients of busyWorld, and some that fail.
func allActs(f func(api.Act)) {
	for kind := api.Begin - 1; kind <= api.Resolve+1; kind++ {
		for c := range api.MaxClients {
			for _, key := range []string{"a", "b", "c", "d", "e", "f", "g", "h", "?"} {
				f(act(kind, c, key, "value"))
			}
		}
	}
}

// TestArgumentsStay: Check, Copy and Do do not modify their arguments, and results do not share them.
func TestArgumentsStay(t *testing.T) {
	w := spacious(busyWorld())
	before := whole(w)
	txn.Check(w)
	scribbleWorld(txn.Copy(w))
	if !same(whole(w), before) {
		t.Fatal("Copy modifies or returns its argument")
	}
	allActs(func(a api.Act) {
		got, _, _ := txn.Do(w, a)
		if !same(whole(w), before) {
			t.Fatalf("%+v modifies the argument", a)
		}
		scribbleWorld(got)
		if !same(whole(w), before) {
			t.Fatalf("%+v returns the memory of the argument", a)
		}
	})
}

// TestResultsStay: a result changes neither with the argument nor with another result.
func TestResultsStay(t *testing.T) {
	allActs(func(a api.Act) {
		w := spacious(busyWorld())
		first, _, _ := txn.Do(w, a)
		second, _, _ := txn.Do(w, a)
		want, _, _ := txn.Do(busyWorld(), a)
		scribbleWorld(w)
		scribbleWorld(second)
		if !same(first, want) {
			t.Fatalf("%+v: the result shares memory", a)
		}
	})
	w := spacious(busyWorld())
	got := txn.Copy(w)
	scribbleWorld(w)
	if !same(got, busyWorld()) {
		t.Error("Copy shares memory")
	}
}

// apart reports whether no two lists of a world share memory. It overwrites the world.
func apart(w api.World) bool {
	for i := range w.Rows {
		want := whole(w)
		want.Rows[i].Records = nil
		scribble(w.Rows[i].Records, done(-2, -2, "scribble"))
		got := whole(w)
		got.Rows[i].Records = nil
		if !same(got, want) {
			return false
		}
	}
	for i := range w.Clients {
		want := whole(w)
		want.Clients[i].Writes = nil
		scribble(w.Clients[i].Writes, api.Write{Key: "scribble"})
		got := whole(w)
		got.Clients[i].Writes = nil
		if !same(got, want) {
			return false
		}
	}
	return true
}

// TestListsApart: no two lists of one result share memory, even if those of the argument do.
func TestListsApart(t *testing.T) {
	w := spacious(busyWorld())
	w.Rows[3].Records = w.Rows[2].Records
	w.Rows[5].Records = w.Rows[1].Records
	w.Clients[2].Writes = w.Clients[1].Writes
	if txn.Check(w) != api.OK {
		t.Fatal("the test has an invalid world")
	}
	if !apart(txn.Copy(w)) {
		t.Error("Copy: lists share memory")
	}
	allActs(func(a api.Act) {
		if got, _, _ := txn.Do(w, a); !apart(got) {
			t.Fatalf("%+v: lists share memory", a)
		}
	})
}

// TestRunMemory: Run neither modifies its argument, nor do its results share memory.
func TestRunMemory(t *testing.T) {
	l := spare(append(twoRows(4), act(api.Begin, 1, "", ""), act(api.Put, 1, "c", "z")), act(-1, -1, "spare", ""))
	before := slices.Clone(l[:cap(l)])
	answers, w := run(t, 3, l)
	again, twin := run(t, 3, l)
	if !slices.Equal(l[:cap(l)], before) {
		t.Error("the argument is modified")
	}
	scribble(l, act(-2, -2, "scribble", ""))
	scribble(again, api.Answer{Code: -2})
	scribbleWorld(twin)
	wantAnswers, want := run(t, 3, before[:len(l)])
	if !slices.Equal(answers, wantAnswers) || !same(w, want) {
		t.Error("results share memory")
	}
	if !apart(w) {
		t.Error("lists share memory")
	}
}
