package txn_test

import (
	"math"
	"testing"

	"rickyard/api"
	"rickyard/txn"
)

// phases returns a client of each Phase that is not Idle; their writes are to a and b.
func phases() []api.Client {
	l := []string{"a", "x", "b", "y"}
	return []api.Client{open(3, l...), locking(3, 1, l...), sealing(3, 4, l...), closing(3, 4, 1, l...)}
}

// checkError performs an action for which Do returns an error, and nothing else.
func checkError(t *testing.T, w api.World, a api.Act, want api.Errno) {
	t.Helper()
	got, answer, e := txn.Do(w, a)
	if e != want || answer != (api.Answer{}) || !same(got, api.World{}) {
		t.Errorf("%+v: %+v %+v %v, want %v", a, got, answer, e, want)
	}
}

// TestDoErrors: the errors of Do and their order (P2.2).
func TestDoErrors(t *testing.T) {
	bad := world(lastClock+1, nil)
	end := world(lastClock, rows(plain("a")), api.Client{}, open(1))
	early := world(0, nil, api.Client{}, api.Client{})
	for _, kind := range []int{0, -1, 7, math.MinInt, math.MaxInt} {
		for _, c := range []int{0, 1, 2, -1} {
			checkError(t, bad, api.Act{Kind: kind, C: c}, api.ErrState)
			checkError(t, end, api.Act{Kind: kind, C: c}, api.ErrKind)
			checkError(t, early, api.Act{Kind: kind, C: c}, api.ErrKind)
		}
	}
	for kind := api.Begin; kind <= api.Resolve; kind++ {
		for _, c := range []int{-1, 2, 5, math.MinInt, math.MaxInt} {
			checkError(t, bad, api.Act{Kind: kind, C: c}, api.ErrState)
			checkError(t, end, api.Act{Kind: kind, C: c}, api.ErrRange)
			checkError(t, early, api.Act{Kind: kind, C: c}, api.ErrRange)
		}
		for c := range 2 {
			checkError(t, end, api.Act{Kind: kind, C: c}, api.ErrSize)
			checkError(t, end, api.Act{Kind: kind, C: c, Key: "a"}, api.ErrSize)
		}
	}
	checkError(t, api.World{}, api.Act{Kind: api.Begin}, api.ErrRange)
}

// TestBegin: P2.2.
func TestBegin(t *testing.T) {
	a := api.Act{Kind: api.Begin}
	l := []change{
		{"first", world(0, nil, api.Client{}), a, world(1, nil, open(1)), api.Answer{Phase: api.Open, Time: 1}},
		{"second client", world(3, rows(plain("a")), open(2), api.Client{}, api.Client{}), api.Act{Kind: api.Begin, C: 1, Key: "?", Value: longest + "v"},
			world(4, rows(plain("a")), open(2), open(4), api.Client{}), api.Answer{Phase: api.Open, Time: 4}},
		{"last time", world(lastClock-1, nil, api.Client{}), a, world(lastClock, nil, open(lastClock)), api.Answer{Phase: api.Open, Time: lastClock}},
	}
	for _, c := range phases() {
		l = append(l, refused("not idle", world(9, nil, c, api.Client{}), a, api.ErrState))
	}
	judge(t, l)
}

// TestDrop: P2.2.
func TestDrop(t *testing.T) {
	a := api.Act{Kind: api.Drop, C: 1, Key: "?"}
	l := []change{refused("idle", world(9, rows(plain("a")), open(3), api.Client{}), a, api.ErrState)}
	left := rows(held("a", 3, "a", "x"), held("b", 3, "a", "y"))
	for _, c := range phases() {
		l = append(l, change{"not idle", world(9, left, open(5, "a", "z"), c), a, world(9, left, open(5, "a", "z"), api.Client{}), api.Answer{}})
	}
	judge(t, l)
}

// TestGet: P2.3.
func TestGet(t *testing.T) {
	w := world(9, rows(
		plain("a", done(1, 2, "one"), done(2, 5, "two"), done(5, 6, "three")),
		plain("b", done(5, 6, "later")),
		held("c", 5, "c", "locked", done(1, 2, "one")),
		held("d", 6, "c", "locked", done(1, 2, "one")),
		plain("e", done(1, 2, "")),
		plain("f", undone(1)),
		plain("g")), open(5, "b", "mine", "c", "", "h", "own"), open(5), open(4), open(1))
	for _, c := range []struct {
		client int
		key    string
		answer api.Answer
	}{
		{0, "a", api.Answer{Is: true, Value: "two"}},
		{0, "b", api.Answer{Is: true, Value: "mine"}},
		{0, "c", api.Answer{Is: true}},
		{0, "d", api.Answer{Is: true, Value: "one"}},
		{0, "e", api.Answer{Is: true}},
		{0, "f", api.Answer{}},
		{0, "g", api.Answer{}},
		{0, "h", api.Answer{Is: true, Value: "own"}},
		{0, "i", api.Answer{}},
		{0, "aa", api.Answer{}},
		{0, "zzzzzz", api.Answer{}},
		{0, "", api.Answer{Code: api.ErrForm}},
		{0, "zzzzzzz", api.Answer{Code: api.ErrForm}},
		{0, "A", api.Answer{Code: api.ErrForm}},
		{1, "b", api.Answer{}},
		{1, "c", api.Answer{Code: api.ErrBusy}},
		{1, "h", api.Answer{}},
		{2, "a", api.Answer{Is: true, Value: "one"}},
		{2, "c", api.Answer{Is: true, Value: "one"}},
		{3, "a", api.Answer{}},
	} {
		c.answer.Phase = api.Open
		judge(t, []change{{"get " + c.key, w, api.Act{Kind: api.Get, C: c.client, Key: c.key, Value: "no"}, w, c.answer}})
	}
}

// TestPut: P2.3.
func TestPut(t *testing.T) {
	r := rows(held("a", 1, "a", "x"), plain("b", done(2, 3, "y")))
	put := func(name string, before, after api.Client, key, value string) change {
		return change{name, world(9, r, open(2), before), api.Act{Kind: api.Put, C: 1, Key: key, Value: value},
			world(9, r, open(2), after), api.Answer{Phase: api.Open}}
	}
	six := []string{"b", "1", "c", "2", "d", "3", "e", "4", "f", "5", "g", "6"}
	judge(t, []change{
		put("first", open(3), open(3, "b", "x"), "b", "x"),
		put("before", open(3, "b", "x"), open(3, "a", "y", "b", "x"), "a", "y"),
		put("between", open(3, "b", "x", "c", "z"), open(3, "b", "x", "bb", "y", "c", "z"), "bb", "y"),
		put("after", open(3, "b", "x"), open(3, "b", "x", "zzzzzz", "y"), "zzzzzz", "y"),
		put("again", open(3, "b", "x", "c", "z"), open(3, "b", "y", "c", "z"), "b", "y"),
		put("empty value", open(3, "b", "x"), open(3, "b", ""), "b", ""),
		put("long value", open(3), open(3, "b", longest), "b", longest),
		put("sixth", open(3, six[2:]...), open(3, six...), "b", "1"),
		put("again, full", open(3, six...), open(3, append(six[:10:10], "g", longest)...), "g", longest),
		refused("long", world(9, r, open(3, six[:4]...)), api.Act{Kind: api.Put, Key: "b", Value: longest + "v"}, api.ErrSize),
		refused("long, new", world(9, r, open(3)), api.Act{Kind: api.Put, Key: "b", Value: longest + "v"}, api.ErrSize),
		refused("seventh", world(9, r, open(3, six...)), api.Act{Kind: api.Put, Key: "a", Value: "x"}, api.ErrSize),
		refused("seventh, last", world(9, r, open(3, six...)), api.Act{Kind: api.Put, Key: "h"}, api.ErrSize),
		refused("bad key", world(9, r, open(3)), api.Act{Kind: api.Put, Key: "b b", Value: "x"}, api.ErrForm),
		refused("bad key, long", world(9, r, open(3, six...)), api.Act{Kind: api.Put, Key: "aaaaaaa", Value: longest + "v"}, api.ErrForm),
		refused("no key", world(9, r, open(3)), api.Act{Kind: api.Put}, api.ErrForm),
	})
}

// TestNotOpen: who is not Open neither reads nor writes, whatever the key and the value (P2.3).
func TestNotOpen(t *testing.T) {
	for _, c := range append(phases()[1:], api.Client{}) {
		w := world(9, rows(plain("a", done(1, 2, "x"))), c)
		for _, kind := range []int{api.Get, api.Put} {
			for _, key := range []string{"a", "k", "", "?"} {
				judge(t, []change{
					refused("not open", w, api.Act{Kind: kind, Key: key}, api.ErrState),
					refused("not open, long", w, api.Act{Kind: kind, Key: key, Value: longest + "v"}, api.ErrState),
				})
			}
		}
	}
}
