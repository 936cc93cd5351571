package txn_test

import (
	"math"
	"slices"
	"testing"

	"rickyard/api"
	"rickyard/txn"
)

func act(kind, c int, key, value string) api.Act {
	return api.Act{Kind: kind, C: c, Key: key, Value: value}
}

// twoRows begins, writes x to a and y to b as client 0, and performs n steps.
func twoRows(n int) []api.Act {
	l := []api.Act{act(api.Begin, 0, "", ""), act(api.Put, 0, "a", "x"), act(api.Put, 0, "b", "y")}
	for range n {
		l = append(l, step(0))
	}
	return l
}

func run(t *testing.T, clients int, l []api.Act) ([]api.Answer, api.World) {
	t.Helper()
	answers, w, e := txn.Run(clients, l)
	if e != api.OK || len(answers) != len(l) || len(w.Clients) != clients || txn.Check(w) != api.OK {
		t.Fatalf("Run(%d, %v) = %v %v %v", clients, l, answers, w, e)
	}
	return answers, w
}

// TestExample: the document's example of the whole system.
func TestExample(t *testing.T) {
	answers, w := run(t, 2, append(twoRows(5), act(api.Begin, 1, "", ""), act(api.Get, 1, "a", "")))
	want := []api.Answer{
		{Phase: api.Open, Time: 1}, {Phase: api.Open}, {Phase: api.Open},
		{Phase: api.Locking}, {Phase: api.Locking}, {Phase: api.Sealing, Time: 2}, {Phase: api.Closing}, {Phase: api.Idle},
		{Phase: api.Open, Time: 3}, {Phase: api.Open, Is: true, Value: "x"},
	}
	if !slices.Equal(answers, want) {
		t.Errorf("answers %v", answers)
	}
	if !same(w, world(3, rows(plain("a", done(1, 2, "x")), plain("b", done(1, 2, "y"))), idle, open(3))) {
		t.Errorf("world %v", w)
	}
}

// TestExampleStopped: in the example, a client that stopped, and whose lock is resolved.
func TestExampleStopped(t *testing.T) {
	read := []api.Act{act(api.Begin, 1, "", ""), act(api.Get, 1, "b", ""), act(api.Resolve, 1, "b", ""), act(api.Get, 1, "b", ""), act(api.Get, 1, "a", "")}
	for n, want := range [][]api.Answer{
		{{}, {Code: api.ErrNone}, {}, {}},
		{{}, {Code: api.ErrNone}, {}, {Code: api.ErrBusy}},
		{{Code: api.ErrBusy}, {}, {}, {}},
		{{Code: api.ErrBusy}, {}, {}, {}},
		{{Code: api.ErrBusy}, {}, {Is: true, Value: "y"}, {Is: true, Value: "x"}},
		{{Is: true, Value: "y"}, {Code: api.ErrNone}, {Is: true, Value: "y"}, {Is: true, Value: "x"}},
	} {
		answers, _ := run(t, 2, append(twoRows(n), read...))
		got := answers[len(answers)-len(want):]
		for i := range want {
			want[i].Phase = api.Open
		}
		if !slices.Equal(got, want) {
			t.Errorf("after %d steps: %v, want %v", n, got, want)
		}
	}
}

// TestRunErrors: P2.7.
func TestRunErrors(t *testing.T) {
	for _, c := range []struct {
		clients, acts int
		want          api.Errno
	}{
		{0, 0, api.ErrRange}, {-1, 1, api.ErrRange}, {api.MaxClients + 1, 0, api.ErrRange},
		{math.MinInt, 0, api.ErrRange}, {math.MaxInt, 0, api.ErrRange},
		{0, api.MaxActs + 1, api.ErrRange}, {api.MaxClients + 1, api.MaxActs + 1, api.ErrRange},
		{1, api.MaxActs + 1, api.ErrSize}, {api.MaxClients, api.MaxActs + 1, api.ErrSize},
	} {
		answers, w, e := txn.Run(c.clients, make([]api.Act, c.acts))
		if e != c.want || len(answers) != 0 || !same(w, api.World{}) {
			t.Errorf("%+v: %v %v %v", c, answers, w, e)
		}
	}
}

// TestRunNothing: a script without actions leaves a world without rows (P2.7).
func TestRunNothing(t *testing.T) {
	for clients := 1; clients <= api.MaxClients; clients++ {
		for _, l := range [][]api.Act{nil, {}} {
			if _, w := run(t, clients, l); !same(w, world(0, nil, make([]api.Client, clients)...)) {
				t.Errorf("%d clients: %v", clients, w)
			}
		}
	}
}

// TestRunLongest: the longest script, in which each action begins or drops (P2.7).
func TestRunLongest(t *testing.T) {
	var l []api.Act
	var want []api.Answer
	for i := range api.MaxActs / 2 {
		l = append(l, act(api.Begin, i%5, "", ""), act(api.Drop, i%5, "", ""))
		want = append(want, api.Answer{Phase: api.Open, Time: i + 1}, api.Answer{})
	}
	answers, w := run(t, api.MaxClients, l)
	if !slices.Equal(answers, want) || !same(w, world(api.MaxActs/2, nil, make([]api.Client, api.MaxClients)...)) {
		t.Errorf("%v %v", answers, w)
	}
}

// TestRunGoesOn: an action with an error of Do has it as its Code, changes nothing, and the script goes on (P2.7).
func TestRunGoesOn(t *testing.T) {
	answers, w := run(t, 1, []api.Act{
		act(api.Begin, 1, "", ""), act(api.Begin, 0, "", ""), act(0, 0, "", ""), act(7, 5, "", ""), act(api.Step, -1, "", ""),
		act(api.Put, 0, "A", ""), act(api.Put, 0, "a", "x"), act(api.Begin, 0, "", ""), act(api.Get, 0, "a", ""),
	})
	want := []api.Answer{
		{Code: api.ErrRange}, {Phase: api.Open, Time: 1}, {Code: api.ErrKind}, {Code: api.ErrKind}, {Code: api.ErrRange},
		{Code: api.ErrForm, Phase: api.Open}, {Phase: api.Open}, {Code: api.ErrState, Phase: api.Open}, {Phase: api.Open, Is: true, Value: "x"},
	}
	if !slices.Equal(answers, want) || !same(w, world(1, nil, open(1, "a", "x"))) {
		t.Errorf("%v %v", answers, w)
	}
}

// TestRunIsDo: a script does the same as its actions one by one (P2.7).
func TestRunIsDo(t *testing.T) {
	l := append(twoRows(4), act(api.Begin, 1, "", ""), act(api.Put, 1, "b", "z"), step(1), act(api.Resolve, 1, "b", ""), step(1), step(0), step(0))
	w := world(0, nil, idle, idle)
	for i, a := range l {
		next, answer, e := txn.Do(w, a)
		answers, end := run(t, 2, l[:i+1])
		if e != api.OK || answers[i] != answer || !same(end, next) {
			t.Errorf("act %d: %v %v, want %v %v", i, answers[i], end, answer, next)
		}
		w = next
	}
}
