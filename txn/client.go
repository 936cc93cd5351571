package txn

import (
	"slices"
	"strings"

	"rickyard/api"
	"rickyard/row"
)

func copyClient(c api.Client) api.Client {
	writes := make([]api.Write, len(c.Writes))
	copy(writes, c.Writes)
	c.Writes = writes
	return c
}

// perform changes the world by an action that can be performed.
func perform(w *api.World, a api.Act) api.Answer {
	c := &w.Clients[a.C]
	switch a.Kind {
	case api.Begin:
		return begin(w, c)
	case api.Get:
		return get(w, c, a.Key)
	case api.Put:
		return api.Answer{Code: put(c, a.Key, a.Value)}
	case api.Step:
		return step(w, c)
	case api.Drop:
		return api.Answer{Code: drop(c)}
	default:
		return api.Answer{Code: resolve(w, a.Key)}
	}
}

func begin(w *api.World, c *api.Client) api.Answer {
	if c.Phase != api.Idle {
		return api.Answer{Code: api.ErrState}
	}
	*c = api.Client{Phase: api.Open, Start: tick(w)}
	return api.Answer{Time: c.Start}
}

// drop forgets the transaction. Its locks remain, for others to resolve.
func drop(c *api.Client) api.Errno {
	if c.Phase == api.Idle {
		return api.ErrState
	}
	*c = api.Client{}
	return api.OK
}

func get(w *api.World, c *api.Client, key string) api.Answer {
	if e := accessError(c, key); e != api.OK {
		return api.Answer{Code: e}
	}
	if i, is := findWrite(c, key); is {
		return api.Answer{Is: true, Value: c.Writes[i].Value}
	}
	i, is := findRow(w, key)
	if !is {
		return api.Answer{}
	}
	value, is, e := row.Read(w.Rows[i], c.Start)
	return api.Answer{Code: e, Is: is, Value: value}
}

func put(c *api.Client, key, value string) api.Errno {
	if e := accessError(c, key); e != api.OK {
		return e
	}
	if len(value) > api.MaxValue {
		return api.ErrSize
	}
	i, is := findWrite(c, key)
	if is {
		c.Writes[i].Value = value
		return api.OK
	}
	if len(c.Writes) >= api.MaxWrites {
		return api.ErrSize
	}
	c.Writes = slices.Insert(c.Writes, i, api.Write{Key: key, Value: value})
	return api.OK
}

// accessError returns the error that reading and writing have in common.
func accessError(c *api.Client, key string) api.Errno {
	if c.Phase != api.Open {
		return api.ErrState
	}
	if !row.Key(key) {
		return api.ErrForm
	}
	return api.OK
}

// findWrite returns the place of the write with a key, and whether there is one.
func findWrite(c *api.Client, key string) (int, bool) {
	return slices.BinarySearchFunc(c.Writes, key, func(x api.Write, key string) int { return strings.Compare(x.Key, key) })
}
