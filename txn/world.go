package txn

import (
	"slices"
	"strings"

	"rickyard/api"
	"rickyard/row"
)

// tick returns a time that is later than all times in the world.
func tick(w *api.World) int {
	w.Clock++
	return w.Clock
}

// findRow returns the place of the row with a key, and whether there is one.
func findRow(w *api.World, key string) (int, bool) {
	return slices.BinarySearchFunc(w.Rows, key, func(r api.Row, key string) int { return strings.Compare(r.Key, key) })
}

// changeRow replaces the row with a key by what an operation makes of it. A row
// that does not exist is created for the operation, and stays only if this succeeds.
func changeRow(w *api.World, key string, operation func(api.Row) (api.Row, api.Errno)) api.Errno {
	i, is := findRow(w, key)
	if is {
		r, e := operation(w.Rows[i])
		if e == api.OK {
			w.Rows[i] = r
		}
		return e
	}
	if len(w.Rows) >= api.MaxRows {
		return api.ErrSize
	}
	r, e := operation(api.Row{Key: key})
	if e == api.OK {
		w.Rows = slices.Insert(w.Rows, i, r)
	}
	return e
}

func commitRow(w *api.World, key string, start, commit int) api.Errno {
	return changeRow(w, key, func(r api.Row) (api.Row, api.Errno) { return row.Commit(r, start, commit) })
}

func undoRow(w *api.World, key string, start int) api.Errno {
	return changeRow(w, key, func(r api.Row) (api.Row, api.Errno) { return row.Undo(r, start) })
}

// statusIn returns the status of a transaction in the row with a key, which need
// not exist, and its Commit.
func statusIn(w *api.World, key string, start int) (int, int) {
	i, is := findRow(w, key)
	if !is {
		return api.Unknown, 0
	}
	status, commit, _ := row.Status(w.Rows[i], start)
	return status, commit
}
