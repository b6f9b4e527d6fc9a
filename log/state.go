package log

import (
	"kinshape/api"
	"kinshape/change"
	"kinshape/check"
	"kinshape/delta"
	"kinshape/move"
)

// state of a log: a graph that conforms to a schema. Neither is written into: another state takes its place.
type state struct {
	schema api.Schema
	graph  api.Graph
}

// with is what an entry makes of it.
func (s state) with(e entry) (state, error) {
	if e.alters {
		return s.altered(e.change)
	}
	return s.put(e.ops)
}

func (s state) put(l []api.Op) (state, error) {
	done, _, err := delta.All(s.graph, l)
	if err != nil {
		return state{}, err
	}
	// Both are right, so that there is no error.
	if ok, _ := check.Conforms(s.schema, done); !ok {
		return state{}, api.ErrBreak
	}
	return state{schema: s.schema, graph: done}, nil
}

func (s state) altered(c api.Change) (state, error) {
	moved, err := move.Graph(s.schema, c, s.graph)
	if err != nil {
		return state{}, err
	}
	// Graph told no error, which is all that Do could tell.
	next, _ := change.Do(s.schema, c)
	return state{schema: next, graph: moved}, nil
}

// replayed is what comes of a schema and an empty graph by the records that bytes begin with, as far as they are whole, and how many of the bytes those are.
func replayed(s api.Schema, b []byte) (now state, length int) {
	now.schema = s
	for {
		e, n, whole := read(b[length:])
		if !whole {
			return now, length
		}
		// What was done without an error is done so again.
		now, _ = now.with(e)
		length += n
	}
}
