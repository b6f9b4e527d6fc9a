package move

import (
	"slices"
	"strings"

	"kinshape/api"
	"kinshape/change"
	"kinshape/graph"
	"kinshape/record"
)

// way in which graphs go with a change.
type way struct {
	to      api.Schema                           // what the change makes
	kinds   []string                             // of which nodes it touches
	turn    func(api.Record) (api.Record, error) // what their records become; it may write into what it is given
	dropped string                               // the bond of which ties stay behind; empty, which no tie has: none
}

// wayOf a change, or why there is none. It keeps no list of either.
func wayOf(s api.Schema, c api.Change) (way, error) {
	to, err := change.Do(s, c)
	if err != nil {
		return way{}, err
	}
	// Do told no error, which is all that Kinds could tell.
	kinds, _ := change.Kinds(s, c)
	w := way{to: to, kinds: kinds, turn: turnOf(c)}
	if c.What == api.DropBond {
		w.dropped = c.Name
	}
	return w, nil
}

// turnOf a change; of one that touches no nodes there is none.
func turnOf(c api.Change) func(api.Record) (api.Record, error) {
	name, to, v := c.Field.Name, c.To, c.Value
	switch c.What {
	case api.AddField:
		return func(r api.Record) (api.Record, error) { return give(r, api.Prop{Name: name, Value: v}) }
	case api.DropField:
		return func(r api.Record) (api.Record, error) { return drop(r, name), nil }
	case api.Rename:
		return func(r api.Record) (api.Record, error) { return rename(r, name, to), nil }
	}
	return nil
}

// node is what becomes of one that is right.
func (w way) node(n api.Node) (api.Node, error) {
	n = graph.CopyNode(n)
	if !slices.Contains(w.kinds, n.Kind) {
		return n, nil
	}
	r, err := w.turn(n.Record)
	if err != nil {
		return api.Node{}, err
	}
	n.Record = r
	return n, nil
}

// nodes is what becomes of all of them, or why one of them cannot go.
func (w way) nodes(l []api.Node) ([]api.Node, error) {
	var moved []api.Node
	for _, n := range l {
		to, err := w.node(n)
		if err != nil {
			return nil, err
		}
		moved = append(moved, to)
	}
	return moved, nil
}

// ties has those that go, in the memory of the list.
func (w way) ties(l []api.Tie) []api.Tie {
	return slices.DeleteFunc(l, func(t api.Tie) bool { return t.Bond == w.dropped })
}

// give a record a property, if there is a value at all, and none of that name.
func give(r api.Record, p api.Prop) (api.Record, error) {
	if p.Value.Type == 0 || find(r, p.Name) >= 0 {
		return r, nil
	}
	return record.Set(r, p)
}

// drop the property of a name, if there is one.
func drop(r api.Record, name string) api.Record {
	return slices.DeleteFunc(r, func(p api.Prop) bool { return p.Name == name })
}

// rename a property, if there is one, and none that has the new name.
func rename(r api.Record, from, to string) api.Record {
	at := find(r, from)
	if at < 0 || find(r, to) >= 0 {
		return r
	}
	r[at].Name = to
	slices.SortFunc(r, func(a, b api.Prop) int { return strings.Compare(a.Name, b.Name) })
	return r
}

// find tells where the property of a name stands; below 0: there is none.
func find(r api.Record, name string) int {
	return slices.IndexFunc(r, func(p api.Prop) bool { return p.Name == name })
}
