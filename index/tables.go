package index

import (
	"slices"

	"kinshape/api"
	"kinshape/kind"
)

// shape is what is asked of a kind. The empty one is that of no kind.
type shape struct {
	kin  []string
	keys []string // the names of its key fields, those of its kin, too
}

// key is a value in a key field of a kind.
type key struct {
	kind, field string
	value       api.Value
}

// end is where ties of a bond go out of a node, or, back, come in.
type end struct {
	bond string
	node int
	back bool
}

// tables of a graph tell who has it. A node stands in those of all of its kin.
type tables struct {
	kinds map[string][]int
	keys  map[key]int
	ends  map[end][]int
}

// shapesOf asks kinds that are right, by their names, so that no error is told.
func shapesOf(s api.Schema) map[string]shape {
	shapes := map[string]shape{}
	for _, k := range s.Kinds {
		kin, _ := kind.Kin(s.Kinds, k.Name)
		fields, _ := kind.Fields(s.Kinds, k.Name)
		shapes[k.Name] = shape{kin, keyNames(fields)}
	}
	return shapes
}

func keyNames(l []api.Field) []string {
	var names []string
	for _, f := range l {
		if f.Key {
			names = append(names, f.Name)
		}
	}
	return names
}

// tablesOf a graph. As nodes rise by id, and ties by bond, from and to, each list of them rises, too.
func tablesOf(shapes map[string]shape, g api.Graph) tables {
	t := tables{kinds: map[string][]int{}, keys: map[key]int{}, ends: map[end][]int{}}
	for _, n := range g.Nodes {
		for _, name := range shapes[n.Kind].kin {
			t.kinds[name] = append(t.kinds[name], n.Id)
			t.noteKeys(name, shapes[name].keys, n)
		}
	}
	for _, tie := range g.Ties {
		out, in := end{tie.Bond, tie.From, false}, end{tie.Bond, tie.To, true}
		t.ends[out] = append(t.ends[out], tie.To)
		t.ends[in] = append(t.ends[in], tie.From)
	}
	return t
}

// noteKeys notes what a node has in the key fields of a kind, but what one ahead has, whose id is less.
func (t tables) noteKeys(name string, fields []string, n api.Node) {
	for _, p := range n.Record {
		k := key{name, p.Name, p.Value}
		if _, there := t.keys[k]; !there && slices.Contains(fields, p.Name) {
			t.keys[k] = n.Id
		}
	}
}
