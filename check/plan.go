package check

import (
	"slices"

	"kinshape/api"
	"kinshape/kind"
	"kinshape/schema"
)

// plan is a schema that is right, of which kinds and bonds are asked by name.
type plan struct {
	shapes map[string]shape
	bonds  map[string]api.Bond
}

// shape is what the nodes of a kind are to be. The empty one is that of no kind.
type shape struct {
	kin    []string
	fields []api.Field
	bonds  []api.Bond // of which they may be the From
}

// planOf is a schema's plan, or what is wrong with it.
func planOf(s api.Schema) (plan, error) {
	if _, err := schema.Check(s); err != nil {
		return plan{}, err
	}
	p := plan{shapes: map[string]shape{}, bonds: map[string]api.Bond{}}
	for _, k := range s.Kinds {
		p.shapes[k.Name] = shapeOf(s, k.Name)
	}
	for _, b := range s.Bonds {
		p.bonds[b.Name] = b
	}
	return p, nil
}

// shapeOf asks of a schema that is right for a kind that it has, so that no error is told.
func shapeOf(s api.Schema, name string) (h shape) {
	h.kin, _ = kind.Kin(s.Kinds, name)
	h.fields, _ = kind.Fields(s.Kinds, name)
	// Its kin is at hand: schema.From would go through all of the schema again.
	for _, b := range s.Bonds {
		if h.is(b.From) {
			h.bonds = append(h.bonds, b)
		}
	}
	return h
}

// is tells whether a kind is of its kin.
func (h shape) is(name string) bool {
	return slices.Contains(h.kin, name)
}
