package path

import (
	"slices"

	"kinshape/api"
	"kinshape/check"
	"kinshape/graph"
	"kinshape/kind"
	"kinshape/record"
	"kinshape/value"
)

// Passes a record a test?
func Passes(r api.Record, t api.Test) (bool, error) {
	if err := record.Check(r); err != nil {
		return false, err
	}
	if err := value.Name(t.Name); err != nil {
		return false, err
	}
	if err := checkHow(t); err != nil {
		return false, err
	}
	return passes(r, t), nil
}

// Walk a path.
func Walk(s api.Schema, g api.Graph, l []api.Step) ([][]int, error) {
	if _, err := Check(s, l); err != nil {
		return nil, err
	}
	conforms, err := check.Conforms(s, g)
	if err != nil {
		return nil, err
	}
	if !conforms {
		return nil, api.ErrBreak
	}
	rows := [][]int{nil}
	for _, p := range l {
		rows = longer(rows, fitting(s.Kinds, g.Nodes, p), func(from, to int) bool { return tied(g.Ties, p, from, to) })
		// It is asked step by step: the rows of the first ones are too many, too, where the others would leave fewer.
		if len(rows) > api.MaxRows {
			return nil, api.ErrFull
		}
	}
	return rows, nil
}

// passes tells whether a record passes a test, both of which are right.
func passes(r api.Record, t api.Test) bool {
	v, err := record.Get(r, t.Name)
	if err != nil {
		return false
	}
	switch t.How {
	case api.Is:
		return v == t.Value
	case api.Isnt:
		return v != t.Value
	case api.Below:
		order, err := value.Compare(v, t.Value)
		return err == nil && order < 0
	}
	return true
}

// fitting has the ids of the nodes to which a step may lead, wherever it comes from. As nodes rise by id, they rise.
func fitting(kinds []api.Kind, nodes []api.Node, p api.Step) []int {
	under, _ := kind.Under(kinds, p.Kind)
	var ids []int
	for _, n := range nodes {
		fails := func(t api.Test) bool { return !passes(n.Record, t) }
		if slices.Contains(under, n.Kind) && !slices.ContainsFunc(p.Tests, fails) {
			ids = append(ids, n.Id)
		}
	}
	return ids
}

// longer has each row with each of the ids to which its last one leads; the empty row leads to all. As the rows are sorted, and the ids rise, what comes is sorted, too.
func longer(rows [][]int, ids []int, leads func(from, to int) bool) [][]int {
	var all [][]int
	for _, row := range rows {
		for _, id := range ids {
			if len(row) == 0 || leads(row[len(row)-1], id) {
				all = append(all, slices.Concat(row, []int{id}))
			}
		}
	}
	return all
}

// tied tells whether a step leads from one node to another one, by the ties of a graph that is one, which rise.
func tied(ties []api.Tie, p api.Step, from, to int) bool {
	from, to = turned(p.Back, from, to)
	_, there := slices.BinarySearchFunc(ties, api.Tie{Bond: p.Bond, From: from, To: to}, graph.CompareTies)
	return there
}
