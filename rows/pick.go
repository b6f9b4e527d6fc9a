package rows

import (
	"slices"

	"kinshape/api"
	"kinshape/graph"
	"kinshape/value"
)

// Pick records of nodes of rows.
func Pick(g api.Graph, rows [][]int, at int, names []string) ([]api.Record, error) {
	if err := graph.Check(g); err != nil {
		return nil, err
	}
	if len(rows) > api.MaxRows {
		return nil, api.ErrFull
	}
	nodes, err := nodesAt(g.Nodes, rows, at)
	if err != nil {
		return nil, err
	}
	if err := checkNames(names); err != nil {
		return nil, err
	}
	named := func(p api.Prop) bool {
		_, there := slices.BinarySearch(names, p.Name)
		return there
	}
	var picked []api.Record
	for _, n := range nodes {
		picked = append(picked, kept(n.Record, named))
	}
	return picked, nil
}

// nodesAt has of each row the node at a place in it, with the memory that it has.
func nodesAt(nodes []api.Node, rows [][]int, at int) ([]api.Node, error) {
	byId := map[int]api.Node{}
	for _, n := range nodes {
		byId[n.Id] = n
	}
	var found []api.Node
	for _, row := range rows {
		if at < 0 || at >= len(row) {
			return nil, api.ErrRange
		}
		n, there := byId[row[at]]
		if !there {
			return nil, api.ErrNone
		}
		found = append(found, n)
	}
	return found, nil
}

// checkNames tells what is wrong with the first name that has a fault.
func checkNames(names []string) error {
	for i, name := range names {
		if err := value.Name(name); err != nil {
			return err
		}
		if i > 0 && name <= names[i-1] {
			return api.ErrClash
		}
	}
	return nil
}

// kept has the properties of a record for which is holds, in memory of its own.
func kept(r api.Record, is func(p api.Prop) bool) api.Record {
	var l api.Record
	for _, p := range r {
		if is(p) {
			l = append(l, p)
		}
	}
	return l
}
