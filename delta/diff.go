package delta

import (
	"slices"

	"kinshape/api"
	"kinshape/graph"
)

// Diff of two graphs.
func Diff(a, b api.Graph) ([]api.Op, error) {
	if err := graph.Check(a); err != nil {
		return nil, err
	}
	if err := graph.Check(b); err != nil {
		return nil, err
	}
	return between(a, b), nil
}

// Turn ops.
func Turn(g api.Graph, l []api.Op) ([]api.Op, error) {
	done, _, err := All(g, l)
	if err != nil {
		return nil, err
	}
	return between(done, g), nil
}

// stock is what a graph has, asked by id and by tie.
type stock struct {
	nodes map[int]api.Node
	ties  map[api.Tie]int // each tie's number is 1
}

func stockOf(g api.Graph) stock {
	s := stock{nodes: map[int]api.Node{}, ties: map[api.Tie]int{}}
	for _, n := range g.Nodes {
		s.nodes[n.Id] = n
	}
	for _, t := range g.Ties {
		s.ties[t] = 1
	}
	return s
}

// hasNode tells whether there is one of its id and its kind; records are not asked.
func (s stock) hasNode(n api.Node) bool {
	other, there := s.nodes[n.Id]
	return there && other.Kind == n.Kind
}

func (s stock) hasTie(t api.Tie) bool {
	return s.ties[t] != 0
}

// between has the ops that make of a what b is, if both are right. What goes is ahead of what comes, so that there is never too much on the way.
func between(a, b api.Graph) []api.Op {
	old, now := stockOf(a), stockOf(b)
	goes := func(id int) bool {
		n, there := old.nodes[id]
		return there && !now.hasNode(n)
	}
	// A tie of a node that goes, goes with it, and must come again, if b has it.
	stays := func(t api.Tie) bool { return old.hasTie(t) && !goes(t.From) && !goes(t.To) }
	return slices.Concat(
		opsUnless(a.Ties, now.hasTie, func(t api.Tie) api.Op { return api.Op{What: api.Loose, Tie: t} }),
		opsUnless(a.Nodes, now.hasNode, func(n api.Node) api.Op { return api.Op{What: api.Gone, Node: api.Node{Id: n.Id}} }),
		opsUnless(b.Nodes, old.hasNode, func(n api.Node) api.Op { return api.Op{What: api.New, Node: graph.CopyNode(n)} }),
		recordOps(a, now),
		opsUnless(b.Ties, stays, func(t api.Tie) api.Op { return api.Op{What: api.Bind, Tie: t} }),
	)
}

// recordOps has the ops on the records of the nodes that stay, node by node.
func recordOps(a api.Graph, now stock) []api.Op {
	var ops []api.Op
	for _, n := range a.Nodes {
		if now.hasNode(n) {
			ops = append(ops, propOps(n.Id, n.Record, now.nodes[n.Id].Record)...)
		}
	}
	return ops
}

// propOps has the ops that make of a node's record a the record b.
func propOps(id int, a, b api.Record) []api.Op {
	named := func(p api.Prop) bool {
		return slices.ContainsFunc(b, func(other api.Prop) bool { return other.Name == p.Name })
	}
	same := func(p api.Prop) bool { return slices.Contains(a, p) }
	return append(
		opsUnless(a, named, func(p api.Prop) api.Op {
			return api.Op{What: api.Unset, Node: api.Node{Id: id}, Prop: api.Prop{Name: p.Name}}
		}),
		opsUnless(b, same, func(p api.Prop) api.Op {
			return api.Op{What: api.Set, Node: api.Node{Id: id}, Prop: p}
		})...,
	)
}

// opsUnless has an op of each of a list for which has does not hold.
func opsUnless[T any](l []T, has func(x T) bool, op func(x T) api.Op) []api.Op {
	var ops []api.Op
	for _, x := range l {
		if !has(x) {
			ops = append(ops, op(x))
		}
	}
	return ops
}
