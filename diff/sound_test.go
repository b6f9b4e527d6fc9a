package diff

import (
	"math/rand"
	"slices"
	"strconv"
	"strings"
	"testing"

	"kinshape/api"
	"kinshape/kind"
)

// isKin tells whether a node of a kind may be where another one is asked for.
func isKin(s api.Schema, name, asked string) bool {
	is, err := kind.Is(s.Kinds, name, asked)
	return is && err == nil
}

// randomGraph conforms to a schema more often than not, if it has no Bond that asks for much.
func randomGraph(r *rand.Rand, s api.Schema) (g api.Graph) {
	id := 0
	for range r.Intn(6) {
		id += 1 + r.Intn(2)
		name := pick(r, s.Kinds...).Name
		g.Nodes = append(g.Nodes, api.Node{Id: id, Kind: name, Record: randomRecord(r, s, name, id)})
	}
	bonds := slices.Clone(s.Bonds)
	slices.SortFunc(bonds, func(a, b api.Bond) int { return strings.Compare(a.Name, b.Name) })
	for _, b := range bonds {
		for _, from := range g.Nodes {
			if isKin(s, from.Kind, b.From) {
				g.Ties = append(g.Ties, randomTies(r, s, g.Nodes, b, from.Id)...)
			}
		}
	}
	return g
}

// randomRecord is what a node of a kind may have.
func randomRecord(r *rand.Rand, s api.Schema, name string, id int) (l api.Record) {
	fields, _ := kind.Fields(s.Kinds, name)
	for _, f := range fields {
		if !f.Must && r.Intn(2) == 0 {
			continue
		}
		n := r.Intn(2)
		if f.Key {
			n = id
		}
		v := api.Value{Type: f.Type, N: n}
		switch f.Type {
		case api.Bool:
			v.N %= 2
		case api.Text:
			v = api.Value{Type: api.Text, S: strconv.Itoa(n)}
		}
		l = append(l, api.Prop{Name: f.Name, Value: v})
	}
	return l
}

// randomTies has those of a Bond that go out of a node, as many as may be, or fewer.
func randomTies(r *rand.Rand, s api.Schema, l []api.Node, b api.Bond, from int) (out []api.Tie) {
	most := b.Min + r.Intn(4)
	if b.Max >= 0 {
		most = min(most, b.Max)
	}
	for _, to := range l {
		if len(out) < most && isKin(s, to.Kind, b.To) {
			out = append(out, api.Tie{Bond: b.Name, From: from, To: to.Id})
		}
	}
	return out
}

// TestWiderHolds: D1, each Graph that conforms to a conforms to b where b is as wide, over rows of Schemas and Graphs from a fixed seed. Many of the Graphs have ties, and many conform to a alone where b is not as wide, so that they can tell.
func TestWiderHolds(t *testing.T) {
	r := rand.New(rand.NewSource(1818))
	loose, tied, alone := 0, 0, 0
	for range 4000 {
		a := randomSchema(r)
		b := a
		for range 1 + r.Intn(4) {
			if c := edited(r, b); r.Intn(5) == 0 || plainWider(b, c) {
				b = c
			}
		}
		wide, err := Wider(a, b)
		if err != nil {
			t.Fatalf("Wider(%s | %s): got %v", printed(a), printed(b), err)
		}
		if len(a.Kinds) == 0 || printed(a) == printed(b) {
			continue
		}
		for range 10 {
			g := randomGraph(r, a)
			if !conforms(a, g) {
				continue
			}
			switch is := conforms(b, g); {
			case wide && !is:
				t.Fatalf("Wider(%s | %s): got true, but %v conforms to the first alone", printed(a), printed(b), g)
			case wide && len(g.Ties) > 0:
				tied++
			case wide && len(g.Nodes) > 0:
				loose++
			case !is:
				alone++
			}
		}
	}
	if loose < 1000 || tied < 1000 || alone < 1000 {
		t.Errorf("of the graphs %d without ties and %d with some conform to both where b is as wide, and %d to a alone where it is not", loose, tied, alone)
	}
}
