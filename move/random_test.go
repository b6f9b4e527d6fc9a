package move

import (
	"math/rand"
	"slices"
	"strings"

	"kinshape/api"
	"kinshape/schema"
)

func pick[T any](r *rand.Rand, l ...T) T { return l[r.Intn(len(l))] }

// randomFields has some of few fields, of which several kinds then have the same.
func randomFields(r *rand.Rand) (l []api.Field) {
	for _, f := range []api.Field{field("k", api.Int), field("l", api.Bool), must(field("m", api.Int)), field("n", api.Text), key(field("o", api.Int))} {
		if r.Intn(3) == 0 {
			l = append(l, f)
		}
	}
	return l
}

// randomSchema is a schema that is right, of one to four kinds.
func randomSchema(r *rand.Rand) (s api.Schema) {
	for {
		s = api.Schema{}
		names := strings.Fields("a b c d")[:1+r.Intn(4)]
		for i, name := range names {
			var of []string
			for _, ahead := range names[:i] {
				if r.Intn(3) == 0 {
					of = append(of, ahead)
				}
			}
			s.Kinds = append(s.Kinds, api.Kind{Name: name, Of: of, Fields: randomFields(r)})
		}
		for _, name := range []string{"p", "q"} {
			if r.Intn(2) == 0 {
				s.Bonds = append(s.Bonds, api.Bond{Name: name, From: pick(r, names...), To: pick(r, names...), Max: pick(r, -1, 1, 2)})
			}
		}
		if _, err := schema.Check(s); err == nil {
			return s
		}
	}
}

func randomValue(r *rand.Rand) api.Value {
	return pick(r, number(r.Intn(3)), number(r.Intn(3)), truth(r.Intn(2)), words(pick(r, "", "u")), api.Value{}, api.Value{Type: api.Int, N: 2_000_000})
}

// randomChange is one that can be done more often than not.
func randomChange(r *rand.Rand, s api.Schema) api.Change {
	c := api.Change{
		What: 1 + r.Intn(8), Name: pick(r, "a", "a", "b", "c", "d", "zz"), To: pick(r, "j", "k", "l", "m", "z", "Z"),
		Kind: breed(pick(r, "a", "e", "e", "E"), pick(r, "", "a", "a b"), randomFields(r)...), Bond: bond(pick(r, "p", "r", "r")+" a "+pick(r, "a", "b"), pick(r, 0, 0, 1), pick(r, -1, 1, 0)),
		Field: pick(r, field("k", api.Int), field("j", api.Int), must(field("m", api.Int)), must(field("z", api.Bool)), field("n", api.Text), key(field("o", api.Int))), Value: randomValue(r),
	}
	if r.Intn(3) > 0 {
		c.What = pick(r, api.AddField, api.DropField, api.Rename)
	}
	if c.What == api.DropBond || c.What == api.Range {
		c.Name = pick(r, "p", "q")
	}
	if c.What == api.DropKind && len(s.Kinds) > 0 {
		c.Name = s.Kinds[len(s.Kinds)-1].Name
	}
	return c
}

// randomNode is one that is right more often than not; it need not conform.
func randomNode(r *rand.Rand) api.Node {
	n := api.Node{Id: pick(r, 1, 2, 1000), Kind: pick(r, "a", "b", "c", "d", "zz")}
	all := strings.Fields("aa b c j k l m n o z")
	most := pick(r, 3, len(all))
	for _, name := range all {
		if len(n.Record) < most && r.Intn(10) < most {
			n.Record = append(n.Record, prop(name, pick(r, number(r.Intn(3)), words("u"))))
		}
	}
	switch r.Intn(30) {
	case 0:
		n.Id = pick(r, 0, 1001, -1)
	case 1:
		n.Kind = pick(r, badNames()...)
	case 2:
		n.Record = append(n.Record, prop("zz", randomValue(r)))
	}
	return n
}

// randomGraph conforms to a schema more often than not.
func randomGraph(r *rand.Rand, s api.Schema, most int) (g api.Graph) {
	id := 0
	for range r.Intn(most + 1) {
		id += 1 + r.Intn(3)
		k := pick(r, s.Kinds...).Name
		g.Nodes = append(g.Nodes, api.Node{Id: id, Kind: k, Record: randomRecord(r, s, k, id)})
	}
	for _, b := range s.Bonds {
		for _, from := range g.Nodes {
			count := 0
			for _, to := range g.Nodes {
				fits := plainIs(s.Kinds, from.Kind, b.From) && plainIs(s.Kinds, to.Kind, b.To)
				if fits && (b.Max < 0 || count < b.Max) && r.Intn(3) == 0 {
					g.Ties = append(g.Ties, tie(b.Name, from.Id, to.Id))
					count++
				}
			}
		}
	}
	return g
}

// randomRecord is what a node of a kind may have.
func randomRecord(r *rand.Rand, s api.Schema, kind string, id int) (l api.Record) {
	for _, k := range s.Kinds {
		for _, f := range k.Fields {
			there := slices.ContainsFunc(l, func(p api.Prop) bool { return p.Name == f.Name })
			if !plainIs(s.Kinds, kind, k.Name) || there || !f.Must && r.Intn(2) == 0 {
				continue
			}
			v := map[int]api.Value{api.Int: number(r.Intn(3)), api.Bool: truth(r.Intn(2)), api.Text: words(pick(r, "", "u"))}[f.Type]
			if f.Key {
				v = number(id)
			}
			l = append(l, prop(f.Name, v))
		}
	}
	slices.SortFunc(l, func(a, b api.Prop) int { return strings.Compare(a.Name, b.Name) })
	return l
}
