package log

import "kinshape/api"

// entry is what a record tells: ops, or a change.
type entry struct {
	alters bool
	ops    []api.Op
	change api.Change
}

// form goes over the parts of an entry: by a writer they are put down, by a reader they are taken up. As both go over them by the same functions, what is put down is taken up.
type form interface {
	number(n *int)
	truth(is *bool)
	text(s *string)
}

func (e *entry) parts(f form) {
	f.truth(&e.alters)
	if e.alters {
		changeParts(f, &e.change)
		return
	}
	list(f, &e.ops, opParts)
}

// list goes over how many there are, and over each. A writer leaves their number as it is, so that it is a reader's list alone that is made.
func list[L ~[]T, T any](f form, l *L, parts func(form, *T)) {
	length := len(*l)
	f.number(&length)
	if length != len(*l) {
		*l = make(L, length)
	}
	for i := range *l {
		parts(f, &(*l)[i])
	}
}

// opParts are those that an op of its What has.
func opParts(f form, o *api.Op) {
	f.number(&o.What)
	switch o.What {
	case api.New:
		nodeParts(f, &o.Node)
	case api.Gone:
		f.number(&o.Node.Id)
	case api.Set:
		f.number(&o.Node.Id)
		propParts(f, &o.Prop)
	case api.Unset:
		f.number(&o.Node.Id)
		f.text(&o.Prop.Name)
	case api.Bind, api.Loose:
		tieParts(f, &o.Tie)
	}
}

// changeParts are those that a change of its What has.
func changeParts(f form, c *api.Change) {
	f.number(&c.What)
	switch c.What {
	case api.AddKind:
		kindParts(f, &c.Kind)
	case api.DropKind, api.DropBond:
		f.text(&c.Name)
	case api.AddField:
		f.text(&c.Name)
		fieldParts(f, &c.Field)
		valueParts(f, &c.Value)
	case api.DropField:
		f.text(&c.Name)
		f.text(&c.Field.Name)
	case api.AddBond:
		bondParts(f, &c.Bond)
	case api.Rename:
		f.text(&c.Name)
		f.text(&c.Field.Name)
		f.text(&c.To)
	case api.Range:
		f.text(&c.Name)
		f.number(&c.Bond.Min)
		f.number(&c.Bond.Max)
	}
}

func nodeParts(f form, n *api.Node) {
	f.number(&n.Id)
	f.text(&n.Kind)
	list(f, &n.Record, propParts)
}

func propParts(f form, p *api.Prop) {
	f.text(&p.Name)
	valueParts(f, &p.Value)
}

func valueParts(f form, v *api.Value) {
	f.number(&v.Type)
	f.number(&v.N)
	f.text(&v.S)
}

func tieParts(f form, t *api.Tie) {
	f.text(&t.Bond)
	f.number(&t.From)
	f.number(&t.To)
}

func kindParts(f form, k *api.Kind) {
	f.text(&k.Name)
	list(f, &k.Of, form.text)
	list(f, &k.Fields, fieldParts)
}

func fieldParts(f form, x *api.Field) {
	f.text(&x.Name)
	f.number(&x.Type)
	f.truth(&x.Must)
	f.truth(&x.Key)
}

func bondParts(f form, b *api.Bond) {
	f.text(&b.Name)
	f.text(&b.From)
	f.text(&b.To)
	f.number(&b.Min)
	f.number(&b.Max)
}
