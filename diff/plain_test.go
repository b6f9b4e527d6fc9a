package diff

import (
	"math/rand"
	"slices"
	"strings"
	"testing"

	"kinshape/api"
	"kinshape/schema"
)

// plainLoses: a line of what is printed has all of a Kind, or of a Bond, Kinds ahead.
func plainLoses(a, b api.Schema) (names []string) {
	text, _ := schema.Print(a)
	other, _ := schema.Print(b)
	there := strings.Split(other, "\n")
	for line := range strings.Lines(text) {
		line = strings.TrimSuffix(line, "\n")
		if !slices.Contains(there, line) {
			names = append(names, strings.Fields(line)[1])
		}
	}
	return names
}

// degree of a Field that is right: what Key asks for is more than what Must asks for, and that more than nothing.
func degree(f api.Field) int {
	switch {
	case f.Key:
		return 2
	case f.Must:
		return 1
	}
	return 0
}

// plainWider: the rules of D1, of tables by name. A Field, or Bond, that a has not is as one that asks for nothing.
func plainWider(a, b api.Schema) bool {
	kinds, bonds := map[string]api.Kind{}, map[string]api.Bond{}
	for _, k := range b.Kinds {
		kinds[k.Name] = k
	}
	for _, k := range a.Kinds {
		there, found := kinds[k.Name]
		if !found || strings.Join(k.Of, ",") != strings.Join(there.Of, ",") || !plainFields(k.Fields, there.Fields) {
			return false
		}
	}
	for _, x := range a.Bonds {
		bonds[x.Name] = x
	}
	for _, there := range b.Bonds {
		here, found := bonds[there.Name]
		if !found {
			here = api.Bond{From: there.From, To: there.To}
		}
		if here.From != there.From || here.To != there.To || here.Min < there.Min || bound(there.Max) < bound(here.Max) {
			return false
		}
		delete(bonds, there.Name)
	}
	return len(bonds) == 0
}

// bound that a Max is.
func bound(most int) int {
	if most == -1 {
		return 1_000_000
	}
	return most
}

func plainFields(here, there []api.Field) bool {
	own := map[string]api.Field{}
	for _, f := range here {
		own[f.Name] = f
	}
	for _, f := range there {
		h, found := own[f.Name]
		if found && h.Type != f.Type || degree(h) < degree(f) {
			return false
		}
		delete(own, f.Name)
	}
	return len(own) == 0
}

// checkPair holds both against the plain telling, and tells what Wider answers.
func checkPair(t *testing.T, a, b api.Schema) bool {
	t.Helper()
	if got, err := Loses(a, b); !slices.Equal(got, plainLoses(a, b)) || err != nil {
		t.Fatalf("Loses(%s | %s): got %v, %v, want %v", printed(a), printed(b), got, err, plainLoses(a, b))
	}
	is, err := Wider(a, b)
	if is != plainWider(a, b) || err != nil {
		t.Fatalf("Wider(%s | %s): got %v, %v, want %v", printed(a), printed(b), is, err, plainWider(a, b))
	}
	return is
}

func pick[T any](r *rand.Rand, l ...T) T { return l[r.Intn(len(l))] }

// few has names, of which rows have several alike.
func few(r *rand.Rand) string { return pick(r, "a", "b", "c", "d", "e", "p", "q") }

func randomField(r *rand.Rand) api.Field {
	f := field(pick(r, "k", "l", "m", "n"), 1+r.Intn(3))
	f.Must = r.Intn(2) == 0
	f.Key = f.Must && r.Intn(2) == 0
	return f
}

func randomBond(r *rand.Rand) api.Bond {
	return api.Bond{Name: few(r), From: few(r), To: few(r), Min: pick(r, 0, 0, 0, 1, 2), Max: pick(r, -1, -1, 0, 1, 2, 3, 20)}
}

// add puts a piece into a list, anywhere.
func add[T any](r *rand.Rand, l []T, x T) []T { return slices.Insert(l, r.Intn(len(l)+1), x) }

// drop takes a piece of a list, if there is one.
func drop[T any](r *rand.Rand, l []T) []T {
	if len(l) == 0 {
		return l
	}
	at := r.Intn(len(l))
	return slices.Delete(l, at, at+1)
}

func addField(r *rand.Rand, k *api.Kind) {
	f := randomField(r)
	k.Fields = append(k.Fields, f)
	slices.SortFunc(k.Fields, func(a, b api.Field) int { return strings.Compare(a.Name, b.Name) })
}

// randomSchema is a schema that is right.
func randomSchema(r *rand.Rand) api.Schema {
	var s api.Schema
	for range 1 + r.Intn(30) {
		s = edited(r, s)
	}
	return s
}

// edited is a schema that is right, another one than one is in one place.
func edited(r *rand.Rand, s api.Schema) api.Schema {
	before := printed(s)
	for {
		other := schema.Copy(s)
		edit(r, &other)
		if _, err := schema.Check(other); err == nil && printed(other) != before {
			return other
		}
	}
}

// edit of a schema in one place, which need not be right then.
func edit(r *rand.Rand, s *api.Schema) {
	what := r.Intn(3)
	switch {
	case what == 0 && len(s.Bonds) > 0:
		editBond(r, &s.Bonds[r.Intn(len(s.Bonds))])
	case what == 1 && len(s.Kinds) > 0:
		editKind(r, &s.Kinds[r.Intn(len(s.Kinds))])
	default:
		editLists(r, s)
	}
}

func editLists(r *rand.Rand, s *api.Schema) {
	switch r.Intn(6) {
	case 0, 1:
		s.Kinds = add(r, s.Kinds, api.Kind{Name: few(r)})
	case 2:
		s.Kinds = drop(r, s.Kinds)
	case 3, 4:
		s.Bonds = add(r, s.Bonds, randomBond(r))
	case 5:
		s.Bonds = drop(r, s.Bonds)
	}
}

func editKind(r *rand.Rand, k *api.Kind) {
	switch r.Intn(6) {
	case 0:
		k.Of = add(r, k.Of, few(r))
	case 1:
		k.Of = drop(r, k.Of)
	case 2:
		r.Shuffle(len(k.Of), func(i, j int) { k.Of[i], k.Of[j] = k.Of[j], k.Of[i] })
	case 3:
		addField(r, k)
	case 4:
		k.Fields = drop(r, k.Fields)
	case 5:
		if len(k.Fields) > 0 {
			f := randomField(r)
			at := &k.Fields[r.Intn(len(k.Fields))]
			at.Type, at.Must, at.Key = pick(r, at.Type, f.Type), f.Must, f.Key
		}
	}
}

func editBond(r *rand.Rand, b *api.Bond) {
	other := randomBond(r)
	switch r.Intn(4) {
	case 0:
		b.From = other.From
	case 1:
		b.To = other.To
	case 2:
		b.Min = other.Min
	case 3:
		b.Max = other.Max
	}
}

// TestRows: D1, rows of pairs of Schemas from a fixed seed, also pairs that differ in one place, or in few.
func TestRows(t *testing.T) {
	r := rand.New(rand.NewSource(18))
	wide, narrow := 0, 0
	for range 3000 {
		s := randomSchema(r)
		checkPair(t, s, randomSchema(r))
		other := s
		for range 3 {
			other = edited(r, other)
			for _, is := range []bool{checkPair(t, s, other), checkPair(t, other, s)} {
				if is {
					wide++
				} else {
					narrow++
				}
			}
		}
	}
	if wide < 2000 || narrow < 2000 {
		t.Errorf("of the pairs that differ in few places %d are as wide, and %d are not", wide, narrow)
	}
}
