package ask

import (
	"kinshape/api"
	"kinshape/value"
)

// reader goes over a text. Where it cannot read on, it stands at the first byte that cannot stand there, or at the end of a text that ends too early.
type reader struct {
	text string
	at   int
}

// Parse a path.
func Parse(text string) (l []api.Step, at int, err error) {
	r := reader{text: text}
	l, ok := r.steps()
	if !ok {
		return nil, r.at, api.ErrSyntax
	}
	if err := Plain(l); err != nil {
		return nil, 0, err
	}
	return l, 0, nil
}

// steps reads all of the text.
func (r *reader) steps() (l []api.Step, ok bool) {
	for {
		p, ok := r.step(len(l) == 0)
		if !ok {
			return nil, false
		}
		l = withOne(l, p, api.MaxSteps)
		if r.ended() {
			return l, true
		}
	}
}

// withOne has one more behind a list, up to one too many, which is enough for Plain: a text may have any number.
func withOne[T any](l []T, one T, most int) []T {
	if len(l) > most {
		return l
	}
	return append(l, one)
}

func (r *reader) step(first bool) (p api.Step, ok bool) {
	if !first {
		if p.Bond, p.Back, ok = r.bond(); !ok {
			return api.Step{}, false
		}
	}
	if p.Kind, ok = r.name(); !ok {
		return api.Step{}, false
	}
	p.Tests, ok = r.tests()
	return p, ok
}

// bond reads one in its arrow, and the blanks on both sides.
func (r *reader) bond() (name string, back, ok bool) {
	if !r.take(blank) {
		return "", false, false
	}
	// The first byte alone tells the two arrows apart.
	back = r.sees('<')
	ends := arrow(back)
	if !r.take(ends[0]) {
		return "", false, false
	}
	name, ok = r.name()
	return name, back, ok && r.take(ends[1]+blank)
}

// tests reads those of a step, if it has any.
func (r *reader) tests() (l []api.Test, ok bool) {
	if !r.take(open) {
		return nil, true
	}
	for {
		t, ok := r.test()
		if !ok {
			return nil, false
		}
		l = withOne(l, t, api.MaxProps)
		if !r.take(comma) {
			return l, r.take(shut)
		}
	}
}

func (r *reader) test() (t api.Test, ok bool) {
	if t.Name, ok = r.name(); !ok {
		return api.Test{}, false
	}
	t.How = r.how()
	if t.How == api.Has {
		return t, true
	}
	t.Value, ok = r.value()
	return t, ok
}

// how reads a test's sign. A name without one asks for Has.
func (r *reader) how() int {
	for how := api.Is; how < len(signs); how++ {
		if r.take(signs[how]) {
			return how
		}
	}
	return api.Has
}

// value reads a word that is one. At any other word the reader stays where it begins.
func (r *reader) value() (api.Value, bool) {
	word := valueWord(r.text[r.at:])
	v, err := value.Parse(word)
	if err != nil {
		return api.Value{}, false
	}
	r.at += len(word)
	return v, true
}

// valueWord is what stands ahead of the first comma or bracket that is in no quotes, or all of the text. A quote that is written twice ends the quotes and begins them again, so that each one may be counted alike.
func valueWord(text string) string {
	inQuotes := false
	for i := range len(text) {
		switch text[i] {
		case '\'':
			inQuotes = !inQuotes
		case ',', ']':
			if !inQuotes {
				return text[:i]
			}
		}
	}
	return text
}

// name reads letters, as many as there are. Whether they are too many, Plain tells.
func (r *reader) name() (string, bool) {
	from := r.at
	for !r.ended() && 'a' <= r.text[r.at] && r.text[r.at] <= 'z' {
		r.at++
	}
	return r.text[from:r.at], r.at > from
}

// take reads a word, or as much of it as there is: what is missing is told at the byte in its place.
func (r *reader) take(word string) bool {
	for i := range len(word) {
		if !r.sees(word[i]) {
			return false
		}
		r.at++
	}
	return true
}

func (r *reader) sees(c byte) bool {
	return !r.ended() && r.text[r.at] == c
}

func (r *reader) ended() bool {
	return r.at == len(r.text)
}
