package schema

import (
	"slices"
	"strconv"
	"strings"

	"kinshape/api"
	"kinshape/lines"
)

const (
	kindWord = "kind"
	ofWord   = "of"
	bondWord = "bond"
	anyWord  = "any"
	comma    = ","
	colon    = ":"
	mustMark = "!"
	keyMark  = "*" // what is a Key must be there: it says both

	bondWords = 6  // of a bond's line
	mostRead  = 99 // the greatest number of two digits
)

// typeWords has the word of each type in the type's place, and none in that of type 0.
var typeWords = [...]string{api.Int: "int", api.Bool: "bool", api.Text: "text"}

// Print a schema.
func Print(s api.Schema) (string, error) {
	if _, err := Check(s); err != nil {
		return "", err
	}
	var text strings.Builder
	for _, k := range s.Kinds {
		text.WriteString(lines.Made(printKind(k)...))
	}
	for _, b := range s.Bonds {
		text.WriteString(lines.Made(printBond(b)...))
	}
	return text.String(), nil
}

// Parse a schema.
func Parse(text string) (api.Schema, int, error) {
	var s api.Schema
	for at, line := range lines.Of(text) {
		words, ended := wordsOf(line)
		if !ended || !addLine(&s, words) {
			return api.Schema{}, at, api.ErrSyntax
		}
	}
	if _, err := Check(s); err != nil {
		return api.Schema{}, 0, err
	}
	return s, 0, nil
}

// wordsOf has the words of a line, empty ones where blanks meet; false: it does not end.
func wordsOf(line string) ([]string, bool) {
	inner, ended := strings.CutSuffix(line, lines.End)
	return strings.Split(inner, lines.Blank), ended
}

func printKind(k api.Kind) []string {
	words := []string{kindWord, k.Name}
	if len(k.Of) > 0 {
		words = append(words, ofWord, strings.Join(k.Of, comma))
	}
	for _, f := range k.Fields {
		words = append(words, printField(f))
	}
	return words
}

func printField(f api.Field) string {
	word := f.Name + colon + typeWords[f.Type]
	switch {
	case f.Key:
		return word + keyMark
	case f.Must:
		return word + mustMark
	}
	return word
}

func printBond(b api.Bond) []string {
	most := anyWord
	if b.Max != anyTies {
		most = strconv.Itoa(b.Max)
	}
	return []string{bondWord, b.Name, b.From, b.To, strconv.Itoa(b.Min), most}
}

// addLine puts the kind or the bond of a line into the schema; false: it is neither, or a kind behind a bond.
func addLine(s *api.Schema, words []string) bool {
	if b, ok := parseBond(words); ok {
		s.Bonds = withOne(s.Bonds, b)
		return true
	}
	k, ok := parseKind(words)
	if !ok || len(s.Bonds) > 0 {
		return false
	}
	s.Kinds = withOne(s.Kinds, k)
	return true
}

// withOne has one more behind a list, up to one too many, which is enough for Check: a text may have any number.
func withOne[T any](l []T, one T) []T {
	if len(l) > api.MaxTypes {
		return l
	}
	return append(l, one)
}

// parseKind reads kind NAME, of and names, if they are there, and fields. A word without a colon is no field, so that none can be taken for of.
func parseKind(words []string) (k api.Kind, ok bool) {
	if len(words) < 2 || words[0] != kindWord {
		return api.Kind{}, false
	}
	k.Name, words = words[1], words[2:]
	if len(words) > 1 && words[0] == ofWord {
		k.Of, words = strings.Split(words[1], comma), words[2:]
	}
	if !areNames(k.Name) || !areNames(k.Of...) {
		return api.Kind{}, false
	}
	for _, word := range words {
		f, ok := parseField(word)
		if !ok {
			return api.Kind{}, false
		}
		k.Fields = append(k.Fields, f)
	}
	return k, true
}

// parseField reads NAME:TYPE, with one mark behind, if there is one.
func parseField(word string) (api.Field, bool) {
	name, rest, _ := strings.Cut(word, colon)
	rest, key := strings.CutSuffix(rest, keyMark)
	must := key
	if !key {
		rest, must = strings.CutSuffix(rest, mustMark)
	}
	f := api.Field{Name: name, Type: typeOf(rest), Must: must, Key: key}
	return f, areNames(name) && f.Type != 0
}

// typeOf is the type of a word; 0: it is that of none.
func typeOf(word string) int {
	for t, w := range typeWords {
		if w == word {
			return t
		}
	}
	return 0
}

// parseBond reads bond NAME FROM TO MIN MAX.
func parseBond(words []string) (api.Bond, bool) {
	if len(words) != bondWords || words[0] != bondWord || !areNames(words[1:4]...) {
		return api.Bond{}, false
	}
	least, isLeast := lines.Number(words[4], mostRead)
	most, isMost := lines.Number(words[5], mostRead)
	if words[5] == anyWord {
		most, isMost = anyTies, true
	}
	return api.Bond{Name: words[1], From: words[2], To: words[3], Min: least, Max: most}, isLeast && isMost
}

// areNames tells whether words may stand where names are to be. Whether they are some, Check tells.
func areNames(words ...string) bool {
	noName := func(word string) bool { return word == "" || strings.ContainsAny(word, comma+colon) }
	return !slices.ContainsFunc(words, noName)
}
