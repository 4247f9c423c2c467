package json_test

import (
	"fmt"
	"math/rand/v2"
	"regexp"
	"slices"
	"strconv"
	"strings"
	"testing"
	"unicode/utf8"

	"lockage/api"
	"lockage/json"
	"lockage/quote"
)

// The kinds, as package api counts them.
const (
	kNull = iota + 1
	kFalse
	kTrue
	kNumber
	kText
	kList
	kObject
)

func word(kind int) api.Value { return api.Value{Kind: kind} }

func num(s string) api.Value { return api.Value{Kind: kNumber, Text: s} }

func text(s string) api.Value { return api.Value{Kind: kText, Text: s} }

func list(kids ...api.Value) api.Value { return api.Value{Kind: kList, Kids: kids} }

// object returns an object with those keys, which are separated by blanks.
func object(keys string, kids ...api.Value) api.Value {
	return api.Value{Kind: kObject, Keys: strings.Fields(keys), Kids: kids}
}

// flat returns a list of n values.
func flat(n int) api.Value {
	v := list()
	for range n {
		v.Kids = append(v.Kids, word(kNull))
	}
	return v
}

// nested returns v in so many others, which are lists, objects, or both by turns.
func nested(v api.Value, n int, way string) api.Value {
	for i := range n {
		if way == "lists" || way == "both" && i%2 == 0 {
			v = list(v)
		} else {
			v = object("k", v)
		}
	}
	return v
}

// clone returns v in memory of its own, with room behind each list.
func clone(v api.Value) api.Value {
	c := api.Value{Kind: v.Kind, Text: strings.Clone(v.Text), Keys: make([]string, 0, len(v.Keys)+2), Kids: make([]api.Value, 0, len(v.Kids)+2)}
	c.Keys = append(c.Keys, v.Keys...)
	for _, kid := range v.Kids {
		c.Kids = append(c.Kids, clone(kid))
	}
	return c
}

// shown tells v whole: two values are the same if this is.
func shown(v api.Value) string {
	var b strings.Builder
	fmt.Fprintf(&b, "{%d %q %q [", v.Kind, v.Text, v.Keys)
	for _, kid := range v.Kids {
		b.WriteString(shown(kid))
	}
	b.WriteString("]}")
	return b.String()
}

// short returns s, or its length and its ends if it is long.
func short(s string) string {
	if len(s) <= 300 {
		return strconv.Quote(s)
	}
	return fmt.Sprintf("%d bytes %q..%q", len(s), s[:100], s[len(s)-100:])
}

// wholeNumber is the chapter's text of a number, and nothing else.
var wholeNumber = regexp.MustCompile(`^-?(?:0|[1-9][0-9]*)(?:\.[0-9]+)?(?:[eE][+-]?[0-9]+)?$`)

// right says L1 once more: the values of each depth, one depth after the other.
func right(v api.Value) bool {
	many := 0
	level := []api.Value{v}
	for depth := 1; len(level) > 0; depth++ {
		many += len(level)
		if depth > 16 || many > 500 {
			return false
		}
		var next []api.Value
		for _, one := range level {
			if !rightOne(one) {
				return false
			}
			next = append(next, one.Kids...)
		}
		level = next
	}
	return true
}

// rightOne says what the table says of one value.
func rightOne(v api.Value) bool {
	hasText, hasKeys, hasKids := v.Text != "", len(v.Keys) > 0, len(v.Kids) > 0
	switch v.Kind {
	case kNull, kFalse, kTrue:
		return !hasText && !hasKeys && !hasKids
	case kNumber:
		return wholeNumber.MatchString(v.Text) && !hasKeys && !hasKids
	case kText:
		return utf8.ValidString(v.Text) && !hasKeys && !hasKids
	case kList:
		return !hasText && !hasKeys
	case kObject:
		sorted := slices.Sorted(slices.Values(v.Keys))
		return !hasText && len(v.Keys) == len(v.Kids) && len(slices.Compact(sorted)) == len(v.Keys) && utf8.ValidString(strings.Join(v.Keys, ""))
	}
	return false
}

// printed says L2 once more, of a valid value. What layer 10 says of strings is asked of it.
func printed(v api.Value) string {
	out := ""
	for i, kid := range v.Kids {
		if i > 0 {
			out += ","
		}
		if v.Kind == kObject {
			key, _ := quote.Quote(v.Keys[i])
			out += key + ":"
		}
		out += printed(kid)
	}
	q, _ := quote.Quote(v.Text)
	return []string{"", "null", "false", "true", v.Text, q, "[" + out + "]", "{" + out + "}"}[v.Kind]
}

// checkValue holds Right and Print against L1 and L2, and Parse of what was printed against L5.
func checkValue(t *testing.T, v api.Value, want bool) {
	t.Helper()
	if got := json.Right(v); got != want || right(v) != want {
		t.Errorf("Right(%s): %v, want %v", short(shown(v)), got, want)
	}
	got, e := json.Print(v)
	if !want {
		if got != "" || e != 1 {
			t.Errorf("Print(%s): %s %d, want ErrArg", short(shown(v)), short(got), e)
		}
		return
	}
	if s := printed(v); got != s || e != api.OK {
		t.Errorf("Print(%s): %s %d, want %s", short(shown(v)), short(got), e, short(s))
	}
	if len(got) <= 4000 {
		wantParse(t, got, v)
	} else {
		wantFault(t, got, 2, 0)
	}
}

// wantParse holds Parse against a value, and that against being valid.
func wantParse(t *testing.T, s string, want api.Value) {
	t.Helper()
	v, e, at := json.Parse(s)
	if shown(v) != shown(want) || e != api.OK || at != 0 {
		t.Errorf("Parse(%s): %s %d %d, want %s", short(s), short(shown(v)), e, at, short(shown(want)))
	}
	if !json.Right(v) || !json.Same(v, want) {
		t.Errorf("Parse(%s): %s is not valid, or not the same", short(s), short(shown(v)))
	}
}

// wantFault holds Parse against an error and its position.
func wantFault(t *testing.T, s string, wantE api.Errno, wantAt int) {
	t.Helper()
	v, e, at := json.Parse(s)
	if e != wantE || at != wantAt || shown(v) != shown(api.Value{}) {
		t.Errorf("Parse(%s): %s %d %d, want %d %d", short(s), short(shown(v)), e, at, wantE, wantAt)
	}
}

func TestErrors(t *testing.T) {
	if api.OK != 0 || api.ErrArg != 1 || api.ErrLong != 2 || api.ErrText != 30 || api.ErrJson != 31 || api.ErrDeep != 32 {
		t.Error("the errors' numbers are those of the chapter")
	}
	if kNull != api.Null || kFalse != api.False || kTrue != api.True || kNumber != api.Number || kText != api.Text || kList != api.List || kObject != api.Object {
		t.Error("the kinds are those of package api")
	}
}

func TestExample(t *testing.T) {
	v := object("a", list(num("1"), word(kTrue)))
	wantParse(t, `{"a": [1, true]}`, v)
	if s, e := json.Print(v); s != `{"a":[1,true]}` || e != api.OK {
		t.Errorf("%s %d", s, e)
	}
}

// anyString returns a string of pieces that matter in literals, which is valid but for a few.
func anyString(r *rand.Rand, few int) string {
	pieces := []string{"a", "b", "0", " ", "\"", "\\", "/", "\n", "\r", "\t", "\x00", "\x1f", "\x7f", "\u00e4", "\u20ac", "\ufffd", "\U0001f600", "[", "}", ",", ":", "\\u0041"}
	s := ""
	for range r.IntN(4) {
		s += pieces[r.IntN(len(pieces))]
	}
	if few > 0 && r.IntN(few) == 0 {
		s += string([]byte{byte(0x80 + r.IntN(0x80))})
	}
	return s
}

// anyNumber returns the text of a number.
func anyNumber(r *rand.Rand) string {
	s := []string{"", "-"}[r.IntN(2)] + []string{"0", strconv.Itoa(1 + r.IntN(9999))}[r.IntN(2)]
	if r.IntN(2) == 0 {
		s += "." + strings.Repeat("0", r.IntN(3)) + strconv.Itoa(r.IntN(100))
	}
	if r.IntN(2) == 0 {
		s += []string{"e", "E"}[r.IntN(2)] + []string{"", "+", "-"}[r.IntN(3)] + strings.Repeat("0", r.IntN(3)) + strconv.Itoa(r.IntN(100))
	}
	return s
}

// anyValue returns a valid value with at most so many values in it at each depth.
func anyValue(r *rand.Rand, deep, wide int) api.Value {
	v := api.Value{Kind: 1 + r.IntN(7)}
	if deep == 0 {
		v.Kind = 1 + r.IntN(5)
	}
	switch v.Kind {
	case kNumber:
		v.Text = anyNumber(r)
	case kText:
		v.Text = anyString(r, 0)
	case kList, kObject:
		for range r.IntN(wide + 1) {
			v.Kids = append(v.Kids, anyValue(r, deep-1, wide))
		}
	}
	for len(v.Keys) < len(v.Kids) && v.Kind == kObject {
		key := anyString(r, 0)
		if !slices.Contains(v.Keys, key) {
			v.Keys = append(v.Keys, key)
		}
	}
	return v
}

// spoil changes one thing in v, which may make it not valid.
func spoil(r *rand.Rand, v *api.Value) {
	if len(v.Kids) > 0 && r.IntN(3) > 0 {
		spoil(r, &v.Kids[r.IntN(len(v.Kids))])
		return
	}
	switch r.IntN(7) {
	case 0:
		v.Kind = r.IntN(10) - 1
	case 1:
		v.Text += anyString(r, 2)
	case 2:
		v.Text = anyNumber(r) + []string{"", ".", "e", "+1", " "}[r.IntN(5)]
	case 3:
		v.Keys = append(v.Keys, anyString(r, 3))
	case 4:
		v.Kids = append(v.Kids, api.Value{Kind: r.IntN(9)})
	case 5:
		if len(v.Keys) > 0 {
			v.Keys[r.IntN(len(v.Keys))] = anyString(r, 2)
		}
	case 6:
		v.Kids, v.Keys = nil, nil
	}
}

func TestRandomValues(t *testing.T) {
	r := rand.New(rand.NewPCG(11, 1))
	seen := map[bool]int{}
	for range 60000 {
		v := anyValue(r, 3, 4)
		checkValue(t, v, true)
		for range 1 + r.IntN(2) {
			spoil(r, &v)
		}
		is := right(v)
		checkValue(t, v, is)
		seen[is]++
	}
	// Else the test would not say what it means.
	if seen[true] < 10000 || seen[false] < 10000 {
		t.Error(seen)
	}
}

// Arguments are not modified, also beyond the lengths of their lists.
func TestArgumentsStay(t *testing.T) {
	r := rand.New(rand.NewPCG(11, 2))
	behind := func(v api.Value) string {
		return fmt.Sprintf("%q %v", v.Keys[:cap(v.Keys)], v.Kids[:cap(v.Kids)])
	}
	for range 20000 {
		v := clone(anyValue(r, 2, 3))
		if r.IntN(2) == 0 {
			spoil(r, &v)
		}
		other := clone(v)
		before, room := shown(v), behind(v)
		json.Right(v)
		json.Print(v)
		json.Same(v, other)
		json.Same(other, v)
		if shown(v) != before || shown(other) != before || behind(v) != room {
			t.Fatalf("%s became %s", before, shown(v))
		}
	}
}

// What one call returned shares no list with what another one did, nor do two lists of one value.
func TestMemoryOfItsOwn(t *testing.T) {
	s := `[{"a":[1,2],"b":[3]},[{"c":null},{"d":null}],[],{},[true,[false]]]`
	other, _, _ := json.Parse(s)
	want := shown(other)
	var lists func(v *api.Value) []*api.Value
	lists = func(v *api.Value) []*api.Value {
		out := []*api.Value{v}
		for i := range v.Kids {
			out = append(out, lists(&v.Kids[i])...)
		}
		return out
	}
	count := len(lists(&other))
	for i := range count {
		v, _, _ := json.Parse(s)
		whole, _, _ := json.Parse(s)
		all, alone := lists(&v), lists(&whole)
		for j, key := range all[i].Keys[:cap(all[i].Keys)] {
			all[i].Keys[:cap(all[i].Keys)][j] = key + "spoilt"
			if j < len(alone[i].Keys) {
				alone[i].Keys[j] = key + "spoilt"
			}
		}
		for j := range all[i].Kids[:cap(all[i].Kids)] {
			all[i].Kids[:cap(all[i].Kids)][j].Text = "spoilt"
			if j < len(alone[i].Kids) {
				alone[i].Kids[j].Text = "spoilt"
			}
		}
		// In whole, only what is to be seen of that one list was changed.
		if shown(v) != shown(whole) || shown(other) != want {
			t.Errorf("%d: %s", i, shown(v))
		}
	}
}
