package json_test

import (
	"math/rand/v2"
	"runtime/debug"
	"slices"
	"testing"

	"lockage/api"
	"lockage/json"
)

func wantSame(t *testing.T, a, b api.Value, want bool) {
	t.Helper()
	if json.Same(a, b) != want || json.Same(b, a) != want {
		t.Errorf("Same(%s, %s): want %v", short(shown(a)), short(shown(b)), want)
	}
	if want != (shown(a) == shown(b)) {
		t.Errorf("%s and %s", short(shown(a)), short(shown(b)))
	}
}

// differing is values of which no two are the same, valid ones and others.
func differing() []api.Value {
	one, two := num("1"), num("2")
	return []api.Value{
		{}, {Kind: -1}, {Kind: 8}, {Text: "x"}, {Keys: []string{"a"}}, {Kids: []api.Value{{}}}, {Kids: []api.Value{{}, {}}},
		word(kNull), word(kFalse), word(kTrue), {Kind: kNull, Text: "x"}, {Kind: kNull, Keys: []string{""}}, {Kind: kNull, Kids: []api.Value{{}}},
		num(""), num("1"), num("2"), num("-1"), num("1.0"), num("10e-1"), num("01"), num("0"), num("-0"),
		text(""), text("1"), text("a"), text("A"), text("a "), text("\u00e4"), text("a\u0308"), text("\xff"), text("\ufffd"), text("\x00"),
		list(), list(one), list(two), list(one, two), list(two, one), list(one, one), list(one, one, one), list(list(one, one)), list(one, list(one)), list(list(one), one), list(list(), list()), list(list(list())), list(object("")), list(word(kNull)), list(word(kFalse)), list(api.Value{}),
		{Kind: kList, Text: "x"}, {Kind: kList, Keys: []string{"a"}}, {Kind: kList, Keys: []string{"a"}, Kids: []api.Value{one}},
		object(""), object("a"), object("b"), object("a b"), object("b a"), object("", one), object("a", one), object("a", two), object("b", one), object("a a", one, one), object("a", one, one), object("a b", one), object("a b", one, two), object("b a", one, two), object("a b", two, one), object("b a", two, one), object("a b", one, one), object("ab", one, two), object("a", object("a", one)), object("a", object("b", one)), object("a", object("a", two)), object("a", list(one)), {Kind: kObject, Keys: []string{""}, Kids: []api.Value{one}}, {Kind: kObject, Text: "x", Keys: []string{"a"}, Kids: []api.Value{one}},
		{Kind: kObject, Keys: []string{"a,", "b"}}, {Kind: kObject, Keys: []string{"a", ",b"}}, {Kind: kObject, Keys: []string{"", "a"}}, {Kind: kObject, Keys: []string{"a", ""}},
		flat(499), flat(500), flat(501), nested(one, 15, "lists"), nested(one, 16, "lists"), nested(two, 16, "lists"), nested(one, 16, "both"), nested(one, 17, "lists"),
	}
}

func TestL4(t *testing.T) {
	all := differing()
	for i, a := range all {
		wantSame(t, a, clone(a), true)
		for j, b := range all {
			wantSame(t, a, b, i == j)
			wantSame(t, list(word(kNull), a), list(word(kNull), clone(b)), i == j)
			wantSame(t, object("a b", a, word(kNull)), object("a b", b, word(kNull)), i == j)
			wantSame(t, list(a, b), list(b, a), i == j)
		}
	}
}

// A list without elements is empty, whether it is nil or not.
func TestL4Empty(t *testing.T) {
	for kind := range 9 {
		none := api.Value{Kind: kind}
		for _, v := range []api.Value{{Kind: kind, Keys: []string{}}, {Kind: kind, Kids: []api.Value{}}, {Kind: kind, Keys: []string{}, Kids: []api.Value{}}, {Kind: kind, Keys: make([]string, 0, 3), Kids: make([]api.Value, 0, 3)}} {
			if !json.Same(none, v) || !json.Same(v, none) || !json.Same(list(none), list(v)) || json.Right(v) != json.Right(none) {
				t.Errorf("%d", kind)
			}
		}
	}
}

// Values that share memory, of which one is longer.
func TestL4SharedMemory(t *testing.T) {
	v := flat(5)
	wantSame(t, v, api.Value{Kind: kList, Kids: v.Kids[:4]}, false)
	wantSame(t, v, api.Value{Kind: kList, Kids: v.Kids[1:]}, false)
	wantSame(t, api.Value{Kind: kList, Kids: v.Kids[:4]}, api.Value{Kind: kList, Kids: v.Kids[1:]}, true)
	o := object("a b c", v, v, v)
	wantSame(t, o, api.Value{Kind: kObject, Keys: o.Keys[:2], Kids: o.Kids}, false)
	wantSame(t, o, api.Value{Kind: kObject, Keys: o.Keys, Kids: o.Kids[:2]}, false)
	wantSame(t, o, o, true)
}

func TestL4OneChange(t *testing.T) {
	r := rand.New(rand.NewPCG(11, 4))
	seen := map[bool]int{}
	for range 60000 {
		a := anyValue(r, 3, 4)
		b := clone(a)
		wantSame(t, a, b, true)
		spoil(r, &b)
		wantSame(t, a, b, shown(a) == shown(b))
		seen[shown(a) == shown(b)]++
		if len(a.Kids) > 1 {
			c := clone(a)
			slices.Reverse(c.Kids)
			wantSame(t, a, c, shown(a) == shown(c))
		}
		if len(a.Keys) > 1 {
			c := clone(a)
			slices.Reverse(c.Keys)
			wantSame(t, a, c, false)
		}
	}
	if seen[true] < 100 || seen[false] < 10000 {
		t.Error(seen)
	}
}

// Values that are nested in very many others, or have very many in them, are not valid; the calls end all the same, with no more than a little of a stack.
func TestL4Endless(t *testing.T) {
	defer debug.SetMaxStack(debug.SetMaxStack(1 << 24))
	a, b, c := num("1"), num("1"), num("2")
	for range 500000 {
		a, b, c = list(a), list(b), list(c)
	}
	if !json.Same(a, b) || !json.Same(a, a) || json.Same(a, c) || json.Same(a, list(b)) || json.Right(a) {
		t.Error("deep")
	}
	if s, e := json.Print(a); s != "" || e != api.ErrArg {
		t.Errorf("%d bytes, error %d", len(s), e)
	}
	a, b = flat(500000), flat(500000)
	if !json.Same(a, b) || json.Right(a) {
		t.Error("wide")
	}
	b.Kids[499999].Text = "x"
	if json.Same(a, b) {
		t.Error("wide, and the last one is another")
	}
}
