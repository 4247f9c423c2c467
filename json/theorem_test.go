package json_test

import (
	"math/rand/v2"
	"strings"
	"testing"

	"lockage/api"
	"lockage/json"
)

// small returns valid values: all of up to that depth, with up to two in each, of a few that have none in them.
func small(deep int) []api.Value {
	out := []api.Value{word(kNull), word(kTrue), num("1"), num("1.0"), text("1"), text(""), list(), object("")}
	if deep == 0 {
		return out
	}
	inner := small(deep - 1)
	for _, a := range inner {
		out = append(out, list(a), object("a", a), object("b", a), api.Value{Kind: kObject, Keys: []string{""}, Kids: []api.Value{a}})
		for _, b := range inner {
			out = append(out, list(a, b), object("a b", a, b), object("b a", a, b))
		}
	}
	return out
}

// What is printed is parsed to the same, and what differs is printed differently.
func TestL5Small(t *testing.T) {
	printedAs := map[string]api.Value{}
	for _, v := range small(2) {
		s, e := json.Print(v)
		w, f, at := json.Parse(s)
		if e != api.OK || f != api.OK || at != 0 || !json.Same(v, w) || !json.Right(w) {
			t.Errorf("%s: %s %d, then %s %d %d", shown(v), s, e, shown(w), f, at)
		}
		if other, is := printedAs[s]; is && !json.Same(v, other) {
			t.Errorf("%s: both %s and %s", s, shown(v), shown(other))
		}
		printedAs[s] = v
	}
	if len(printedAs) < 100000 {
		t.Errorf("%d texts", len(printedAs))
	}
}

func TestL5Different(t *testing.T) {
	printedAs := map[string]api.Value{}
	for _, v := range differing() {
		s, e := json.Print(v)
		if !json.Right(v) {
			continue
		}
		if other, is := printedAs[s]; is || e != api.OK || s == "" {
			t.Errorf("%s: both %s and %s", s, shown(v), shown(other))
		}
		printedAs[s] = v
	}
	if len(printedAs) < 30 {
		t.Errorf("%d texts", len(printedAs))
	}
}

// What is parsed is valid, and printed and parsed again it is the same.
func TestL5Parsed(t *testing.T) {
	r := rand.New(rand.NewPCG(11, 5))
	for range 30000 {
		s := spaced(r, anyValue(r, 4, 3))
		if len(s) > 4000 {
			continue
		}
		v, e, _ := json.Parse(s)
		again, f := json.Print(v)
		w, g, _ := json.Parse(again)
		third, h := json.Print(w)
		if e != api.OK || f != api.OK || g != api.OK || h != api.OK || !json.Right(v) || !json.Same(v, w) || third != again {
			t.Errorf("%s: %d, %s %d, %d, %s %d", short(s), e, short(again), f, g, short(third), h)
		}
	}
}

// At the limits: as deep, as many and as long as may be.
func TestL5Limits(t *testing.T) {
	for _, v := range []api.Value{nested(num("1"), 15, "lists"), nested(text("\n"), 15, "objects"), nested(object(""), 15, "both"), flat(499), list(flat(200), flat(297)), text(strings.Repeat("x", 3998)), num(strings.Repeat("7", 4000)), text(strings.Repeat("\n", 1999)), list(nested(list(), 14, "lists"), flat(483))} {
		s, e := json.Print(v)
		w, f, at := json.Parse(s)
		if e != api.OK || f != api.OK || at != 0 || !json.Same(v, w) || !json.Right(w) {
			t.Errorf("%s: %d, then %d %d", short(s), e, f, at)
		}
	}
	// Longer than a text may be, when it is printed.
	for _, v := range []api.Value{text(strings.Repeat("x", 3999)), num(strings.Repeat("7", 4001)), text(strings.Repeat("\n", 2000))} {
		s, e := json.Print(v)
		if e != api.OK {
			t.Errorf("error %d", e)
		}
		wantFault(t, s, 2, 0)
	}
}
