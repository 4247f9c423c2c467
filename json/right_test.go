package json_test

import (
	"fmt"
	"strings"
	"testing"

	"lockage/api"
	"lockage/json"
)

// Each kind, and some that are none, with each field empty and not.
func TestL1Kinds(t *testing.T) {
	texts := []string{"", "1", "x", "\xff", "null"}
	keys := [][]string{nil, {}, {"a"}, {"a", "b"}}
	kids := [][]api.Value{nil, {}, {word(kNull)}, {word(kNull), num("0")}, {{}}}
	valid := map[string]bool{}
	for _, kind := range []int{-1 << 63, -2, -1, 0, 1, 2, 3, 4, 5, 6, 7, 8, 9, 1<<63 - 1} {
		for _, s := range texts {
			for _, ks := range keys {
				for i, vs := range kids {
					v := api.Value{Kind: kind, Text: s, Keys: ks, Kids: vs}
					is := right(v)
					checkValue(t, v, is)
					if is {
						valid[fmt.Sprintf("%d %s %d %d", kind, s, len(ks), len(vs))] = true
					}
					if is && i == len(kids)-1 {
						t.Errorf("%s: a value in it has no kind", shown(v))
					}
				}
			}
		}
	}
	want := []string{"1  0 0", "2  0 0", "3  0 0", "4 1 0 0", "5  0 0", "5 1 0 0", "5 x 0 0", "5 null 0 0", "6  0 0", "6  0 1", "6  0 2", "7  0 0", "7  1 1", "7  2 2"}
	for _, s := range want {
		if !valid[s] {
			t.Errorf("%s is missing", s)
		}
	}
	if len(valid) != len(want) {
		t.Errorf("%v", valid)
	}
}

// numbers is texts of numbers.
func numbers() []string {
	return []string{
		"0", "-0", "1", "9", "-1", "-9", "10", "12", "90", "-10", "100", "1234567890", "-9876543210", strings.Repeat("9", 3000),
		"0.0", "-0.0", "0.5", "0.05", "0.50", "1.0", "1.00", "12.34", "-12.34", "0.1234567890", "9.9", "0." + strings.Repeat("0", 3000),
		"0e0", "0E0", "-0e-0", "1e5", "1E5", "1e+5", "1E+5", "1e-5", "1E-5", "1e05", "1e00", "1e+00", "-1e-09", "1e1234567890", "12e34",
		"0.5e0", "-0.50E+07", "1.5e5", "1.5E-5", "12.34e56", "-12.34E+56", "1e" + strings.Repeat("1", 3000),
	}
}

// noNumbers is texts that are none of a number, nor begin with one that something follows.
func noNumbers() []string {
	return []string{
		"", "-", "--1", "-+1", "+", "+1", "+0", ".", ".5", "-.5", "+.5", "..", "e", "E", "e5", "E5", "-e5", ".e5",
		"0.", "-0.", "1.", "12.", "-12.", "1.e5", "1.E5", "0.e", "1.-5", "1.+5", "1..", "1..5", "1.a",
		"0e", "1e", "1E", "-1e", "1e+", "1e-", "1E+", "1E-", "1e++5", "1e--5", "1e+-5", "1e.5", "1e+.5", "1ee5", "1eE", "1ex", "0e ", "1e 5", "1e+ 5",
		"1.5e", "1.5E", "1.5e+", "1.5e-", "1.5e.", "1.5ex", "- 1", "-a", "-null",
		" 1", "\t1", "\n1", "\r1", "x", "a1", "Infinity", "-Infinity", "NaN", "\x00", "\xff", "\u0661", "-\u0661", "1.\u0661", "1e\u0661",
	}
}

// followed is texts that begin with the text of a number, which something follows, and how long that is.
func followed() map[string]int {
	return map[string]int{
		"00": 1, "01": 1, "-00": 2, "-01": 2, "000": 1, "01.5": 1, "01e5": 1, "09": 1, "-09": 2, "0a": 1, "0x10": 1, "0 ": 1, "0 1": 1, "0-": 1, "0-1": 1, "0+1": 1,
		"1 ": 1, "1 .5": 1, "1 e5": 1, "1\t": 1, "1\n": 1, "1\r": 1, "1\x00": 1, "1-": 1, "1-1": 1, "1+": 1, "1+1": 1, "1x": 1, "1_000": 1, "1,5": 1, "1f": 1, "1a": 1, "1\u0661": 1, "1\xff": 1, "12-": 2,
		"1.5.": 3, "1.5.5": 3, "0.0.0": 3, "1.5-": 3, "1.5+5": 3, "1.5 ": 3, "1.5 e5": 3, "1.5x": 3,
		"1e5.": 3, "1e5.5": 3, "1e5e": 3, "1e5e5": 3, "1E5E": 3, "1e5-": 3, "1e5+": 3, "1e5+5": 3, "1e+5-5": 4, "1e5x": 3, "1e5 ": 3, "1.5e5.": 5, "1.5e5e": 5, "1.5e5.5": 5, "1.5e-5e": 6,
	}
}

func TestL1Numbers(t *testing.T) {
	for _, s := range numbers() {
		checkValue(t, num(s), true)
		checkValue(t, list(num(s), num(s)), true)
		checkValue(t, num("-"+s), !strings.HasPrefix(s, "-"))
		for _, more := range []string{" ", "\t", "\n", "\r", "\v", "\x00", "-", "+", "x", ",", "\"", "]", "\xff", "\u0661"} {
			checkValue(t, num(s+more), false)
			checkValue(t, num(more+s), more == "-" && !strings.HasPrefix(s, "-"))
		}
	}
	for _, s := range noNumbers() {
		checkValue(t, num(s), false)
		checkValue(t, list(word(kNull), num(s)), false)
	}
	for s, n := range followed() {
		checkValue(t, num(s), false)
		checkValue(t, num(s[:n]), true)
	}
}

// Each row of a few bytes that matter in numbers.
func TestL1NumberRows(t *testing.T) {
	rows([]string{"-", "0", "1", "9", ".", "e", "E", "+", " "}, 6, func(s string) {
		if got := json.Right(num(s)); got != wholeNumber.MatchString(s) {
			t.Errorf("%q: %v", s, got)
		}
	})
}

// Each byte at each place of a number.
func TestL1NumberBytes(t *testing.T) {
	for c := range 256 {
		b := string([]byte{byte(c)})
		for _, s := range []string{"", "0", "-1", "1.5", "1e5", "-12.34E+56"} {
			for i := range len(s) + 1 {
				checkValue(t, num(s[:i]+b+s[i:]), wholeNumber.MatchString(s[:i]+b+s[i:]))
			}
		}
	}
}

func TestL1Texts(t *testing.T) {
	for s, want := range map[string]bool{
		"": true, "a": true, "\x00": true, "\n": true, "\"": true, "\\": true, "\x7f": true, "\u00e4": true, "\u20ac": true, "\U0001f600": true, "\ufffd": true, "\U0010ffff": true,
		"\x80": false, "\xff": false, "\xc0\x80": false, "\xc3": false, "\xe2\x82": false, "\xed\xa0\x80": false, "\xf4\x90\x80\x80": false, "a\xff": false, "\xffa": false,
	} {
		checkValue(t, text(s), want)
		checkValue(t, list(text("x"), text(s)), want)
		checkValue(t, text(strings.Repeat("x", 5000)+s), want)
		checkValue(t, api.Value{Kind: kObject, Keys: []string{s}, Kids: []api.Value{word(kTrue)}}, want)
		checkValue(t, api.Value{Kind: kObject, Keys: []string{"k", s}, Kids: []api.Value{num("1"), num("2")}}, want)
		checkValue(t, list(api.Value{Kind: kObject, Keys: []string{s, "k"}, Kids: []api.Value{text("k"), text("k")}}), want)
	}
}

func TestL1Keys(t *testing.T) {
	one := word(kNull)
	for _, c := range []struct {
		keys []string
		kids int
		want bool
	}{
		{nil, 0, true}, {nil, 1, false}, {nil, 2, false},
		{[]string{"a"}, 0, false}, {[]string{"a"}, 1, true}, {[]string{"a"}, 2, false}, {[]string{""}, 1, true},
		{[]string{"a", "b"}, 0, false}, {[]string{"a", "b"}, 1, false}, {[]string{"a", "b"}, 2, true}, {[]string{"a", "b"}, 3, false}, {[]string{"b", "a"}, 2, true},
		{[]string{"a", "a"}, 2, false}, {[]string{"", ""}, 2, false}, {[]string{"", "a"}, 2, true}, {[]string{"a", "A"}, 2, true}, {[]string{"a", "a "}, 2, true}, {[]string{"a", "aa"}, 2, true},
		{[]string{"a", "b", "a"}, 3, false}, {[]string{"a", "b", "b"}, 3, false}, {[]string{"b", "b", "a"}, 3, false}, {[]string{"a", "b", "c"}, 3, true}, {[]string{"c", "a", "b"}, 3, true},
		{[]string{"\u00e4", "\u00e4"}, 2, false}, {[]string{"\u00e4", "a\u0308"}, 2, true}, {[]string{"a", "\\u0061"}, 2, true}, {[]string{"\x00", ""}, 2, true},
	} {
		v := api.Value{Kind: kObject, Keys: c.keys}
		for range c.kids {
			v.Kids = append(v.Kids, one)
		}
		checkValue(t, v, c.want)
		checkValue(t, list(one, v), c.want)
		checkValue(t, object("a", v), c.want)
	}
	// The same key in two objects, of which one may be in the other.
	checkValue(t, list(object("a", one), object("a", one)), true)
	checkValue(t, object("a b", object("a b", one, one), object("b a", one, one)), true)
}

// A wrong value at each place of a valid one.
func TestL1WrongInside(t *testing.T) {
	for _, wrong := range []api.Value{{}, {Kind: 8}, {Kind: -1}, num(""), num("01"), text("\xff"), {Kind: kNull, Text: "x"}, {Kind: kFalse, Keys: []string{"a"}}, {Kind: kTrue, Kids: flat(1).Kids}, {Kind: kList, Keys: []string{"a"}}, {Kind: kList, Text: "a"}, {Kind: kObject, Text: "a"}, {Kind: kObject, Keys: []string{"a"}}, {Kind: kObject, Kids: flat(1).Kids}} {
		checkValue(t, wrong, false)
		for i := range 5 {
			for _, good := range []api.Value{word(kNull), num("0"), text(""), list(), object("")} {
				l, o := list(good, good, good, good, good), object("a b c d e", good, good, good, good, good)
				checkValue(t, l, true)
				checkValue(t, o, true)
				l.Kids[i], o.Kids[i] = wrong, wrong
				checkValue(t, l, false)
				checkValue(t, o, false)
				checkValue(t, list(good, o, good), false)
				checkValue(t, object("a b", l, good), false)
			}
		}
		for deep := range 16 {
			for _, way := range []string{"lists", "objects", "both"} {
				checkValue(t, nested(wrong, deep, way), false)
			}
		}
	}
}

func TestL1Deep(t *testing.T) {
	for _, inner := range []api.Value{word(kNull), word(kFalse), word(kTrue), num("1"), text("a"), list(), object("")} {
		for _, way := range []string{"lists", "objects", "both"} {
			for outer := range 40 {
				v := nested(inner, outer, way)
				checkValue(t, v, outer <= 15)
				// With others beside it that are not so deep.
				if outer > 0 {
					checkValue(t, list(word(kNull), v, list(list())), outer <= 14)
					checkValue(t, object("a b c", list(), v, word(kTrue)), outer <= 14)
				}
			}
		}
	}
	// 15, 16 and 17 deep, counted with the innermost.
	for deep, want := range map[int]bool{15: true, 16: true, 17: false} {
		checkValue(t, nested(list(), deep-1, "lists"), want)
		checkValue(t, nested(word(kNull), deep-1, "objects"), want)
	}
	checkValue(t, nested(word(kNull), 100000, "lists"), false)
}

func TestL1Many(t *testing.T) {
	for many, want := range map[int]bool{1: true, 2: true, 498: true, 499: true, 500: true, 501: false, 502: false, 1000: false, 100000: false} {
		v := flat(many - 1)
		checkValue(t, v, want)
		o := api.Value{Kind: kObject, Kids: v.Kids}
		for i := range v.Kids {
			o.Keys = append(o.Keys, fmt.Sprint("k", i))
		}
		checkValue(t, o, want)
		if many < 10 {
			continue
		}
		// Spread over several lists.
		checkValue(t, list(flat(many-2)), want)
		checkValue(t, list(flat(3), flat(many-6)), want)
		checkValue(t, list(flat(many-6), flat(3)), want)
		checkValue(t, object("a b", flat(many-8), list(flat(2), flat(1))), want)
		checkValue(t, list(flat(many/2), word(kTrue), flat(many-many/2-4)), want)
		// The last ones deep in others.
		checkValue(t, list(flat(many-18), nested(word(kNull), 14, "both"), word(kNull)), want)
	}
	for lists, want := range map[int]bool{49: true, 50: false} {
		v := list()
		for range lists {
			v.Kids = append(v.Kids, flat(9))
		}
		// 1 and 10 for each list: 491, 501.
		checkValue(t, v, want)
	}
}

// Lists that contain themselves: there is an end, also where their values are more at each depth.
func TestL1Endless(t *testing.T) {
	for _, wide := range []int{1, 2, 3, 100} {
		v := flat(wide)
		for i := range v.Kids {
			v.Kids[i] = api.Value{Kind: kList, Kids: v.Kids}
		}
		if s, e := json.Print(v); json.Right(v) || s != "" || e != api.ErrArg {
			t.Errorf("%d: %s %d", wide, short(s), e)
		}
	}
}
