package field_test

import (
	"fmt"
	"math/rand/v2"
	"slices"
	"strings"
	"testing"

	"lockage/api"
	"lockage/field"
)

const (
	small   = "abcdefghijklmnopqrstuvwxyz"
	capital = "ABCDEFGHIJKLMNOPQRSTUVWXYZ"
	digits  = "0123456789"
)

// nameMarks is the bytes that E1 lists.
var nameMarks = strings.ReplaceAll("! # $ % & ' * + - . ^ _ ` | ~", " ", "")

// one returns the string of that byte alone, whatever it is in UTF-8.
func one(c int) string { return string([]byte{byte(c)}) }

func isBlank(c byte) bool { return c == 32 || c == 9 }

// words calls do with every string of at most most letters of that alphabet, whose letters are strings.
func words(most int, alphabet []string, do func(string)) {
	var grow func(s string, left int)
	grow = func(s string, left int) {
		do(s)
		if left == 0 {
			return
		}
		for _, x := range alphabet {
			grow(s+x, left-1)
		}
	}
	grow("", most)
}

// random returns n bytes, most of them from those that the chapter speaks of.
func random(r *rand.Rand, n int) string {
	const often = " \t,:aBzZ-~@[`{"
	b := make([]byte, n)
	for i := range b {
		b[i] = often[r.IntN(len(often))]
		if r.IntN(8) == 0 {
			b[i] = byte(r.IntN(256))
		}
	}
	return string(b)
}

// validName says E1 of a name once more, byte for byte.
func validName(s string) bool {
	for i := range len(s) {
		if !strings.Contains(small+capital+digits+nameMarks, s[i:i+1]) {
			return false
		}
	}
	return len(s) >= 1 && len(s) <= 40
}

// validValue says E1 of a value once more, byte for byte.
func validValue(s string) bool {
	for i := range len(s) {
		if s[i] != 9 && (s[i] < 32 || s[i] > 126) {
			return false
		}
	}
	return len(s) <= 200 && (s == "" || !isBlank(s[0]) && !isBlank(s[len(s)-1]))
}

// trimmed says E2 of Trim once more: blanks are taken off one by one.
func trimmed(s string) string {
	for s != "" && isBlank(s[0]) {
		s = s[1:]
	}
	for s != "" && isBlank(s[len(s)-1]) {
		s = s[:len(s)-1]
	}
	return s
}

// lowered says E2 of Lower once more, letter for letter.
func lowered(s string) string {
	out := ""
	for i := range len(s) {
		if at := strings.Index(capital, s[i:i+1]); at >= 0 {
			out += small[at : at+1]
		} else {
			out += s[i : i+1]
		}
	}
	return out
}

// parsed says E3 once more.
func parsed(s string) (api.Field, api.Errno) {
	for i := range len(s) {
		if s[i] == ':' {
			f := api.Field{Name: s[:i], Value: trimmed(s[i+1:])}
			if !validName(f.Name) || !validValue(f.Value) {
				return api.Field{}, 21
			}
			return f, 0
		}
	}
	return api.Field{}, 21
}

// items says E4 once more: a comma that is put behind s ends the last part too.
func items(s string) []string {
	var out []string
	part := ""
	for _, c := range []byte(s + ",") {
		if c != ',' {
			part += one(int(c))
			continue
		}
		if part = lowered(trimmed(part)); part != "" {
			out = append(out, part)
		}
		part = ""
	}
	return out
}

func wantParse(t *testing.T, s string, want api.Field, wantE api.Errno) {
	t.Helper()
	if f, e := field.Parse(s); f != want || e != wantE {
		t.Errorf("Parse(%q): %q %d, want %q %d", s, f, e, want, wantE)
	}
}

func wantItems(t *testing.T, s string, want ...string) {
	t.Helper()
	if got := field.Items(s); !slices.Equal(got, want) {
		t.Errorf("Items(%q): %q, want %q", s, got, want)
	}
}

func TestLimits(t *testing.T) {
	if api.MaxName != 40 || api.MaxValue != 200 || api.ErrField != 21 || api.OK != 0 {
		t.Error("the limits and the error's number are those of the chapter")
	}
}

func TestE1NameLengths(t *testing.T) {
	for _, letter := range []string{"a", "Z", "0", "~", "`"} {
		for n, want := range map[int]bool{0: false, 1: true, 2: true, 39: true, 40: true, 41: false, 42: false, 200: false, 256: false, 296: false, 100000: false} {
			if got := field.Name(strings.Repeat(letter, n)); got != want {
				t.Errorf("%d times %q: %v", n, letter, got)
			}
		}
	}
}

func TestE1NameBytes(t *testing.T) {
	valid := 0
	for c := range 256 {
		s := one(c)
		want := strings.Contains(small+capital+digits+nameMarks, s)
		if want {
			valid++
		}
		for _, name := range []string{s, s + "a", "a" + s, "a" + s + "a", s + s, strings.Repeat("a", 39) + s, s + strings.Repeat("a", 39), strings.Repeat("a", 20) + s + strings.Repeat("a", 19)} {
			if got := field.Name(name); got != want {
				t.Errorf("%q: %v", name, got)
			}
		}
		if field.Name(strings.Repeat("a", 40) + s) {
			t.Errorf("40 bytes and %q", s)
		}
	}
	if valid != 26+26+10+15 {
		t.Errorf("%d bytes are valid in a name", valid)
	}
}

func TestE1NameOfAllItsBytes(t *testing.T) {
	for _, s := range []string{small, capital, digits, nameMarks, "Content-Length", "X_1.2", "0"} {
		if !field.Name(s) {
			t.Errorf("%q is valid", s)
		}
	}
	for _, s := range []string{" ", "a b", "a ", " a", "\ta", "a\t", "a:", ":", "a,b", "(a)", "a/b", "a;b", "a=b", "<a>", "a?b", "a@b", "[a]", "a\\b", "{a}", "\"a\"", "é", "aé", "\u212a", "\u0660", "a\x00", "a\r", "a\n", "\xff", "\x80"} {
		if field.Name(s) {
			t.Errorf("%q is not valid", s)
		}
	}
}

func TestE1ValueLengths(t *testing.T) {
	for _, letter := range []string{"v", "~", "!", "\""} {
		for n, want := range map[int]bool{0: true, 1: true, 2: true, 40: true, 41: true, 199: true, 200: true, 201: false, 202: false, 255: false, 256: false, 456: false, 100000: false} {
			if got := field.Value(strings.Repeat(letter, n)); got != want {
				t.Errorf("%d times %q: %v", n, letter, got)
			}
		}
	}
}

func TestE1ValueBytes(t *testing.T) {
	for c := range 256 {
		s := one(c)
		within := c == 9 || 32 <= c && c <= 126
		atEnds := 33 <= c && c <= 126
		for _, value := range []string{"a" + s + "a", "a" + s + s + "a", strings.Repeat("a", 199) + s + "a", "a" + s + strings.Repeat("a", 198), strings.Repeat("a", 100) + s + strings.Repeat("a", 99)} {
			want := within && len(value) <= 200
			if got := field.Value(value); got != want {
				t.Errorf("%q: %v", value, got)
			}
		}
		for _, value := range []string{s, s + "a", "a" + s, s + s, s + "a" + s, strings.Repeat("a", 199) + s, s + strings.Repeat("a", 199)} {
			if got := field.Value(value); got != atEnds {
				t.Errorf("%q: %v", value, got)
			}
		}
	}
}

func TestE1ValueBlanks(t *testing.T) {
	for _, b := range []string{" ", "\t", "  ", " \t", "\t ", "\t\t"} {
		for _, s := range []string{b, b + "a", "a" + b, b + "a" + b, b + "a b", "a\tb" + b, b + strings.Repeat("a", 200-len(b)), strings.Repeat("a", 200-len(b)) + b} {
			if field.Value(s) {
				t.Errorf("%q has a blank at an end", s)
			}
		}
		for _, s := range []string{"a" + b + "b", "a" + b + b + "b", "a" + b + "b" + b + "c", "a" + strings.Repeat(b, 198/len(b)) + "b"} {
			if !field.Value(s) {
				t.Errorf("%q has blanks within alone", s)
			}
		}
	}
}

func TestE1SmallWords(t *testing.T) {
	words(5, []string{" ", "\t", "a", "Z", "~", ":", "\x1f", "\x7f", "\xc3"}, func(s string) {
		if got := field.Name(s); got != validName(s) {
			t.Errorf("Name(%q): %v", s, got)
		}
		if got := field.Value(s); got != validValue(s) {
			t.Errorf("Value(%q): %v", s, got)
		}
	})
}

func TestE2Trim(t *testing.T) {
	for s, want := range map[string]string{
		"":                "",
		"a":               "a",
		"ab":              "ab",
		" ":               "",
		"\t":              "",
		"   ":             "",
		"\t\t":            "",
		" \t \t\t ":       "",
		" a":              "a",
		"\ta":             "a",
		"a ":              "a",
		"a\t":             "a",
		" a ":             "a",
		"\ta\t":           "a",
		" \t a\t \t":      "a",
		"\t a b\tc  d \t": "a b\tc  d",
		"a \t b":          "a \t b",
		"\na":             "\na",
		"a\n":             "a\n",
		" \n ":            "\n",
		"\r\n":            "\r\n",
		"\v\f\x00":        "\v\f\x00",
		" \u00a0 ":        "\u00a0",
		"\u2003a\u2003":   "\u2003a\u2003",
		" \x85\t":         "\x85",
		"\xff \xff":       "\xff \xff",
		" \xff ":          "\xff",
		"\xc3 ":           "\xc3",
		" \xa0":           "\xa0",
		" A: b, C ":       "A: b, C",
	} {
		if got := field.Trim(s); got != want {
			t.Errorf("%q: %q, want %q", s, got, want)
		}
	}
}

func TestE2TrimBytes(t *testing.T) {
	for c := range 256 {
		s := one(c)
		want := s
		if isBlank(byte(c)) {
			want = ""
		}
		for _, around := range []string{s, " " + s, s + "\t", "\t" + s + " ", " \t" + s + " \t"} {
			if got := field.Trim(around); got != want {
				t.Errorf("%q: %q", around, got)
			}
		}
		if got := field.Trim(" a" + s + "b\t"); got != "a"+s+"b" {
			t.Errorf("%q within: %q", s, got)
		}
	}
}

func TestE2TrimSmallWords(t *testing.T) {
	words(7, []string{" ", "\t", "a", "\n"}, func(s string) {
		if got := field.Trim(s); got != trimmed(s) {
			t.Errorf("%q: %q", s, got)
		}
	})
	long := strings.Repeat(" \t", 50000)
	if field.Trim(long) != "" || field.Trim(long+"a"+long+"b"+long) != "a"+long+"b" {
		t.Error("many blanks")
	}
}

func TestE2LowerBytes(t *testing.T) {
	all, want := "", ""
	for c := range 256 {
		s := one(c)
		to := s
		if 65 <= c && c <= 90 {
			to = one(c + 32)
		}
		all += s
		want += to
		if got := field.Lower(s); got != to {
			t.Errorf("%q: %q", s, got)
		}
		if got := field.Lower("Q" + s + "q" + s); got != "q"+to+"q"+to {
			t.Errorf("%q within: %q", s, got)
		}
	}
	if field.Lower(all) != want || field.Lower(want) != want {
		t.Error("all bytes at once")
	}
}

func TestE2Lower(t *testing.T) {
	for s, want := range map[string]string{
		"":                "",
		"abc":             "abc",
		"ABC":             "abc",
		"Keep-Alive":      "keep-alive",
		"@AZ[`az{":        "@az[`az{",
		"ÀÉ":              "ÀÉ",
		"aÉB":             "aÉb",
		"\u212aK":         "\u212ak",
		"\u0130I":         "\u0130i",
		"\u0391A":         "\u0391a",
		"\xffA\xc3":       "\xffa\xc3",
		"\xc3A":           "\xc3a",
		" A\tB ":          " a\tb ",
		capital + capital: small + small,
	} {
		if got := field.Lower(s); got != want {
			t.Errorf("%q: %q, want %q", s, got, want)
		}
	}
}

func TestE3(t *testing.T) {
	for s, want := range map[string]api.Field{
		"a:":                  {Name: "a"},
		"a: ":                 {Name: "a"},
		"a:\t \t":             {Name: "a"},
		"a:b":                 {Name: "a", Value: "b"},
		"a: b":                {Name: "a", Value: "b"},
		"a:b ":                {Name: "a", Value: "b"},
		"a:\tb\t":             {Name: "a", Value: "b"},
		"a: \t b c\td \t":     {Name: "a", Value: "b c\td"},
		"a::":                 {Name: "a", Value: ":"},
		"a:b:":                {Name: "a", Value: "b:"},
		"a:b:c":               {Name: "a", Value: "b:c"},
		"a: : b : ":           {Name: "a", Value: ": b :"},
		"Host: h:80":          {Name: "Host", Value: "h:80"},
		"HOST:H":              {Name: "HOST", Value: "H"},
		"x: \"q, r\"":         {Name: "x", Value: "\"q, r\""},
		"!#$%&'*+-.^_`|~0: ~": {Name: "!#$%&'*+-.^_`|~0", Value: "~"},
	} {
		wantParse(t, s, want, api.OK)
	}
}

func TestE3Wrong(t *testing.T) {
	for _, s := range []string{
		"", "a", "abc", " ", "a b", "a;b", "a\uff1ab", // no colon
		":", "::", ":b", ": b", ":a:b", // no name
		" :b", "\t:b", " a:b", "\ta:b", "a :b", "a\t:b", "a b:c", // blanks before the colon
		"é:b", "(a):b", "a,b:c", "a\x00:b", "a\r:b", "\na:b", "\x7f:b", "a=:b", "\xff:b", // names that are not valid
		"a:\x00", "a:b\x00", "a:\x1f", "a:\x7f", "a:\x80", "a:é", "a:b\xff", "a: b\r", "a:b\nc", "a:b\r\n", "a:\n", "a:\v b", "a: \u00a0b", // nor the values
		"é:é", "é", "b\x00", ":\x00",
	} {
		wantParse(t, s, api.Field{}, api.ErrField)
	}
}

func TestE3Lengths(t *testing.T) {
	for n, fits := range map[int]bool{0: false, 1: true, 39: true, 40: true, 41: false, 100: false, 256: false, 10000: false} {
		name := strings.Repeat("n", n)
		for _, rest := range []string{"", " v", strings.Repeat("v", 200), ":"} {
			if fits {
				wantParse(t, name+":"+rest, api.Field{Name: name, Value: strings.Trim(rest, " ")}, api.OK)
			} else {
				wantParse(t, name+":"+rest, api.Field{}, api.ErrField)
			}
		}
	}
	for n, fits := range map[int]bool{0: true, 1: true, 199: true, 200: true, 201: false, 456: false, 10000: false} {
		value := strings.Repeat("v", n)
		for _, b := range []string{"", " ", "\t", " \t ", strings.Repeat("\t ", 500)} {
			for _, s := range []string{"a:" + b + value, "a:" + value + b, "a:" + b + value + b, strings.Repeat("n", 40) + ":" + b + value + b} {
				name, _, _ := strings.Cut(s, ":")
				if fits {
					wantParse(t, s, api.Field{Name: name, Value: value}, api.OK)
				} else {
					wantParse(t, s, api.Field{}, api.ErrField)
				}
			}
		}
	}
}

func TestE3Bytes(t *testing.T) {
	for c := range 256 {
		for _, form := range []string{"?:", "a?:v", "?a:v", "a:?", "a: ?", "a:?v", "a:v?", "a: v?w ", "a?", "?"} {
			s := strings.Replace(form, "?", one(c), 1)
			f, e := parsed(s)
			wantParse(t, s, f, e)
		}
	}
}

func TestE3SmallWords(t *testing.T) {
	words(6, []string{":", " ", "\t", "a", "B", "\x00", "\xe9"}, func(s string) {
		f, e := parsed(s)
		wantParse(t, s, f, e)
	})
}

func TestE4(t *testing.T) {
	for s, want := range map[string][]string{
		"":                              {},
		",":                             {},
		",,,":                           {},
		" ":                             {},
		"\t":                            {},
		" , ,\t,":                       {},
		"a":                             {"a"},
		" a ":                           {"a"},
		"\tA\t":                         {"a"},
		"a,b":                           {"a", "b"},
		",a":                            {"a"},
		"a,":                            {"a"},
		",a,":                           {"a"},
		",,a,,b,,":                      {"a", "b"},
		"a, ,b":                         {"a", "b"},
		"a,\t ,b":                       {"a", "b"},
		"a , b":                         {"a", "b"},
		"a\t,\tb":                       {"a", "b"},
		"b,a,b":                         {"b", "a", "b"},
		"A,a":                           {"a", "a"},
		"a b,C\tc":                      {"a b", "c\tc"},
		" a  b , c":                     {"a  b", "c"},
		"a;q=0.5, B;Q=1":                {"a;q=0.5", "b;q=1"},
		"\"a,b\"":                       {"\"a", "b\""},
		"close, Keep-Alive ,UPGRADE":    {"close", "keep-alive", "upgrade"},
		"É,é, \u00a0":                   {"É", "é", "\u00a0"},
		"\n, \r ,\x00,\xff":             {"\n", "\r", "\x00", "\xff"},
		"a:b, C":                        {"a:b", "c"},
		"\uff0c":                        {"\uff0c"},
		strings.Repeat("V", 300) + ",w": {strings.Repeat("v", 300), "w"},
	} {
		wantItems(t, s, want...)
	}
}

func TestE4Bytes(t *testing.T) {
	for c := range 256 {
		for _, form := range []string{"?", "?,?", " ? ,x", "X?Y", "x,?", "?x", "x?", ",?,"} {
			s := strings.ReplaceAll(form, "?", one(c))
			wantItems(t, s, items(s)...)
		}
	}
}

func TestE4SmallWords(t *testing.T) {
	words(6, []string{",", " ", "\t", "a", "B", "\xc3"}, func(s string) {
		wantItems(t, s, items(s)...)
	})
}

func TestE4ManyParts(t *testing.T) {
	var want []string
	for i := range 5000 {
		want = append(want, "x"+fmt.Sprint(i))
	}
	wantItems(t, strings.ToUpper(strings.Join(want, " ,, \t")), want...)
	wantItems(t, strings.Repeat(" ,", 50000))
}

// list is a list of fields with several names, some of them more than once and in several writings.
func list() []api.Field {
	return []api.Field{
		{Name: "Host", Value: "h"},
		{Name: "accept", Value: "1"},
		{Name: "Cookie", Value: ""},
		{Name: "ACCEPT", Value: "2"},
		{Name: "Via", Value: "Accept"},
		{Name: "Accept", Value: "1"},
		{Name: "host", Value: "I"},
	}
}

func TestE5Get(t *testing.T) {
	for name, want := range map[string][]string{
		"Host":    {"h", "I"},
		"hOST":    {"h", "I"},
		"accept":  {"1", "2", "1"},
		"ACCEPT":  {"1", "2", "1"},
		"cookie":  {""},
		"via":     {"Accept"},
		"h":       {},
		"hos":     {},
		"hosts":   {},
		"Host ":   {},
		" Host":   {},
		"ho\x73t": {"h", "I"},
		"1":       {},
		"":        {},
		"none":    {},
	} {
		if got := field.Get(list(), name); !slices.Equal(got, want) {
			t.Errorf("%q: %q, want %q", name, got, want)
		}
	}
	for _, l := range [][]api.Field{nil, {}} {
		if len(field.Get(l, "a")) != 0 || len(field.Get(l, "")) != 0 {
			t.Error("no fields have no values")
		}
	}
}

func TestE5Drop(t *testing.T) {
	l := list()
	at := func(places ...int) []api.Field {
		var out []api.Field
		for _, i := range places {
			out = append(out, l[i])
		}
		return out
	}
	for _, c := range []struct {
		names []string
		want  []api.Field
	}{
		{nil, l},
		{[]string{}, l},
		{[]string{"none"}, l},
		{[]string{""}, l},
		{[]string{"hos", "hosts", " host", "1", "h"}, l},
		{[]string{"Host"}, at(1, 2, 3, 4, 5)},
		{[]string{"hOsT"}, at(1, 2, 3, 4, 5)},
		{[]string{"accept"}, at(0, 2, 4, 6)},
		{[]string{"accept", "accept"}, at(0, 2, 4, 6)},
		{[]string{"accept", "ACCEPT"}, at(0, 2, 4, 6)},
		{[]string{"none", "via"}, at(0, 1, 2, 3, 5, 6)},
		{[]string{"via", "none"}, at(0, 1, 2, 3, 5, 6)},
		{[]string{"COOKIE", "Via"}, at(0, 1, 3, 5, 6)},
		{[]string{"host", "cookie", "accept"}, at(4)},
		{[]string{"via", "host", "cookie", "accept"}, nil},
		{[]string{"a", "b", "c", "via", "e"}, at(0, 1, 2, 3, 5, 6)},
	} {
		if got := field.Drop(l, c.names...); !slices.Equal(got, c.want) {
			t.Errorf("%q: %q, want %q", c.names, got, c.want)
		}
	}
	for _, l := range [][]api.Field{nil, {}} {
		if len(field.Drop(l)) != 0 || len(field.Drop(l, "a")) != 0 || len(field.Drop(l, "", "b")) != 0 {
			t.Error("no fields stay no fields")
		}
	}
}

// Names match by the letters A to Z alone, whether they are valid or not.
func TestE5Match(t *testing.T) {
	names := []string{"", "a", "A", "b", "ab", "Ab", "aB", "k", "K", "\u212a", "s", "\u017f", "é", "É", "\xe9", "\xff", "\ufffd", "@", "`", "[", "{", "a ", " a", "^", "~", "i", "I", "\u0130", "\u0131"}
	for c := range 256 {
		names = append(names, one(c))
	}
	for _, a := range names {
		for _, b := range names {
			l := []api.Field{{Name: a, Value: "v"}}
			want := lowered(a) == lowered(b)
			if got := len(field.Get(l, b)) == 1; got != want {
				t.Errorf("Get: a field %q, the name %q: %v", a, b, got)
			}
			if got := len(field.Drop(l, b)) == 0; got != want {
				t.Errorf("Drop: a field %q, the name %q: %v", a, b, got)
			}
		}
	}
}

// All lists of up to five fields with three names, against all choices of up to two names.
func TestE5SmallLists(t *testing.T) {
	names := []string{"a", "A", "b"}
	var picks [][]string
	picks = append(picks, nil)
	for _, x := range append(names, "c") {
		picks = append(picks, []string{x})
		for _, y := range append(names, "c") {
			picks = append(picks, []string{x, y})
		}
	}
	words(5, names, func(s string) {
		var l []api.Field
		for i := range len(s) {
			l = append(l, api.Field{Name: s[i : i+1], Value: fmt.Sprint(i)})
		}
		for _, pick := range picks {
			checkPick(t, l, pick)
		}
	})
}

// checkPick holds Drop of those names, and Get of each of them, against E5.
func checkPick(t *testing.T, l []api.Field, pick []string) {
	t.Helper()
	var kept []api.Field
	for _, f := range l {
		in := false
		for _, name := range pick {
			in = in || lowered(name) == lowered(f.Name)
		}
		if !in {
			kept = append(kept, f)
		}
	}
	if got := field.Drop(l, pick...); !slices.Equal(got, kept) {
		t.Errorf("Drop(%q, %q): %q, want %q", l, pick, got, kept)
	}
	for _, name := range pick {
		var values []string
		for _, f := range l {
			if lowered(name) == lowered(f.Name) {
				values = append(values, f.Value)
			}
		}
		if got := field.Get(l, name); !slices.Equal(got, values) {
			t.Errorf("Get(%q, %q): %q, want %q", l, name, got, values)
		}
	}
}

func TestE5ManyFields(t *testing.T) {
	var l, odd []api.Field
	var even []string
	for i := range 2000 {
		f := api.Field{Name: []string{"Even", "odd"}[i%2], Value: fmt.Sprint(i)}
		l = append(l, f)
		if i%2 == 0 {
			even = append(even, f.Value)
		} else {
			odd = append(odd, f)
		}
	}
	names := slices.Repeat([]string{"other"}, 300)
	if !slices.Equal(field.Get(l, "even"), even) || !slices.Equal(field.Drop(l, append(names, "EVEN")...), odd) {
		t.Error("more fields and names than a head has")
	}
}

// again parses what a parsed field is written as.
func again(t *testing.T, s string) bool {
	t.Helper()
	f, e := field.Parse(s)
	if e != api.OK {
		return false
	}
	wantParse(t, f.Name+": "+f.Value, f, api.OK)
	return true
}

func TestE6(t *testing.T) {
	parsed := 0
	words(6, []string{":", " ", "\t", "a", "B", "\x00"}, func(s string) {
		if again(t, s) {
			parsed++
		}
	})
	for _, s := range []string{
		"a:", "a: \t", "a::", "a: : :", "a:b:c", "Accept:  a, B ,,c ",
		strings.Repeat("n", 40) + ":" + strings.Repeat("v", 200) + " ",
		strings.Repeat("~", 40) + ":\t \t" + strings.Repeat(":", 200) + "\t",
	} {
		if !again(t, s) {
			t.Errorf("%q is a field", s)
		}
	}
	r := rand.New(rand.NewPCG(5, 6))
	for range 20000 {
		if again(t, "x"+random(r, r.IntN(12))) {
			parsed++
		}
	}
	if parsed < 2000 {
		t.Errorf("only %d fields were parsed", parsed)
	}
}

func TestExample1(t *testing.T) {
	f, e := field.Parse("Accept:  a, B ,,c ")
	if f != (api.Field{Name: "Accept", Value: "a, B ,,c"}) || e != api.OK {
		t.Errorf("%q %d", f, e)
	}
	wantItems(t, f.Value, "a", "b", "c")
}

// guarded returns a list of two fields with two more in the memory behind it, and all four.
func guarded() (l, all []api.Field) {
	all = []api.Field{{Name: "a", Value: "1"}, {Name: "B", Value: "2"}, {Name: "behind", Value: "3"}, {Name: "a", Value: "4"}}
	return all[:2], all
}

func TestMemoryOfArguments(t *testing.T) {
	for _, name := range []string{"a", "b", "behind", "none", ""} {
		l, all := guarded()
		_, before := guarded()
		names := []string{name, "B", "NOT GIVEN"}
		if got := field.Get(l, name); len(got) > 1 {
			t.Errorf("Get looked behind the list: %q", got)
		}
		if got := field.Drop(l, names[:1]...); len(got) > 2 {
			t.Errorf("Drop looked behind the list: %q", got)
		}
		if got := field.Drop(l, names[:2]...); len(got) > 1 {
			t.Errorf("Drop looked behind the list: %q", got)
		}
		if !slices.Equal(all, before) || !slices.Equal(names, []string{name, "B", "NOT GIVEN"}) {
			t.Errorf("%q: now %q and %q", name, all, names)
		}
	}
}

// What is written into a result, within it or behind it, changes no argument and no other result.
func TestMemoryOfResults(t *testing.T) {
	spoil := api.Field{Name: "spoilt", Value: "spoilt"}
	for _, names := range [][]string{nil, {"a"}, {"b"}, {"none"}, {"a", "b"}} {
		l, all := guarded()
		_, before := guarded()
		given := slices.Clone(names)
		dropped, other := field.Drop(l, given...), field.Drop(l, given...)
		want := slices.Clone(other)
		for i := range dropped[:cap(dropped)] {
			dropped[:cap(dropped)][i] = spoil
		}
		if !slices.Equal(all, before) || !slices.Equal(given, names) || !slices.Equal(other, want) {
			t.Errorf("%q: now %q and %q and %q", names, all, given, other)
		}
	}
	l := list()
	for _, read := range []func() []string{
		func() []string { return field.Get(l, "accept") },
		func() []string { return field.Items("a, b") },
	} {
		got, other := read(), read()
		want := slices.Clone(other)
		for i := range got[:cap(got)] {
			got[:cap(got)][i] = "spoilt"
		}
		if !slices.Equal(other, want) || !slices.Equal(read(), want) || !slices.Equal(l, list()) {
			t.Errorf("now %q and %q", other, l)
		}
	}
}

// What is written into an argument after the call changes no result.
func TestMemoryKeptNowhere(t *testing.T) {
	l, names := list(), []string{"accept", "none"}
	kept, values := field.Drop(l, names...), field.Get(l, "accept")
	whole := field.Drop(l)
	for i := range l {
		l[i] = api.Field{Name: "spoilt", Value: "spoilt"}
	}
	names[0], names[1] = "host", "via"
	if fmt.Sprint(kept) != "[{Host h} {Cookie } {Via Accept} {host I}]" || fmt.Sprint(values) != "[1 2 1]" || !slices.Equal(whole, list()) {
		t.Errorf("%q %q %q", kept, values, whole)
	}
}

// Any bytes at all: each call ends without a panic, and answers what the promises say, each time.
func TestSameCallsSameResults(t *testing.T) {
	r := rand.New(rand.NewPCG(1, 5))
	var texts []string
	for range 3000 {
		texts = append(texts, random(r, r.IntN(60)))
	}
	for range 30 {
		texts = append(texts, random(r, 150+r.IntN(100)), random(r, 3000))
	}
	for range 2 {
		for i, s := range texts {
			l := []api.Field{{Name: s, Value: s}, {Name: texts[len(texts)-1-i], Value: "v"}, {Name: strings.ToUpper(s), Value: "w"}}
			if field.Name(s) != validName(s) || field.Value(s) != validValue(s) || field.Trim(s) != trimmed(s) || field.Lower(s) != lowered(s) {
				t.Errorf("%q", s)
			}
			f, e := parsed(s)
			wantParse(t, s, f, e)
			wantItems(t, s, items(s)...)
			checkPick(t, l, []string{s, "a"})
		}
	}
}
