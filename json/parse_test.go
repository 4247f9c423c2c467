package json_test

import (
	library "encoding/json"
	"fmt"
	"math/rand/v2"
	"regexp"
	"slices"
	"strings"
	"testing"
	"unicode/utf8"

	"lockage/api"
	"lockage/json"
	"lockage/quote"
)

// rows calls do with each row of up to so many of the pieces, the empty one included.
func rows(pieces []string, most int, do func(s string)) {
	var grow func(s string, left int)
	grow = func(s string, left int) {
		do(s)
		if left == 0 {
			return
		}
		for _, p := range pieces {
			grow(s+p, left-1)
		}
	}
	grow("", most)
}

var (
	words   = regexp.MustCompile(`^(?:null|false|true)`)
	kindOf  = map[string]int{"null": kNull, "false": kFalse, "true": kTrue}
	longest = regexp.MustCompile(`^-?(?:0|[1-9][0-9]*)(\.[0-9]+)?([eE][+-]?[0-9]+)?`)
)

// machine says L3 once more, without calls in calls: what is open, and what is read next.
type machine struct {
	s      string
	i      int
	values int
	open   []api.Value
	known  []map[string]bool
	done   api.Value
}

// endOf returns what a list or an object ends with.
func endOf(v api.Value) string { return map[int]string{kList: "]", kObject: "}"}[v.Kind] }

// single reads a value that has no others in it. Without an error and a kind, it is the beginning of a list or an object.
func (m *machine) single() (api.Value, api.Errno, int) {
	rest := m.s[m.i:]
	if w := words.FindString(rest); w != "" {
		m.i += len(w)
		return word(kindOf[w]), 0, 0
	}
	if strings.HasPrefix(rest, `"`) {
		s, n, e := quote.Unquote(rest)
		if e != 0 {
			return api.Value{}, e, m.i + n
		}
		m.i += n
		return text(s), 0, 0
	}
	if found := longest.FindStringSubmatch(rest); found != nil {
		behind := rest[len(found[0]):]
		cut := strings.HasPrefix(strings.ToLower(behind), "e") && found[2] == "" || strings.HasPrefix(behind, ".") && found[1]+found[2] == ""
		if !cut {
			m.i += len(found[0])
			return num(found[0]), 0, 0
		}
	}
	if rest != "" && (rest[0] == '[' || rest[0] == '{') {
		return api.Value{}, 0, 0
	}
	return api.Value{}, 31, m.i
}

// member reads a key and what stands behind it.
func (m *machine) member() (api.Errno, int) {
	at := m.i
	if !strings.HasPrefix(m.s[at:], `"`) {
		return 31, at
	}
	key, e, at2 := m.single()
	if e != 0 {
		return e, at2
	}
	top := len(m.open) - 1
	if m.known[top][key.Text] {
		return 31, at
	}
	m.known[top][key.Text] = true
	m.open[top].Keys = append(m.open[top].Keys, key.Text)
	if !m.mark(":") {
		return 31, m.i
	}
	return 0, 0
}

// mark passes blanks and one of those marks, if it is there.
func (m *machine) mark(marks string) bool {
	for m.i < len(m.s) && slices.Contains([]byte{32, 9, 10, 13}, m.s[m.i]) {
		m.i++
	}
	if m.i == len(m.s) || !strings.Contains(marks, m.s[m.i:m.i+1]) {
		return false
	}
	m.i++
	return true
}

// finish puts v where it belongs, with all that ends behind it. It reports whether the whole value is read.
func (m *machine) finish(v api.Value) (bool, api.Errno, int) {
	for {
		top := len(m.open) - 1
		if top < 0 {
			m.done = v
			if m.mark(""); m.i < len(m.s) {
				return true, 31, m.i
			}
			return true, 0, 0
		}
		m.open[top].Kids = append(m.open[top].Kids, v)
		if m.mark(",") {
			return false, 0, 0
		}
		if !m.mark(endOf(m.open[top])) {
			return true, 31, m.i
		}
		v = m.open[top]
		m.open, m.known = m.open[:top], m.known[:top]
	}
}

// parsed says L3 once more.
func parsed(s string) (api.Value, api.Errno, int) {
	if len(s) > 4000 {
		return api.Value{}, 2, 0
	}
	m := &machine{s: s}
	for {
		m.mark("")
		if top := len(m.open) - 1; top >= 0 && m.open[top].Kind == kObject {
			if e, at := m.member(); e != 0 {
				return api.Value{}, e, at
			}
			m.mark("")
		}
		if len(m.open) == 16 {
			return api.Value{}, 32, m.i
		}
		if m.values == 500 {
			return api.Value{}, 2, m.i
		}
		v, e, at := m.single()
		if e != 0 {
			return api.Value{}, e, at
		}
		m.values++
		if v.Kind == 0 {
			v.Kind = kList + strings.Index("[{", s[m.i:m.i+1])
			m.i++
			if !m.mark(endOf(v)) {
				m.open, m.known = append(m.open, v), append(m.known, map[string]bool{})
				continue
			}
		}
		if ends, e, at := m.finish(v); ends {
			if e != 0 {
				return api.Value{}, e, at
			}
			return m.done, 0, 0
		}
	}
}

// byLibrary returns the value that another reader of JSON reads.
func byLibrary(t *testing.T, s string) api.Value {
	d := library.NewDecoder(strings.NewReader(s))
	d.UseNumber()
	var value func() api.Value
	next := func() library.Token {
		token, err := d.Token()
		if err != nil {
			t.Errorf("%s: %v", short(s), err)
		}
		return token
	}
	value = func() api.Value {
		switch x := next().(type) {
		case library.Delim:
			v := api.Value{Kind: kList}
			if x == '{' {
				v.Kind = kObject
			}
			for d.More() {
				if x == '{' {
					key, _ := next().(string)
					v.Keys = append(v.Keys, key)
				}
				v.Kids = append(v.Kids, value())
			}
			next()
			return v
		case library.Number:
			return num(string(x))
		case string:
			return text(x)
		case bool:
			return word(map[bool]int{false: kFalse, true: kTrue}[x])
		}
		return word(kNull)
	}
	return value()
}

// checkParse holds Parse against L3, and what it returns against L5. It returns the error.
func checkParse(t *testing.T, s string) api.Errno {
	t.Helper()
	want, e, at := parsed(s)
	if e != api.OK {
		wantFault(t, s, e, at)
		if at > len(s) || e == 31 && library.Valid([]byte(s)) && !strings.Contains(s, ":") {
			t.Errorf("Parse(%s): %d %d", short(s), e, at)
		}
		return e
	}
	wantParse(t, s, want)
	if !library.Valid([]byte(s)) || utf8.ValidString(s) && shown(byLibrary(t, s)) != shown(want) {
		t.Errorf("%s is not as another reader reads it", short(s))
	}
	again, e := json.Print(want)
	if e != api.OK {
		t.Errorf("Print(%s): error %d", short(shown(want)), e)
	}
	if len(again) <= len(s) || len(again) <= 4000 {
		wantParse(t, again, want)
	}
	return api.OK
}

// begins is what may stand ahead of a value, with and without others that are read already.
func begins() []string {
	return []string{"", "[", "[1,", "[[],", "[{},", `["a",`, "[null,true,", "[[", "[[1],[2,", `{"a":`, `{"a":1,"b":`, `{"a":{},"b":`, `{"a":[`, `[{"a":`, `[{"a":[],"b":`, `{"a":{"a":{"a":`, `{"a":[1,{"b":[`, " [ ", "\t{\n\"a\"\r: "}
}

// ends returns what ends all that is open in s.
func ends(s string) string {
	end := ""
	for _, c := range s {
		switch c {
		case '[':
			end = "]" + end
		case '{':
			end = "}" + end
		case ']', '}':
			end = end[1:]
		}
	}
	return end
}

// blankRows is blanks of each kind, none, and some together.
func blankRows() []string {
	return []string{"", " ", "\t", "\n", "\r", "\r\n", "  ", " \t\n\r", "\n\n\t "}
}

// raw returns the string of that byte alone, whatever it is in UTF-8.
func raw(c int) string { return string([]byte{byte(c)}) }

// bytesFor returns what may stand behind that blank: each byte if there is none or one, else those that matter.
func bytesFor(blank string) []string {
	if len(blank) > 1 {
		return strings.Split("[]{},:\"-0nftx.eE/\\\x00\x1f\xff", "")
	}
	var out []string
	for c := range 256 {
		out = append(out, raw(c))
	}
	return out
}

func TestL3Long(t *testing.T) {
	for _, n := range []int{3999, 4000} {
		wantParse(t, strings.Repeat(" ", n-1)+"1", num("1"))
		wantParse(t, "1"+strings.Repeat(" ", n-1), num("1"))
		wantParse(t, strings.Repeat("1", n), num(strings.Repeat("1", n)))
		wantParse(t, `"`+strings.Repeat("x", n-2)+`"`, text(strings.Repeat("x", n-2)))
		wantParse(t, "["+strings.Repeat("\n", n-2)+"]", list())
		wantFault(t, strings.Repeat(" ", n), 31, n)
		wantFault(t, `"`+strings.Repeat("x", n-1), 30, n)
	}
	for _, n := range []int{4001, 4002, 8000, 100000} {
		wantFault(t, strings.Repeat(" ", n-1)+"1", 2, 0)
		wantFault(t, "1"+strings.Repeat(" ", n-1), 2, 0)
		wantFault(t, strings.Repeat("1", n), 2, 0)
		wantFault(t, `"`+strings.Repeat("x", n-2)+`"`, 2, 0)
		wantFault(t, strings.Repeat(" ", n), 2, 0)
		wantFault(t, strings.Repeat("x", n), 2, 0)
		wantFault(t, strings.Repeat("[", n), 2, 0)
		wantFault(t, "]"+strings.Repeat("\xff", n-1), 2, 0)
	}
}

// Texts as rows of what blanks may stand around.
func tokens() [][]string {
	return [][]string{
		{"null"}, {"false"}, {"true"}, {"-12.5e+7"}, {`"a b"`}, {`""`},
		{"[", "]"}, {"{", "}"}, {"[", "0", "]"}, {"[", "1", ",", "2", "]"}, {"[", "null", ",", "false", ",", "true", "]"},
		{"[", "[", "]", ",", "{", "}", ",", `"x"`, "]"}, {"[", "[", "[", "1", "]", "]", "]"},
		{"{", `"a"`, ":", "1", "}"}, {"{", `"a"`, ":", "null", ",", `"b"`, ":", `"c"`, "}"}, {"{", `"a"`, ":", "{", `"a"`, ":", "[", "{", "}", "]", "}", ",", `"\u0062"`, ":", "[", "]", "}"},
	}
}

func TestL3Blanks(t *testing.T) {
	for _, row := range tokens() {
		want, e, _ := json.Parse(strings.Join(row, ""))
		if e != api.OK {
			t.Errorf("%q: error %d", row, e)
		}
		checkParse(t, strings.Join(row, ""))
		for _, blank := range blankRows() {
			wantParse(t, blank+strings.Join(row, blank)+blank, want)
			for i := range len(row) + 1 {
				wantParse(t, strings.Join(row[:i], "")+blank+strings.Join(row[i:], ""), want)
			}
		}
		// Other bytes are no blanks.
		for i := range len(row) + 1 {
			ahead, more := strings.Join(row[:i], ""), strings.Join(row[i:], "")
			for _, wrong := range []string{"\x00", "\v", "\f", "\x08", "\x0e", "\x1f", "\x7f", "\x85", "\xa0", "\u0085", "\u00a0", "\u2003", "\u2028", "\ufeff", "/", "#", "//\n", "/**/"} {
				wantFault(t, ahead+wrong+more, 31, len(ahead))
				wantFault(t, ahead+" \n"+wrong+" "+more, 31, len(ahead)+2)
			}
		}
	}
	// Not amid words, numbers and literals.
	for s, at := range map[string]int{"nu ll": 0, "tr ue": 0, "fals e": 0, "- 1": 0, "1 2": 2, "1 .5": 2, "1. 5": 0, "1.5 e5": 4, "1e 5": 0, "1e+ 5": 0, "[1 2]": 3} {
		wantFault(t, s, 31, at)
	}
	wantFault(t, "\"\n\"", 30, 1)
	wantParse(t, `" "`, text(" "))
}

func TestL3Words(t *testing.T) {
	for _, begin := range begins() {
		end := ends(begin)
		for w, kind := range map[string]int{"null": kNull, "false": kFalse, "true": kTrue} {
			if e := checkParse(t, begin+w+end); e != api.OK {
				t.Errorf("%q: error %d", begin+w+end, e)
			}
			if begin == "" {
				wantParse(t, w, word(kind))
			}
			for i := 1; i < len(w); i++ {
				for _, more := range []string{"", " ", "x", ",", "]", "}", "1", "\"", "\x00", "\xff"} {
					wantFault(t, begin+w[:i]+more+end, 31, len(begin))
				}
				for c := range 256 {
					if raw(c) != w[i:i+1] {
						wantFault(t, begin+w[:i]+raw(c)+w[i+1:]+end, 31, len(begin))
					}
				}
				wantFault(t, begin+w[:i]+" "+w[i:]+end, 31, len(begin))
			}
			for _, wrong := range []string{w[1:], strings.ToUpper(w), strings.ToUpper(w[:1]) + w[1:], w[:1] + w, "'" + w, "\\" + w} {
				wantFault(t, begin+wrong+end, 31, len(begin))
			}
			for _, more := range []string{"x", "e", "l", "null", "1", "-", "\"", "[", "{", "\x00", "\xff"} {
				wantFault(t, begin+w+more+end, 31, len(begin)+len(w))
				wantFault(t, begin+w+" "+more+end, 31, len(begin)+len(w)+1)
			}
		}
		for _, wrong := range []string{"nil", "none", "undefined", "NaN", "Infinity", "yes", "no", "on", "f", "t", "n", "nulf", "trus", "falls"} {
			wantFault(t, begin+wrong+end, 31, len(begin))
		}
	}
}

func TestL3Numbers(t *testing.T) {
	for _, s := range numbers() {
		wantParse(t, s, num(s))
		wantParse(t, "["+s+"]", list(num(s)))
		wantParse(t, `{"a":`+s+"}", object("a", num(s)))
		wantParse(t, " "+s+"\n", num(s))
		if len(s) < 100 {
			wantParse(t, "["+s+","+s+" ,\t"+s+"\r]", list(num(s), num(s), num(s)))
		}
		// What can't belong to any number, and does not follow a value either.
		for _, more := range []string{"x", "f", "_", "-", "-1", "+", "+1", "\"", "[", "{", ":", "\x00", "\xff", "\u0661"} {
			for _, begin := range begins() {
				wantFault(t, begin+s+more, 31, len(begin)+len(s))
				wantFault(t, begin+s+" "+more, 31, len(begin)+len(s)+1)
			}
		}
		for _, more := range []string{"0", ".5", "e5"} {
			wantFault(t, s+" "+more, 31, len(s)+1)
		}
	}
	for _, begin := range begins() {
		for _, s := range noNumbers() {
			if s == "" || strings.Contains(" \t\n\r", s[:1]) {
				continue
			}
			for _, more := range []string{"", "]", "}", ",", " ", " 5", "x"} {
				wantFault(t, begin+s+more, 31, len(begin))
			}
		}
		for s, n := range followed() {
			behind := len(s[n:]) - len(strings.TrimLeft(s[n:], " \t\n\r"))
			if s[n:] == ",5" || n+behind == len(s) {
				continue
			}
			wantFault(t, begin+s, 31, len(begin)+n+behind)
			wantFault(t, begin+s+ends(begin), 31, len(begin)+n+behind)
		}
	}
	wantFault(t, "1,5", 31, 1)
	wantParse(t, "[1,5]", list(num("1"), num("5")))
}

func TestL3NumberRows(t *testing.T) {
	rows([]string{"-", "0", "1", "9", ".", "e", "E", "+", " "}, 5, func(s string) {
		checkParse(t, s)
		checkParse(t, "["+s+"]")
		checkParse(t, `{"a":0,"b":`+s+"}")
	})
}

// Before a value: the end of the text, and each byte with which none begins.
func TestL3NoValue(t *testing.T) {
	for _, begin := range begins() {
		trimmed := strings.TrimRight(begin, " \t\n\r")
		for _, blank := range blankRows() {
			at := len(begin) + len(blank)
			wantFault(t, begin+blank, 31, at)
			for c := range 256 {
				s := raw(c)
				if strings.Contains(" \t\n\r\"[{-0123456789nft", s) || s == "]" && strings.HasSuffix(trimmed, "[") {
					continue
				}
				for _, more := range []string{"", "1", "]", "}", " ", ends(begin)} {
					wantFault(t, begin+blank+s+more, 31, at)
				}
			}
		}
	}
	for _, s := range []string{"]", "}", ",", ":", "[,", "[,1]", "[1,,2]", "[1,]", "[}", "{]", `{"a":}`, `{"a":,"b":1}`, "[:]", "{:}"} {
		checkParse(t, s)
	}
	wantFault(t, "[1,]", 31, 3)
	wantFault(t, "[1 , ]", 31, 5)
	wantFault(t, "[,1]", 31, 1)
	wantFault(t, "[1,,2]", 31, 3)
	wantFault(t, "[[],]", 31, 4)
	wantFault(t, `{"a":}`, 31, 5)
	wantFault(t, `{"a": ,"b":1}`, 31, 6)
}

// Behind a value: where it is in a list, in an object, or in nothing.
func TestL3Behind(t *testing.T) {
	for _, begin := range begins() {
		for _, v := range []string{"null", "false", "true", `"a"`, `""`, "[]", "{}", "[1]", `{"a":1}`, "[[],{}]", "1", "-0.5e1"} {
			open := ends(begin)
			for _, blank := range blankRows() {
				at := len(begin) + len(v) + len(blank)
				if open != "" {
					wantFault(t, begin+v+blank, 31, at)
				}
				for _, s := range bytesFor(blank) {
					if strings.Contains(" \t\n\r", s) || open != "" && (s == "," || s == open[:1]) || blank == "" && strings.Contains("0123456789.eE", s) {
						continue
					}
					for _, more := range []string{"", "1", open} {
						wantFault(t, begin+v+blank+s+more, 31, at)
					}
				}
			}
		}
	}
	for s, at := range map[string]int{"[1": 2, "[1 ": 3, "[1 2]": 3, "[1}": 2, "[1:2]": 2, "[[1]": 4, "[[1}]": 3, "[1;2]": 2, `{"a":1`: 6, `{"a":1]`: 6, `{"a":1 "b":2}`: 7, `{"a":1:2}`: 6, `{"a":1;}`: 6, `["a""b"]`: 4, "[null true]": 6, "[[][]]": 3, "[{}{}]": 3} {
		wantFault(t, s, 31, at)
	}
}

// Something behind the whole value.
func TestL3BehindAll(t *testing.T) {
	for s, at := range map[string]int{"1 2": 2, "nullx": 4, "null null": 5, "[]]": 2, "[] ]": 3, "{}}": 2, "[],": 2, "1,": 1, "1,2": 1, `"a""b"`: 3, `"a":1`: 3, "{}{}": 2, "[][]": 2, " [1]\n\t x": 7, "true\x00": 4, "[]\xff": 2, "1:": 1, "{}:": 2, "01": 1, "1 \v": 2, "\"\"\"": 2, "[]/": 2, "{} //": 3} {
		wantFault(t, s, 31, at)
	}
}

func TestL3Keys(t *testing.T) {
	begin := []string{"{", `{"a":1,`, `{"a":{"b":1},`, `[{`, `[1,{"a":[],`, `{"b":{`, `{"b":{"b":1,`, ` { "a" : 1 , `, "{\n"}
	for _, ahead := range begin {
		trimmed := strings.TrimRight(ahead, " \n")
		for _, blank := range blankRows() {
			at := len(ahead) + len(blank)
			// No key where one is missing.
			wantFault(t, ahead+blank, 31, at)
			for _, s := range bytesFor(blank) {
				if strings.Contains(" \t\n\r\"", s) || s == "}" && strings.HasSuffix(trimmed, "{") {
					continue
				}
				for _, more := range []string{"", "\"", ":1}", "\":1}", "}"} {
					wantFault(t, ahead+blank+s+more, 31, at)
				}
			}
			for _, no := range []string{"k:1", "'k':1", "null:1", "1:1", "[]:1", "{}:1", ":1", ",", ",\"k\":1", "true"} {
				wantFault(t, ahead+blank+no+ends(ahead), 31, at)
			}
			// A key, and no colon behind it.
			for _, key := range []string{`"k"`, `""`, `"\u006b\""`} {
				for _, more := range blankRows() {
					at := len(ahead) + len(blank) + len(key) + len(more)
					wantFault(t, ahead+blank+key+more, 31, at)
					for _, s := range bytesFor(blank + more) {
						if !strings.Contains(" \t\n\r:", s) {
							wantFault(t, ahead+blank+key+more+s, 31, at)
							wantFault(t, ahead+blank+key+more+s+":1"+ends(ahead), 31, at)
						}
					}
				}
			}
		}
	}
	for s, at := range map[string]int{"{": 1, "{ ": 2, `{"a"`: 4, `{"a"}`: 4, `{"a" }`: 5, `{"a",`: 4, `{"a" 1}`: 5, `{"a"::1}`: 5, `{"a":`: 5, `{"a":}`: 5, `{a:1}`: 1, `{"a":1,}`: 7, `{"a":1, }`: 8, `{"a":1,,}`: 7, `{"a":1,b:2}`: 7, `{,"a":1}`: 1, `{"a"=1}`: 4, `{"a"""}`: 4, `{1:1}`: 1, `{null:1}`: 1, `{["a"]:1}`: 1} {
		wantFault(t, s, 31, at)
	}
}

// A key that occurred before in the same object, spelt the same or by other escapes.
func TestL3KeyTwice(t *testing.T) {
	for s, at := range map[string]int{
		`{"a":1,"a":2}`: 7, `{"a":1, "a":2}`: 8, `{"a":1,"a"`: 7, `{"a":1,"a"}`: 7, `{"a":1,"a" x`: 7, `{"a":1,"a":`: 7, `{"a":1,"a":x}`: 7, `{"a":1,"a":"\x"}`: 7,
		`{"a":1,"\u0061":2}`: 7, `{"\u0061":1,"a":2}`: 12, `{"a":1, "\u0061" :2}`: 8, `{"\u0061":1,"\u0061":2}`: 12, `{"\u00E4":1,"\u00e4":2}`: 12, "{\"\u00e4\":1,\"\\u00e4\":2}": 8, `{"/":1,"\/":2}`: 7, `{"\n":1,"\u000a":2}`: 8, `{"\ud83d\ude00":1,"` + "\U0001f600" + `":2}`: 18,
		`{"":1,"":2}`: 6, `{"a":1,"b":2,"a":3}`: 13, `{"a":1,"b":2,"b":3}`: 13, `{"b":{"a":1},"b":2}`: 13, `{"a":{"a":1,"a":2}}`: 12, `[{"a":1},{"b":1,"b":2}]`: 16, `{"a":[{"c":1},{"c":1,"c":1}],"a":1}`: 21, "{ \"a\" : 1\n,\t\"a\" : 2 }": 12,
		`{"a":{"a":{}},"b":[],"a":{}}`: 21,
	} {
		wantFault(t, s, 31, at)
		checkParse(t, s)
	}
	one := num("1")
	wantParse(t, `{"a":{"a":1}}`, object("a", object("a", one)))
	wantParse(t, `{"a":{"b":1},"b":1}`, object("a b", object("b", one), one))
	wantParse(t, `[{"a":1},{"a":1}]`, list(object("a", one), object("a", one)))
	wantParse(t, `{"a":"b","b":"a"}`, object("a b", text("b"), text("a")))
	wantParse(t, `{"a":1,"A":1,"\\u0061":1}`, object(`a A \u0061`, one, one, one))
	wantFault(t, `{"a":1,"a`, 30, 9)
	wantFault(t, `{"a":1,"a\`, 30, 9)
	many := "{"
	for i := range 400 {
		many += fmt.Sprintf(`"%d":1,`, i)
	}
	for _, i := range []int{0, 1, 200, 399} {
		wantFault(t, fmt.Sprintf(`%s"%d":1}`, many, i), 31, len(many))
	}
	checkParse(t, many+`"400":1}`)
}

// literals is what stands between the marks of a literal, and for what.
func literals() map[string]string {
	return map[string]string{
		"": "", "a": "a", "a b": "a b", `\"`: `"`, `\\`: `\`, `\/`: "/", "/": "/", `\b\f\n\r\t`: "\b\f\n\r\t", `\u0041`: "A", `\u00e4`: "\u00e4", `\u00E4`: "\u00e4", "\u00e4": "\u00e4", `\ud83d\ude00`: "\U0001f600", "\U0001f600": "\U0001f600", `\u0000`: "\x00", "\x7f": "\x7f", "\ufffd": "\ufffd",
		"[1,2]": "[1,2]", `{\"a\":1}`: `{"a":1}`, "null": "null", ":,]}": ":,]}", `\\\"`: `\"`,
	}
}

func TestL3Texts(t *testing.T) {
	for s, want := range literals() {
		l := `"` + s + `"`
		wantParse(t, l, text(want))
		wantParse(t, " "+l+"\t", text(want))
		wantParse(t, "["+l+","+l+" ]", list(text(want), text(want)))
		o := api.Value{Kind: kObject, Keys: []string{want}, Kids: []api.Value{text(want)}}
		wantParse(t, "{"+l+":"+l+"}", o)
		wantParse(t, "{ "+l+" : "+l+" }", o)
		wantParse(t, `{"k":[`+l+`],`+l+`:{`+l+`:0}}`, api.Value{Kind: kObject, Keys: []string{"k", want}, Kids: []api.Value{list(text(want)), {Kind: kObject, Keys: []string{want}, Kids: []api.Value{num("0")}}}})
	}
	// The errors of Unquote at their positions, of texts and of keys.
	for s, n := range map[string]int{
		`"`: 1, `"a`: 2, "\"\u20ac": 4, `"\`: 1, `"a\`: 2, `"\x"`: 1, `"a\x"`: 2, `"\u"`: 1, `"\u00"`: 1, `"\u00g0"`: 1, `"\u00e"`: 1, `"ab\u00e4\v"`: 9, `"\U0041"`: 1, `"\'"`: 1,
		"\"\x01\"": 1, "\"a\x1f\"": 2, "\"\n\"": 1, "\"\t\"": 1, "\"\x00\"": 1, "\"\xff\"": 1, "\"a\x80\"": 2, "\"\xc3\"": 1, "\"\xed\xa0\x80\"": 1, "\"\xc0\x80\"": 1, "\"\u20ac\xe2\x82\"": 4,
		`"\ud800"`: 1, `"\ud800\u0041"`: 1, `"\udc00"`: 1, `"a\ud83d\ud83d"`: 2, `"\"`: 3, `"\\\"`: 5,
	} {
		for _, begin := range begins() {
			wantFault(t, begin+s, 30, len(begin)+n)
			wantFault(t, begin+" \n"+s, 30, len(begin)+2+n)
			for _, more := range []string{":1}", "]", `,"a"`} {
				checkParse(t, begin+s+more)
			}
		}
		for _, begin := range []string{"{", `{"k":1,`, `[{"k":{},`, "{ \n"} {
			wantFault(t, begin+s, 30, len(begin)+n)
			wantFault(t, begin+" \n"+s, 30, len(begin)+2+n)
			checkParse(t, begin+s+`:1}`)
		}
	}
}

// deep returns what opens n lists or objects, and what ends them.
func deep(n int, way string) (string, string) {
	begin := ""
	for i := range n {
		if way == "lists" || way == "both" && i%2 == 0 {
			begin += "["
		} else {
			begin += `{"k":`
		}
	}
	return begin, ends(begin)
}

func TestL3Deep(t *testing.T) {
	for _, way := range []string{"lists", "objects", "both"} {
		for _, inner := range []string{"1", "null", "true", "false", `"a"`, "[]", "{}", "[ ]"} {
			for outer := range 16 {
				begin, end := deep(outer, way)
				if e := checkParse(t, begin+inner+end); e != api.OK {
					t.Errorf("%d: error %d", outer, e)
				}
			}
		}
		begin, end := deep(16, way)
		for _, blank := range blankRows() {
			at := len(begin) + len(blank)
			wantFault(t, begin+blank, 32, at)
			for _, inner := range []string{"1", "null", "[", "[]", "{", "{}", `"a"`, "x", "-", "1.", "nul", `"`, `"\x"`, ",", ":", "\x00", "[[[["} {
				wantFault(t, begin+blank+inner, 32, at)
				wantFault(t, begin+blank+inner+end, 32, at)
			}
		}
	}
	wantParse(t, strings.Repeat("[", 16)+strings.Repeat("]", 16), nested(list(), 15, "lists"))
	wantParse(t, strings.Repeat("[", 15)+"{\n}"+strings.Repeat("]", 15), nested(object(""), 15, "lists"))
	wantFault(t, strings.Repeat("[", 17)+strings.Repeat("]", 17), 32, 16)
	// The key is read ahead of what would be too deep, and may have an error of its own.
	wantFault(t, strings.Repeat("[", 15)+"{", 31, 16)
	wantFault(t, strings.Repeat("[", 15)+"{1:1}", 31, 16)
	wantFault(t, strings.Repeat("[", 15)+`{"\x":1}`, 30, 17)
	wantFault(t, strings.Repeat("[", 15)+`{"a" 1}`, 31, 20)
	wantFault(t, strings.Repeat("[", 15)+`{"a": 1}`, 32, 21)
	// What is at its end again does not count.
	closed := strings.Repeat("[", 15) + strings.Repeat("]", 15)
	wantParse(t, "["+closed+","+closed+`,{"a":1}]`, list(nested(list(), 14, "lists"), nested(list(), 14, "lists"), object("a", num("1"))))
	wantFault(t, "["+closed+","+strings.Repeat("[", 15)+"0", 32, 47)
	wantParse(t, `{"a":`+closed+`,"b":[{},[],{"c":{}}]}`, object("a b", nested(list(), 14, "lists"), list(object(""), list(), object("c", object("")))))
}

func TestL3Many(t *testing.T) {
	zeros := func(n int) string { return strings.TrimSuffix(strings.Repeat("0,", n), ",") }
	for many := 498; many <= 503; many++ {
		s := "[" + zeros(many-1) + "]"
		l := list()
		for range many - 1 {
			l.Kids = append(l.Kids, num("0"))
		}
		two := "[[" + zeros(many-5) + "], [],{\"a\" : 0} ]"
		if many <= 500 {
			wantParse(t, s, l)
			checkParse(t, two)
			continue
		}
		wantFault(t, s, 2, 999)
		if many == 501 {
			wantFault(t, two, 2, len(two)-4)
		}
		checkParse(t, two)
	}
	full := "[" + zeros(499)
	wantFault(t, full, 31, len(full))
	wantFault(t, full+"x", 31, len(full))
	wantFault(t, full+"]]", 31, len(full)+1)
	// A value that would be one too many, whatever stands there.
	for _, blank := range blankRows() {
		for _, inner := range []string{"", "0", "null", "]", "}", ",", "x", "-", "1.", `"`, `"\x"`, "[", "[]", "{", "{}", "\x00"} {
			wantFault(t, full+","+blank+inner, 2, len(full)+1+len(blank))
			wantFault(t, full+","+blank+inner+"]", 2, len(full)+1+len(blank))
		}
	}
	// The 500th is a list or an object: with a value in it there are too many, also where none begins.
	most := "[" + zeros(498) + ","
	for _, c := range []struct {
		s  string
		e  api.Errno
		at int
	}{{"[]]", 0, 0}, {"[ ]]", 0, 0}, {"{}]", 0, 0}, {"[", 2, 1}, {"[ ", 2, 2}, {"[x", 2, 1}, {"[0]]", 2, 1}, {"[}", 2, 1}, {"{", 31, 1}, {"{x", 31, 1}, {`{"a"`, 31, 4}, {`{"a":`, 2, 5}, {`{"a": x`, 2, 6}, {`{"a":0}]`, 2, 5}, {`{"\x":0}]`, 30, 2}, {"x", 31, 0}, {"-", 31, 0}, {`"`, 30, 1}, {"]", 31, 0}} {
		if c.e == 0 {
			if e := checkParse(t, most+c.s); e != api.OK {
				t.Errorf("%s: error %d", c.s, e)
			}
			continue
		}
		wantFault(t, most+c.s, c.e, len(most)+c.at)
	}
	// Keys are no values.
	o := "{"
	for i := range 250 {
		o += fmt.Sprintf(`"%d":[],`, i)
	}
	checkParse(t, strings.TrimSuffix(o, ",")+"}")
	lists := strings.TrimSuffix(strings.Repeat("[0],", 249), ",")
	checkParse(t, "["+lists+",0]")
	wantFault(t, "["+lists+",0,0]", 2, len(lists)+4)
	wantFault(t, "["+lists+",[0]]", 2, len(lists)+3)
}

// Too deep and too many at once: the depth is told.
func TestL3Order(t *testing.T) {
	begin := "[" + strings.Repeat("0,", 484) + strings.Repeat("[", 15)
	for _, inner := range []string{"", "0", "x", "[", `"\x"`, "1.", ","} {
		wantFault(t, begin+inner, 32, len(begin))
		wantFault(t, begin+" "+inner, 32, len(begin)+1)
		wantFault(t, begin[:1]+"0,"+begin[1:]+inner, 2, len(begin)+1)
	}
	wantParse(t, begin+strings.Repeat("]", 16), func() api.Value {
		v := list()
		for range 484 {
			v.Kids = append(v.Kids, num("0"))
		}
		v.Kids = append(v.Kids, nested(list(), 14, "lists"))
		return v
	}())
	wantFault(t, begin+"],0", 2, len(begin)+2)
	wantFault(t, begin+"],x", 2, len(begin)+2)
	// The first error is told, not a later one.
	for s, want := range map[string]struct {
		e  api.Errno
		at int
	}{`[x,"\x"]`: {31, 1}, `["\x",x]`: {30, 2}, `{"a" 1,"\x":2}`: {31, 5}, `["a` + strings.Repeat("[", 20): {30, 23}, "[1," + strings.Repeat("[", 20) + "x": {32, 18}, "[1.," + strings.Repeat("[", 20): {31, 1}, `{"a":1,"a":"\x"}`: {31, 7}, `{"a":"\x","a":1}`: {30, 6}} {
		wantFault(t, s, want.e, want.at)
	}
}

// Texts that are cut off at each place.
func TestL3CutOff(t *testing.T) {
	s := `{"a":[1.5,null],"b":{}}`
	for i, want := range []struct {
		e  api.Errno
		at int
	}{{31, 0}, {31, 1}, {30, 2}, {30, 3}, {31, 4}, {31, 5}, {31, 6}, {31, 7}, {31, 6}, {31, 9}, {31, 10}, {31, 10}, {31, 10}, {31, 10}, {31, 14}, {31, 15}, {31, 16}, {30, 17}, {30, 18}, {31, 19}, {31, 20}, {31, 21}, {31, 22}} {
		wantFault(t, s[:i], want.e, want.at)
	}
	wantParse(t, s, object("a b", list(num("1.5"), word(kNull)), object("")))
	for _, s := range []string{"null", "false", "true", "-12.5e+7", `"a\u00e4\ud83d\ude00b"`, " [ ] ", "{ }", `[[1,[2]],{"a":"b"},true]`, "\t{ \"a\\n\" : [ -1e5 , false ] ,\r\n\"b\" : { \"\\u0063\" : \"d\" } }\n", "\"\u00e4\u20ac\U0001f600\"", strings.Repeat("[", 16) + strings.Repeat("]", 16)} {
		for i := range len(s) + 1 {
			checkParse(t, s[:i])
		}
		if e := checkParse(t, s); e != api.OK {
			t.Errorf("%q: error %d", s, e)
		}
	}
}

// Each byte put in at each place of a text, put there in place of another, and one left out.
func TestL3Changes(t *testing.T) {
	for _, s := range []string{`{"a":[1,true]}`, `[null,{"b":"\u0061"},-0.5e1]`, "{ \"a\" : { } ,\n\"b\" : [ ] }", "[false,[[]],12]"} {
		for i := range len(s) {
			checkParse(t, s[:i]+s[i+1:])
			for c := range 256 {
				checkParse(t, s[:i]+raw(c)+s[i:])
				checkParse(t, s[:i]+raw(c)+s[i+1:])
			}
		}
	}
}

// Each row of a few pieces that matter.
func TestL3Rows(t *testing.T) {
	pieces := []string{"[", "]", "{", "}", ",", ":", `"a"`, `"\u0061"`, "1", "null", " ", "x", `"`, "-"}
	seen := map[api.Errno]int{}
	rows(pieces, 4, func(s string) { seen[checkParse(t, s)]++ })
	rows([]string{"[", "]", "{", "}", ",", ":", `"a"`, "1"}, 6, func(s string) { seen[checkParse(t, s)]++ })
	for _, e := range []api.Errno{0, 30, 31} {
		if seen[e] < 100 {
			t.Error(seen)
		}
	}
}

// spaced returns the text of v with blanks where they may stand, and with strings spelt by other escapes.
func spaced(r *rand.Rand, v api.Value) string {
	blank := func() string {
		all := blankRows()
		return all[max(0, r.IntN(2*len(all))-len(all))]
	}
	literal := func(s string) string {
		q, _ := quote.Quote(s)
		if r.IntN(3) == 0 && !strings.Contains(q, `\`) {
			q = strings.ReplaceAll(strings.ReplaceAll(q, "/", `\/`), "a", `\u0061`)
		}
		return q
	}
	s := ""
	for i, kid := range v.Kids {
		if i > 0 {
			s += ","
		}
		if v.Kind == kObject {
			s += blank() + literal(v.Keys[i]) + blank() + ":"
		}
		s += spaced(r, kid)
	}
	if s == "" {
		s = blank()
	}
	switch v.Kind {
	case kText:
		s = literal(v.Text)
	case kList:
		s = "[" + s + "]"
	case kObject:
		s = "{" + s + "}"
	default:
		s = printed(v)
	}
	return blank() + s + blank()
}

func TestL3RandomTexts(t *testing.T) {
	r := rand.New(rand.NewPCG(11, 3))
	pieces := []string{"[", "]", "{", "}", ",", ":", "\"", "\\", "0", "1", "-", ".", "e", "null", "true", "\"a\"", " ", "\n", "\x00", "\xff", "\u00e4", "[[[[[[[[[[[[[["}
	seen := map[api.Errno]int{}
	for range 60000 {
		v := anyValue(r, 3, 4)
		s := spaced(r, v)
		wantParse(t, s, v)
		checkParse(t, s)
		for range 1 + r.IntN(2) {
			i := r.IntN(len(s) + 1)
			j := min(i+r.IntN(3), len(s))
			s = s[:i] + pieces[r.IntN(len(pieces))] + s[j:]
		}
		seen[checkParse(t, s)]++
	}
	// Else the test would not say what it means.
	for _, e := range []api.Errno{0, 30, 31, 32} {
		if seen[e] < 50 {
			t.Error(seen)
		}
	}
}

// What one call answered does not hang on those before it.
func TestL3Again(t *testing.T) {
	texts := []string{`{"a":[1,true]}`, "[", "nul", strings.Repeat("[", 17), `{"a":1,"a":2}`, `"\x"`, strings.Repeat(" ", 4001), "[" + strings.Repeat("0,", 500), "", "[1,2]"}
	for _, s := range texts {
		for _, other := range texts {
			before := strings.Clone(s)
			v, e, at := json.Parse(s)
			json.Parse(other)
			w, f, bt := json.Parse(s)
			if shown(v) != shown(w) || e != f || at != bt || s != before {
				t.Errorf("%s: %s %d %d, then %s %d %d", short(s), shown(v), e, at, shown(w), f, bt)
			}
		}
	}
}
