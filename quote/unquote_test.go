package quote_test

import (
	"encoding/json"
	"fmt"
	"math/rand/v2"
	"regexp"
	"strings"
	"testing"

	"lockage/api"
	"lockage/quote"
)

// What K3 says of a literal ahead of its end, once more, as a pattern of bytes: each byte is told to it as the character with that number.
var begun = regexp.MustCompile(`^"(?:` + strings.Join([]string{
	`[\x20\x21\x23-\x5b\x5d-\x7f]`,
	`[\xc2-\xdf][\x80-\xbf]`,
	`\xe0[\xa0-\xbf][\x80-\xbf]`, `[\xe1-\xec\xee\xef][\x80-\xbf]{2}`, `\xed[\x80-\x9f][\x80-\xbf]`,
	`\xf0[\x90-\xbf][\x80-\xbf]{2}`, `[\xf1-\xf3][\x80-\xbf]{3}`, `\xf4[\x80-\x8f][\x80-\xbf]{2}`,
	`\\["\\/bfnrt]`,
	`\\u[0-9abcefABCEF][0-9a-fA-F]{3}`, `\\u[dD][0-7][0-9a-fA-F]{2}`,
	`\\u[dD][89abAB][0-9a-fA-F]{2}\\u[dD][c-fC-F][0-9a-fA-F]{2}`,
}, "|") + `)*`)

// unquoted says K3 once more. What a literal stands for is asked of another reader of JSON.
func unquoted(s string) (string, int, api.Errno) {
	wide := make([]rune, len(s))
	for i := range len(s) {
		wide[i] = rune(s[i])
	}
	n := len([]rune(begun.FindString(string(wide))))
	if n == 0 || n == len(s) || s[n] != '"' {
		return "", n, 30
	}
	var text string
	if err := json.Unmarshal([]byte(s[:n+1]), &text); err != nil {
		panic(fmt.Sprintf("%q: %v", s[:n+1], err))
	}
	return text, n + 1, 0
}

// short returns s, or its length and its ends if it is long.
func short(s string) string {
	if len(s) <= 300 {
		return fmt.Sprintf("%q", s)
	}
	return fmt.Sprintf("%d bytes %q..%q", len(s), s[:100], s[len(s)-100:])
}

func wantUnquote(t *testing.T, s, want string, wantN int, wantE api.Errno) {
	t.Helper()
	if got, n, e := quote.Unquote(s); got != want || n != wantN || e != wantE {
		t.Errorf("Unquote(%s): %s %d %d, want %s %d %d", short(s), short(got), n, e, short(want), wantN, wantE)
	}
}

// behind is what may stand behind a literal, which makes no difference.
func behind() []string {
	return []string{"", "x", "\"", "\"\"", "\\", "\\\"", "\\u0041", "\\udc00", "\n", "\x00", ",", " \"a\"", "\x80", "\xbf", "\xff", "\xed\xa0\x80", "\u20ac", "\ufffd", strings.Repeat("y", 1000)}
}

// wantString holds Unquote against a literal of n bytes at the beginning of s, whatever stands behind it.
func wantString(t *testing.T, s, want string, n int) {
	t.Helper()
	for _, more := range behind() {
		wantUnquote(t, s[:n]+more, want, n, api.OK)
	}
	wantUnquote(t, s, want, n, api.OK)
	if !quote.Valid(want) {
		t.Errorf("Unquote(%s): %s is not valid", short(s), short(want))
	}
}

// wantAt holds Unquote against ErrText at that position.
func wantAt(t *testing.T, s string, at int) {
	t.Helper()
	wantUnquote(t, s, "", at, api.ErrText)
}

// checkUnquote holds Unquote against K3, and what it returns against K4.
func checkUnquote(t *testing.T, s string) {
	t.Helper()
	want, n, e := unquoted(s)
	wantUnquote(t, s, want, n, e)
	if e != api.OK {
		return
	}
	if !quote.Valid(want) {
		t.Errorf("Unquote(%s): %s is not valid", short(s), short(want))
	}
	again, e := quote.Quote(want)
	if e != api.OK {
		t.Errorf("Quote(%s): error %d", short(want), e)
	}
	wantUnquote(t, again, want, len(again), api.OK)
}

// checkCuts holds Unquote against K3 for s cut off at each place.
func checkCuts(t *testing.T, s string) {
	t.Helper()
	for i := range len(s) + 1 {
		checkUnquote(t, s[:i])
	}
}

// hex returns an escape with the digits of n, which are small letters or capital ones.
func hex(n int, capital bool) string {
	if capital {
		return fmt.Sprintf(`\u%04X`, n)
	}
	return fmt.Sprintf(`\u%04x`, n)
}

func TestExample(t *testing.T) {
	wantString(t, `"a\u00e4\n"`, "a\xc3\xa4\n", 11)
	checkCuts(t, `"a\u00e4\n"`)
}

func TestK3NoLiteral(t *testing.T) {
	wantAt(t, "", 0)
	for c := range 256 {
		for _, more := range []string{"", "a", "\"", "a\"", "\"a\"", "\\", "\xff"} {
			if c != '"' {
				wantAt(t, raw(c)+more, 0)
			}
		}
	}
	for _, s := range []string{" \"a\"", "a\"b\"", "'a'", "\\\"a\"", "\\u0022a\"", "\u20ac\"\"", "\xff\"\"", "\ufeff\"\"", "\u201ca\u201d"} {
		wantAt(t, s, 0)
	}
}

func TestK3Plain(t *testing.T) {
	wantString(t, `""`, "", 2)
	wantString(t, `"a"`, "a", 3)
	wantString(t, `"a/b'c"`, "a/b'c", 7)
	wantAt(t, `"`, 1)
	wantAt(t, `"a`, 2)
	wantAt(t, "\"\u20ac", 4)
	for c := 32; c < 128; c++ {
		if c != '"' && c != '\\' {
			wantString(t, `"`+raw(c)+`"`, raw(c), 3)
			wantString(t, `"a`+raw(c)+`b"`, "a"+raw(c)+"b", 5)
			wantAt(t, `"`+raw(c), 2)
		}
	}
	for _, c := range characters() {
		if c >= " " && c != `"` && c != `\` {
			wantString(t, `"`+c+`"`, c, len(c)+2)
			wantString(t, `"a`+c+`\n"`, "a"+c+"\n", len(c)+5)
			wantAt(t, `"`+c, len(c)+1)
		}
	}
}

func TestK3Escapes(t *testing.T) {
	meant := map[int]string{'"': "\x22", '\\': "\x5c", '/': "\x2f", 'b': "\x08", 'f': "\x0c", 'n': "\x0a", 'r': "\x0d", 't': "\x09"}
	for c := range 256 {
		s := `\` + raw(c)
		if want, is := meant[c]; is {
			wantString(t, `"`+s+`"`, want, 4)
			wantString(t, `"a`+s+`b"`, "a"+want+"b", 6)
			wantString(t, `"`+s+s+`"`, want+want, 6)
			wantString(t, `"`+s+`u0041"`, want+"u0041", 9)
			wantAt(t, `"`+s, 3)
			continue
		}
		for _, more := range []string{"", "\"", "a\"", "\\\"", "\x80\x80\"", "004\"", "\\\\"} {
			wantAt(t, `"`+s+more, 1)
			wantAt(t, `"ab`+s+more, 3)
			wantAt(t, "\"\u20ac"+s+more, 4)
			wantAt(t, `"\n`+s+more, 3)
			wantAt(t, `"\u0041`+s+more, 7)
			wantAt(t, `"\ud83d\ude00`+s+more, 13)
		}
	}
	wantAt(t, `"\`, 1)
	wantAt(t, `"a\`, 2)
	wantAt(t, `"\\\`, 3)
	wantAt(t, `"\"`, 3)
	wantAt(t, `"\\\"`, 5)
	wantString(t, `"\\"`, `\`, 4)
	wantString(t, `"\\"\"`, `\`, 4)
}

func TestK3CodePoints(t *testing.T) {
	for n := range 0x10000 {
		for _, s := range []string{hex(n, false), hex(n, true)} {
			if !isPoint(n) {
				wantAt(t, `"`+s+`"`, 1)
				wantAt(t, `"a`+s+`b"`, 2)
				continue
			}
			want := encoded(n, lengthOf(n))
			wantUnquote(t, `"`+s+`"`, want, 8, api.OK)
			wantUnquote(t, `"a`+s+`bc"d`, "a"+want+"bc", 11, api.OK)
			wantAt(t, `"`+s, 7)
		}
	}
	for n, want := range map[int]string{0: "\x00", 0x22: `"`, 0x5c: `\`, 0x41: "A", 0x7f: "\x7f", 0x80: "\xc2\x80", 0xe4: "\xc3\xa4", 0x7ff: "\xdf\xbf", 0x800: "\xe0\xa0\x80", 0xd7ff: "\xed\x9f\xbf", 0xe000: "\xee\x80\x80", 0xfffd: "\xef\xbf\xbd", 0xffff: "\xef\xbf\xbf"} {
		wantString(t, `"`+hex(n, false)+`"`, want, 8)
		wantString(t, `"`+hex(n, true)+`"`, want, 8)
		wantString(t, `"`+hex(n, true)+`0"`, want+"0", 9)
		wantString(t, `"`+hex(n, true)+hex(n, false)+`"`, want+want, 14)
		checkCuts(t, `"x`+hex(n, false)+`y"`)
	}
	for _, s := range []string{"aBcD", "AbCd", "abCD", "ABcd"} {
		wantString(t, `"\u`+s+`"`, "\uabcd", 8)
	}
}

// Each byte at each place of the digits, and fewer than four of them.
func TestK3Digits(t *testing.T) {
	for c := range 256 {
		digit := strings.Contains("0123456789abcdefABCDEF", raw(c))
		for i := range 4 {
			for _, digits := range []string{"0041", "1234", "efef"} {
				s := digits[:i] + raw(c) + digits[i+1:]
				checkUnquote(t, `"\u`+s+`"`)
				checkUnquote(t, `"a\u`+digits+`\u`+s)
				checkUnquote(t, `"\ud83d\u`+s+`"`)
				checkUnquote(t, `"\ud83d\u`+"de00"[:i]+raw(c)+"de00"[i+1:]+`"`)
				if !digit {
					wantAt(t, `"\u`+s+`"`, 1)
					wantAt(t, `"ab\u`+s+`"`, 3)
					wantAt(t, `"\ud83d\u`+s+`"`, 1)
				}
			}
		}
	}
	for _, s := range []string{"", "0", "00", "004", "1", "12", "123", "d", "d8", "d80", "g", "0x41", "+041", "-041", " 041", "00 41", "0_41", "{41}", "U0041", "\u0661\u0661"} {
		for _, more := range []string{"", "\"", "\"5678", "\\", "\\u0041\"", "\n", "\xff", "\u20ac"} {
			wantAt(t, `"\u`+s+more, 1)
			wantAt(t, `"a\u`+s+more, 2)
			wantAt(t, `"\ud800\u`+s+more, 1)
			wantAt(t, `"\ud83d\ude00\u`+s+more, 13)
		}
	}
	wantAt(t, `"\U0041"`, 1)
	wantAt(t, `"\x41"`, 1)
}

func TestK3Pairs(t *testing.T) {
	for _, c := range []struct {
		s, want string
	}{
		{`\ud800\udc00`, "\xf0\x90\x80\x80"}, {`\ud800\udfff`, "\xf0\x90\x8f\xbf"}, {`\udbff\udc00`, "\xf4\x8f\xb0\x80"}, {`\udbff\udfff`, "\xf4\x8f\xbf\xbf"}, {`\ud83d\ude00`, "\xf0\x9f\x98\x80"}, {`\ud801\udc00`, "\xf0\x90\x90\x80"},
		{`\uD800\uDC00`, "\xf0\x90\x80\x80"}, {`\uDBFF\uDFFF`, "\xf4\x8f\xbf\xbf"}, {`\uD83d\uDe00`, "\xf0\x9f\x98\x80"}, {`\ud83D\udE00`, "\xf0\x9f\x98\x80"},
		{`\ud800\udc00\ud800\udc00`, "\U00010000\U00010000"}, {`\ud83d\ude00\u0041`, "\U0001f600A"}, {`\ud83d\ude00de00`, "\U0001f600de00"},
	} {
		wantString(t, `"`+c.s+`"`, c.want, len(c.s)+2)
		wantString(t, `"a`+c.s+`b"`, "a"+c.want+"b", len(c.s)+4)
		checkCuts(t, `"a`+c.s+`b"`)
	}
	for first := 0xd800; first <= 0xdbff; first++ {
		for second := 0xdc00; second <= 0xdfff; second += 1 + first%7*31 {
			n := 0x10000 + (first-0xd800)*0x400 + second - 0xdc00
			wantUnquote(t, `"`+hex(first, n%2 == 0)+hex(second, n%3 == 0)+`"`, encoded(n, 4), 14, api.OK)
		}
	}
}

// A first half without a second one behind it, and a second half without a first one ahead of it.
func TestK3Halves(t *testing.T) {
	follows := []string{"", `"`, `x"`, `\n"`, `\\"`, `\"`, `\"\udc00"`, `\`, `\u`, `\u"`, `\ud`, `\udc0`, `\udc0"`, `\udc0g"`, `\uxxxx"`, `\x"`, `\u0041"`, `\u0000"`, `\udbff"`, `\ud800"`, `\ud800\udc00"`, `\ue000"`, `\uffff"`, `\udbff\udfff"`, `\Udc00"`, `/udc00"`, `udc00"`, ` \udc00"`, `x\udc00"`, "\n", "\x00\\udc00\"", "\xff", "\u20ac\"", "\xed\xb0\x80\""}
	for _, first := range []int{0xd800, 0xd801, 0xd83d, 0xda00, 0xdbfe, 0xdbff} {
		for _, more := range follows {
			wantAt(t, `"`+hex(first, false)+more, 1)
			wantAt(t, `"ab`+hex(first, true)+more, 3)
			wantAt(t, `"\ud800\udc00`+hex(first, true)+more, 13)
		}
		for second := range 0x10000 {
			if second < 0xdc00 || second > 0xdfff {
				wantAt(t, `"`+hex(first, false)+hex(second, first%2 == 0)+`"`, 1)
			}
		}
	}
	for _, second := range []int{0xdc00, 0xdc01, 0xde00, 0xdffe, 0xdfff} {
		for _, more := range append(follows, `\udc00"`, `\udfff"`) {
			wantAt(t, `"`+hex(second, false)+more, 1)
			wantAt(t, `"\n`+hex(second, true)+more, 3)
			wantAt(t, `"\ud800\udc00`+hex(second, true)+more, 13)
		}
	}
}

// Bytes that stand for nothing in a literal: those below 32, and those that are no character.
func TestK3WrongBytes(t *testing.T) {
	var wrong []string
	for c := range 32 {
		wrong = append(wrong, raw(c))
	}
	for c := 128; c < 256; c++ {
		wrong = append(wrong, raw(c))
	}
	for _, s := range append(wrong, wrongs()...) {
		if strings.HasPrefix(s, "\ufffd") {
			s = s[3:]
		}
		for _, more := range []string{"", "\"", "a\"", "\\n\""} {
			wantAt(t, "\""+s+more, 1)
			wantAt(t, "\"ab"+s+more, 3)
			wantAt(t, "\"\\n"+s+more, 3)
			wantAt(t, "\"\u20ac"+s+more, 4)
			wantAt(t, "\"\ufffd"+s+more, 4)
			wantAt(t, "\"\\u0041"+s+more, 7)
			wantAt(t, "\"\\ud83d\\ude00"+s+more, 13)
			wantAt(t, "\"\\"+s+more, 1)
		}
	}
}

// A literal that is cut off at each place, also amid a character.
func TestK3CutOff(t *testing.T) {
	for _, s := range []string{`"abc"`, `"a\"b\\c\/\b\f\n\r\t"`, `"\u0041\u00e4\u20AC\uFFFF"`, `"\ud83d\ude00x\uDBFF\uDFFF"`, "\"\u00e4\u20ac\U0001f600\ufffd\"", "\"\u00e4\\\\\u20ac\\\"\U0001f600\\ud800\\udc00\u0080\"", `"\\\\\\\\"`, `"\"\"\""`} {
		checkCuts(t, s)
		for i := range len(s) {
			if _, n, e := quote.Unquote(s[:i]); e != api.ErrText || n > i {
				t.Errorf("Unquote(%q): %d %d", s[:i], n, e)
			}
		}
		_, n, e := quote.Unquote(s)
		if n != len(s) || e != api.OK {
			t.Errorf("Unquote(%q): %d %d", s, n, e)
		}
	}
	for _, c := range characters() {
		for i := 1; i < len(c); i++ {
			wantAt(t, `"`+c[:i], 1)
			wantAt(t, `"ab`+c[:i], 3)
			wantAt(t, `"`+c+c[:i], 1+len(c))
			wantAt(t, `"`+c[:i]+`"`, 1)
			wantAt(t, `"a`+c[:i]+`b"`, 2)
		}
	}
}

// Each row of a few pieces that matter.
func TestK3Rows(t *testing.T) {
	pieces := []string{"\"", "\\", "u", "n", "0041", "\\u", "d83d", "de00", "a", "\xc3", "\xa4", "\ufffd", "\x1f"}
	rows(pieces, 4, func(s string) {
		checkUnquote(t, s)
		checkUnquote(t, "\""+s)
		checkUnquote(t, "\""+s+"\"")
	})
}

func TestK4Rows(t *testing.T) {
	rows([]string{"\"", "\\", "/", "u", "\n", "\r", "\t", "\x00", "\x1f", "\x7f", "\u00e4", "\ufffd", "\U0001f600", "\xff"}, 3, func(s string) { checkQuote(t, s) })
}

func TestLong(t *testing.T) {
	for _, n := range []int{4000, 100000} {
		for _, c := range []struct{ s, want string }{{"a", "a"}, {`\\`, `\`}, {`\u0041`, "A"}, {`\ud83d\ude00`, "\U0001f600"}, {"\u20ac", "\u20ac"}} {
			s := `"` + strings.Repeat(c.s, n)
			wantUnquote(t, s+`"`, strings.Repeat(c.want, n), len(s)+1, api.OK)
			wantAt(t, s, len(s))
			wantAt(t, s+"\xff\"", len(s))
		}
	}
}

// piece returns what literals, and what is nearly so, are made of.
func piece(r *rand.Rand) string {
	switch r.IntN(8) {
	case 0:
		return `\` + raw(r.IntN(256))
	case 1:
		return `\` + string(`"\/bfnrt`[r.IntN(8)])
	case 2:
		return hex(r.IntN(0x10000), r.IntN(2) == 0)
	case 3:
		return hex(0xd700+r.IntN(0xa00), r.IntN(2) == 0) + hex(0xdb00+r.IntN(0x600), r.IntN(2) == 0)
	case 4:
		return raw(r.IntN(256))
	case 5:
		n := r.IntN(0x110010)
		return encoded(n, lengthOf(n))
	case 6:
		all := characters()
		return all[r.IntN(len(all))]
	}
	return raw(32 + r.IntN(96))
}

// anyText returns a text that is mostly a literal or nearly one.
func anyText(r *rand.Rand) string {
	s := `"`
	for range r.IntN(4) {
		s += piece(r)
	}
	if r.IntN(4) > 0 {
		s += `"`
	}
	if r.IntN(3) == 0 {
		s += piece(r)
	}
	if i := r.IntN(len(s)); r.IntN(6) == 0 {
		s = s[:i] + s[i+1:]
	}
	return s
}

func TestRandomTexts(t *testing.T) {
	r := rand.New(rand.NewPCG(10, 10))
	seen := map[api.Errno]int{}
	for range 100000 {
		s := anyText(r)
		checkUnquote(t, s)
		checkValid(t, s, valid(s))
		checkQuote(t, s)
		_, _, e := quote.Unquote(s)
		seen[e]++
	}
	// Else the test would not say what it means.
	if seen[api.OK] < 10000 || seen[api.ErrText] < 10000 {
		t.Error(seen)
	}
}

// Arguments read as before, and what one call answered does not hang on those before it.
func TestArgumentsStay(t *testing.T) {
	r := rand.New(rand.NewPCG(10, 11))
	for range 20000 {
		s := anyText(r)
		before := strings.Clone(s)
		text, n, e := quote.Unquote(s)
		literal, d := quote.Quote(s)
		is := quote.Valid(s)
		quote.Unquote(anyText(r))
		quote.Quote(anyText(r))
		wantUnquote(t, s, text, n, e)
		if again, f := quote.Quote(s); s != before || again != literal || f != d || quote.Valid(s) != is {
			t.Fatalf("%q became %q", before, s)
		}
	}
}
