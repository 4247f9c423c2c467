package quote_test

import (
	"bytes"
	"fmt"
	"slices"
	"strings"
	"testing"
	"unicode/utf8"

	"lockage/api"
	"lockage/quote"
)

// encoded returns the code point n in so many bytes, as UTF-8 would write it, whether that is valid or not.
func encoded(n, length int) string {
	if length == 1 {
		return string([]byte{byte(n)})
	}
	b := make([]byte, length)
	for i := length - 1; i > 0; i-- {
		b[i] = byte(0x80 | n&0x3f)
		n >>= 6
	}
	b[0] = byte(0xff00>>length | n)
	return string(b)
}

// lengthOf returns in how many bytes UTF-8 writes the code point n, or would write it if it were one.
func lengthOf(n int) int {
	for length, limit := range []int{0x80, 0x800, 0x10000} {
		if n < limit {
			return length + 1
		}
	}
	return 4
}

// isPoint says what K1 says of a code point.
func isPoint(n int) bool {
	return 0 <= n && n <= 0x10ffff && !(0xd800 <= n && n <= 0xdfff)
}

// valid says K1 once more, byte by byte.
func valid(s string) bool {
	for s != "" {
		length := leadLength(s[0])
		if length == 0 || length > len(s) {
			return false
		}
		n := int(s[0])
		if length > 1 {
			n &= 0x7f >> length
		}
		for i := 1; i < length; i++ {
			if s[i]&0xc0 != 0x80 {
				return false
			}
			n = n<<6 | int(s[i]&0x3f)
		}
		if !isPoint(n) || lengthOf(n) != length {
			return false
		}
		s = s[length:]
	}
	return true
}

// leadLength returns how many bytes a character has that begins with c, or 0 if none begins so.
func leadLength(c byte) int {
	switch {
	case c < 0x80:
		return 1
	case c>>5 == 6:
		return 2
	case c>>4 == 14:
		return 3
	case c>>3 == 30:
		return 4
	}
	return 0
}

// quoted says K2 once more, byte by byte.
func quoted(s string) (string, api.Errno) {
	if !valid(s) {
		return "", 30
	}
	out := []byte{34}
	for _, c := range []byte(s) {
		switch {
		case slices.Contains([]byte{34, 92}, c):
			out = append(out, 92, c)
		case slices.Contains([]byte{9, 10, 13}, c):
			out = append(out, 92, map[byte]byte{9: 't', 10: 'n', 13: 'r'}[c])
		case c < 32:
			out = fmt.Appendf(out, "\\u%04x", c)
		default:
			out = append(out, c)
		}
	}
	return string(append(out, 34)), 0
}

// raw returns the string of that byte alone, whatever it is in UTF-8.
func raw(c int) string { return string([]byte{byte(c)}) }

// rows calls do with each row of up to so many of the pieces, the empty one included.
func rows(pieces []string, most int, do func(s string)) {
	var grow func(s string, left int)
	grow = func(s string, left int) {
		do(s)
		if left == 0 {
			return
		}
		for _, p := range pieces {
			grow(s+p, left-1)
		}
	}
	grow("", most)
}

// characters is valid characters: the smallest and the largest of each length, and others at which something changes.
func characters() []string {
	var out []string
	for _, n := range []int{0, 1, 8, 9, 10, 11, 12, 13, 31, 32, '"', '/', '0', 'a', 'u', '\\', 0x7e, 0x7f, 0x80, 0x81, 0xe4, 0xff, 0x100, 0x7ff, 0x800, 0xfff, 0x1000, 0x2028, 0xd7ff, 0xe000, 0xfdd0, 0xfeff, 0xfffc, 0xfffd, 0xfffe, 0xffff, 0x10000, 0x1f600, 0x3ffff, 0x40000, 0xfffff, 0x100000, 0x10fffe, 0x10ffff} {
		out = append(out, encoded(n, lengthOf(n)))
	}
	return out
}

// wrongs is texts that are not valid, of which all but the last begin with bytes that are no character.
func wrongs() []string {
	out := []string{"\x80", "\xbf", "\xfe", "\xff", "\xfc\x80\x80\x80\x80\x80", "\xf8\x88\x80\x80\x80", "\xc3", "\xc3(", "\xe2\x82", "\xe2\x82(", "\xe2(\xac", "\xf0\x9f\x98", "\xf0\x9f\x98(", "\xf0\x9f(\x80", "\xf0(\x98\x80", "\xc3\xc3", "\xef\xbf", "\xef", "\xc0\xa2", "\xc1\x9c", "\xc0\x80", "\xc1\xbf", "\xe0\x80\x80", "\xe0\x9f\xbf", "\xf0\x80\x80\x80", "\xf0\x8f\xbf\xbf", "\xed\xa0\x80", "\xed\xaf\xbf", "\xed\xb0\x80", "\xed\xbf\xbf", "\xed\xa0\xbd\xed\xb8\x80", "\xf4\x90\x80\x80", "\xf5\x80\x80\x80", "\xf7\xbf\xbf\xbf"}
	return append(out, "\xef\xbf\xbd\xff")
}

// checkValid holds Valid against K1, and Quote against what it says of texts that are not valid.
func checkValid(t *testing.T, s string, want bool) {
	t.Helper()
	if got := quote.Valid(s); got != want || valid(s) != want || utf8.ValidString(s) != want {
		t.Errorf("Valid(%q): %v, want %v", s, got, want)
	}
	if got, e := quote.Quote(s); !want && (got != "" || e != api.ErrText) || want && e != api.OK {
		t.Errorf("Quote(%q): %q %d", s, got, e)
	}
}

// checkQuote holds Quote against K2, and Unquote of what it wrote against K4.
func checkQuote(t *testing.T, s string) {
	t.Helper()
	want, wantE := quoted(s)
	got, e := quote.Quote(s)
	if got != want || e != wantE {
		t.Errorf("Quote(%q): %q %d, want %q %d", s, got, e, want, wantE)
	}
	if e == api.OK {
		wantString(t, got, s, len(got))
	}
}

func wantQuote(t *testing.T, s, want string) {
	t.Helper()
	if got, e := quote.Quote(s); got != want || e != api.OK {
		t.Errorf("Quote(%q): %q %d, want %q", s, got, e, want)
	}
	checkQuote(t, s)
}

func TestErrors(t *testing.T) {
	if api.OK != 0 || api.ErrText != 30 {
		t.Error("the errors' numbers are those of the chapter")
	}
}

func TestK1Bytes(t *testing.T) {
	checkValid(t, "", true)
	for c := range 256 {
		checkValid(t, raw(c), c < 128)
		for d := range 256 {
			checkValid(t, raw(c)+raw(d), c < 128 && d < 128 || 0xc2 <= c && c <= 0xdf && 0x80 <= d && d <= 0xbf)
		}
	}
}

// Each first byte with each second one, and with the further bytes at their edges.
func TestK1LongerCharacters(t *testing.T) {
	further := []string{"", "\x00", "a", "\x7f", "\x80", "\xbf", "\xc0", "\xff"}
	for c := range 256 {
		for d := range 256 {
			rows(further, 2, func(s string) {
				s = raw(c) + raw(d) + s
				checkValid(t, s, valid(s))
			})
		}
	}
}

func TestK1CodePoints(t *testing.T) {
	for n := range 0x110010 {
		want := isPoint(n)
		for length := max(lengthOf(n), 1); length <= 4; length++ {
			if n > 0x3000 && length > lengthOf(n) && n%97 != 0 {
				continue
			}
			checkValid(t, encoded(n, length), want && length == lengthOf(n))
		}
	}
	for _, n := range []int{0x110000, 0x110001, 0x13ffff, 0x140000, 0x1fffff} {
		checkValid(t, encoded(n, 4), false)
	}
}

// The edges one by one, as the chapter says them.
func TestK1Edges(t *testing.T) {
	for s, want := range map[string]bool{
		"": true, "a": true, "\x00": true, "\x7f": true, "\xc2\x80": true, "\xdf\xbf": true, "\xe0\xa0\x80": true, "\xef\xbf\xbf": true, "\xf0\x90\x80\x80": true, "\xf4\x8f\xbf\xbf": true,
		"\x80": false, "\xff": false, "\xc0\x80": false, "\xc1\xbf": false, "\xe0\x80\x80": false, "\xe0\x81\xbf": false, "\xe0\x82\x80": false, "\xe0\x9f\xbf": false, "\xf0\x80\x80\x80": false, "\xf0\x80\x81\xbf": false, "\xf0\x80\xa0\x80": false, "\xf0\x8f\xbf\xbf": false,
		"\xed\x9f\xbf": true, "\xed\xa0\x80": false, "\xed\xaf\xbf": false, "\xed\xb0\x80": false, "\xed\xbf\xbf": false, "\xee\x80\x80": true, "\xf4\x90\x80\x80": false, "\xf5\x80\x80\x80": false, "\xf8\x88\x80\x80\x80": false,
		"\xef\xbf\xbd": true, "\xef\xbf\xbd\xef\xbf\xbd": true, "\xef\xbf\xbd\xff": false, "\xff\xef\xbf\xbd": false, "\xef\xbf\xef\xbf\xbd": false, "\xef\xbf": false, "\xef\xbf\xbda": true, "a\xef\xbf\xbd": true,
	} {
		checkValid(t, s, want)
		checkValid(t, "a"+s+"b", want)
		checkValid(t, "\u20ac"+s, want)
		checkValid(t, s+strings.Repeat("x", 1000), want)
	}
}

// A character that the end cuts off, or that another one does.
func TestK1CutOff(t *testing.T) {
	for _, c := range characters() {
		checkValid(t, c, true)
		for i := 1; i < len(c); i++ {
			checkValid(t, c[:i], false)
			checkValid(t, "a"+c[:i], false)
			checkValid(t, c[:i]+"a", false)
			checkValid(t, c[:i]+c, false)
			checkValid(t, c+c[:i], false)
			checkValid(t, c[i:], false)
			checkValid(t, c+c[i:], false)
		}
	}
}

func TestK1Rows(t *testing.T) {
	pieces := []string{"a", "\x80", "\xbf", "\xc3", "\xe0", "\xed", "\xef", "\xf0", "\xf4", "\xff", "\xa0", "\xbd"}
	rows(pieces, 5, func(s string) { checkValid(t, s, valid(s)) })
}

func TestK2(t *testing.T) {
	for s, want := range map[string]string{
		"": `""`, "a": `"a"`, "a b": `"a b"`, `"`: `"\""`, `\`: `"\\"`, `\"`: `"\\\""`, `""`: `"\"\""`, `\\`: `"\\\\"`, `\n`: `"\\n"`, `\u0041`: `"\\u0041"`,
		"\n": `"\n"`, "\r": `"\r"`, "\t": `"\t"`, "\r\n\t": `"\r\n\t"`, "\b": `"\u0008"`, "\f": `"\u000c"`, "\v": `"\u000b"`, "\a": `"\u0007"`, "\x00": `"\u0000"`, "\x1b": `"\u001b"`, "\x1f": `"\u001f"`, "\x10": `"\u0010"`, "\x0e": `"\u000e"`,
		" ": `" "`, "/": `"/"`, "\x7f": "\"\x7f\"", "'": `"'"`, "<>&": `"<>&"`, "\x00\x00": `"\u0000\u0000"`, "\x001": `"\u00001"`,
		"\u0080": "\"\u0080\"", "\u00e4": "\"\u00e4\"", "\u2028": "\"\u2028\"", "\ufffd": "\"\ufffd\"", "\U0001f600": "\"\U0001f600\"", "a\u00e4\n": "\"a\u00e4\\n\"",
	} {
		wantQuote(t, s, want)
	}
	for c := range 128 {
		for _, around := range []string{"", "a", "\\", "\"", "\n", "\x00", "\u20ac"} {
			checkQuote(t, around+raw(c)+around)
			checkQuote(t, raw(c)+around+raw(c))
		}
		if c >= 32 && c != 34 && c != 92 {
			wantQuote(t, raw(c), `"`+raw(c)+`"`)
		}
		for d := range 128 {
			checkQuote(t, raw(c)+raw(d))
		}
	}
}

func TestK2LongerCharacters(t *testing.T) {
	for _, c := range characters() {
		for _, d := range characters() {
			checkQuote(t, c+d)
			checkQuote(t, "a"+c+"\n"+d+"\"")
		}
		if len(c) > 1 {
			wantQuote(t, c, `"`+c+`"`)
		}
	}
	for n := 0; n < 0x110000; n += 1 + n/0x800 {
		if isPoint(n) {
			checkQuote(t, encoded(n, lengthOf(n)))
		}
	}
}

func TestK2NotValid(t *testing.T) {
	for _, s := range wrongs() {
		for _, whole := range []string{s, "a" + s, s + "a", "\"" + s + "\"", "\n" + s, s + "\n", "\ufffd" + s, s + "\ufffd", strings.Repeat("x", 5000) + s} {
			if got, e := quote.Quote(whole); got != "" || e != api.ErrText {
				t.Errorf("Quote(%q): %q %d", whole, got, e)
			}
			checkQuote(t, whole)
		}
	}
}

// A text that is as long as a body, and longer ones.
func TestK2Long(t *testing.T) {
	for _, n := range []int{4000, 4001, 100000} {
		for _, c := range []string{"a", "\"", "\x00", "\n", "\u20ac", "\U0001f600"} {
			checkQuote(t, strings.Repeat(c, n))
		}
	}
	if got, e := quote.Quote(strings.Repeat("\x01", 4000)); len(got) != 24002 || e != api.OK {
		t.Errorf("%d bytes, error %d", len(got), e)
	}
}

// What Quote writes has no byte below 32, and its bytes beyond 127 are those of the text.
func TestK2WrittenBytes(t *testing.T) {
	beyond := func(s string) string {
		return string(bytes.Map(func(r rune) rune {
			if r < 128 {
				return -1
			}
			return r
		}, []byte(s)))
	}
	rows(characters(), 2, func(s string) {
		got, _ := quote.Quote(s)
		if strings.ContainsFunc(got, func(r rune) bool { return r < 32 }) || beyond(got) != beyond(s) || !quote.Valid(got) {
			t.Errorf("Quote(%q): %q", s, got)
		}
	})
}
