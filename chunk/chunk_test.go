package chunk_test

import (
	"bytes"
	"fmt"
	"math"
	"math/big"
	"regexp"
	"slices"
	"strings"
	"testing"

	"lockage/api"
	"lockage/chunk"
)

// What the chapter says of lines, once more, as patterns. A trailer's value may be as long as its line.
var (
	sizeLine    = regexp.MustCompile(`^[\t ]*([0-9A-Fa-f]+)[\t ]*(?s:;.*)?$`)
	trailerLine = regexp.MustCompile("^[-!#$%&'*+.^_`|~0-9A-Za-z]{1,40}:[\t -~]*$")
)

// lineStates is the States in which lines are read.
var lineStates = []int{0, 2, 3}

// valid says H1 once more.
func valid(c api.Chunks) bool {
	if c.Many < 0 || c.Many > 4000 {
		return false
	}
	switch c.State {
	case 0, 2, 3:
		return c.Left == 0 && len(c.Line) <= 200
	case 1:
		return 0 < c.Left && c.Left <= 4000 && c.Line == ""
	case 4:
		return c.Left == 0 && c.Line == ""
	}
	return false
}

// fed says H2 once more.
func fed(c api.Chunks, s string) (api.Chunks, int, string, api.Errno) {
	if !valid(c) {
		return c, 0, "", 1
	}
	now, line, body := c, []byte(c.Line), []byte{}
	for i := range len(s) {
		if now.State == 4 {
			return now, i, string(body), 0
		}
		if now.State == 1 {
			body = append(body, s[i])
			now.Many++
			now.Left--
			now.State = map[bool]int{true: 2, false: 1}[now.Left == 0]
			continue
		}
		line = append(line, s[i])
		if bytes.HasSuffix(line, []byte{13, 10}) {
			var e api.Errno
			if now, e = lineRead(now, string(line[:len(line)-2])); e != 0 {
				return c, 0, "", e
			}
			line = nil
		} else if len(line) > 200 {
			return c, 0, "", 2
		}
		now.Line = string(line)
	}
	return now, len(s), string(body), 0
}

// lineRead says what H2 says of a line, once more.
func lineRead(c api.Chunks, line string) (api.Chunks, api.Errno) {
	switch c.State {
	case 0:
		m := sizeLine.FindStringSubmatch(line)
		if m == nil {
			return c, 23
		}
		n, _ := new(big.Int).SetString(m[1], 16)
		if n.Cmp(big.NewInt(4000-int64(c.Many))) > 0 {
			return c, 2
		}
		if n.Sign() == 0 {
			return api.Chunks{State: 3, Many: c.Many}, 0
		}
		return api.Chunks{State: 1, Left: int(n.Int64()), Many: c.Many}, 0
	case 2:
		if len(line) > 0 {
			return c, 23
		}
		return api.Chunks{Many: c.Many}, 0
	}
	if len(line) == 0 {
		return api.Chunks{State: 4, Many: c.Many}, 0
	}
	if !trailerLine.MatchString(line) {
		return c, 23
	}
	return api.Chunks{State: 3, Many: c.Many}, 0
}

// encoded says H3 once more.
func encoded(s string, size int) (string, api.Errno) {
	if size <= 0 || size >= 4001 || len(s) >= 4001 {
		return "", 1
	}
	var text []string
	for piece := range slices.Chunk([]byte(s), size) {
		text = append(text, fmt.Sprintf("%x\r\n%s\r\n", len(piece), piece))
	}
	return strings.Join(append(text, "0\r\n\r\n"), ""), 0
}

// short returns s, or its length and its beginning if it is long.
func short(s string) string {
	if len(s) <= 300 {
		return fmt.Sprintf("%q", s)
	}
	return fmt.Sprintf("%d bytes %q..", len(s), s[:300])
}

// at returns chunks in which a line is read.
func at(state int, line string, many int) api.Chunks {
	return api.Chunks{State: state, Line: line, Many: many}
}

// inChunk returns chunks in the data of a chunk.
func inChunk(left, many int) api.Chunks {
	return api.Chunks{State: 1, Left: left, Many: many}
}

// sized returns the chunks after a size line that tells that size.
func sized(size, many int) api.Chunks {
	if size == 0 {
		return at(3, "", many)
	}
	return inChunk(size, many)
}

// raw returns the string of that byte alone, whatever it is in UTF-8.
func raw(c int) string { return string([]byte{byte(c)}) }

// text returns n bytes that are not all alike.
func text(n int) string {
	b := make([]byte, n)
	for i := range b {
		b[i] = byte(i*7 + i/256)
	}
	return string(b)
}

func wantFeed(t *testing.T, c api.Chunks, s string, want api.Chunks, wantN int, wantBody string, wantE api.Errno) {
	t.Helper()
	got, n, body, e := chunk.Feed(c, s)
	if got != want || n != wantN || body != wantBody || e != wantE {
		t.Errorf("Feed(%#v, %s): %#v %d %s %d, want %#v %d %s %d", c, short(s), got, n, short(body), e, want, wantN, short(wantBody), wantE)
	}
}

// wantError holds Feed against an error, with which the chunks are the given ones.
func wantError(t *testing.T, c api.Chunks, s string, want api.Errno) {
	t.Helper()
	wantFeed(t, c, s, c, 0, "", want)
}

// wantTaken holds Feed against taking all of s, in which nothing is of the body, or against an error.
func wantTaken(t *testing.T, c api.Chunks, s string, want api.Chunks, wantE api.Errno) {
	t.Helper()
	if wantE != api.OK {
		wantError(t, c, s, wantE)
		return
	}
	wantFeed(t, c, s, want, len(s), "", api.OK)
}

// wantLine holds Feed against what a whole line leads to, or against an error, with the line in one piece or with its last bytes apart.
func wantLine(t *testing.T, c api.Chunks, line string, want api.Chunks, wantE api.Errno) {
	t.Helper()
	s := line + "\r\n"
	wantTaken(t, c, s, want, wantE)
	for _, cut := range []int{0, len(line) / 2, len(line), len(line) + 1} {
		begun := c
		begun.Line += s[:cut]
		wantTaken(t, c, s[:cut], begun, api.OK)
		wantTaken(t, begun, s[cut:], want, wantE)
	}
}

// wantSize holds Feed against the size that a size line tells.
func wantSize(t *testing.T, line string, many, size int) {
	t.Helper()
	wantLine(t, at(0, "", many), line, sized(size, many), api.OK)
}

// wantNoSize holds Feed against the error of a size line.
func wantNoSize(t *testing.T, line string, many int, want api.Errno) {
	t.Helper()
	wantLine(t, at(0, "", many), line, api.Chunks{}, want)
}

func wantEncode(t *testing.T, s string, size int, want string, wantE api.Errno) {
	t.Helper()
	if got, e := chunk.Encode(s, size); got != want || e != wantE {
		t.Errorf("Encode(%s, %d): %s %d, want %s %d", short(s), size, short(got), e, short(want), wantE)
	}
}

// check holds Feed against H2, and what it returns against what H1 and H2 say of it together.
func check(t *testing.T, c api.Chunks, s string) api.Errno {
	t.Helper()
	want, n, body, e := fed(c, s)
	wantFeed(t, c, s, want, n, body, e)
	if got := chunk.Right(c); got != valid(c) || got != (e != api.ErrArg) {
		t.Errorf("Right(%#v): %v", c, got)
	}
	// A body that is within its limit at first stays there.
	if e == api.OK && c.Left+c.Many <= 4000 && (!chunk.Right(want) || want.Left+want.Many > 4000 || want.Many != c.Many+len(body)) {
		t.Errorf("Feed(%#v, %s): %#v with %d bytes", c, short(s), want, len(body))
	}
	return e
}

func TestLimits(t *testing.T) {
	if api.MaxBody != 4000 || api.MaxValue != 200 {
		t.Error("the limits are those of the chapter")
	}
	if api.OK != 0 || api.ErrArg != 1 || api.ErrLong != 2 || api.ErrChunk != 23 {
		t.Error("the errors' numbers are those of the chapter")
	}
}

func TestExamples(t *testing.T) {
	s := "3\r\nabc\r\n0\r\n\r\n"
	wantFeed(t, api.Chunks{}, s, at(4, "", 3), len(s), "abc", api.OK)
	checkCuts(t, api.Chunks{}, s)
}

func TestH1(t *testing.T) {
	numbers := []int{math.MinInt, -4000, -1, 0, 1, 2, 3999, 4000, 4001, 8000, 1 << 32, math.MaxInt}
	seen := map[bool]int{}
	for state := -1; state <= 5; state++ {
		for _, left := range numbers {
			for _, length := range []int{0, 1, 2, 199, 200, 201, 202, 5000} {
				for _, many := range numbers {
					c := api.Chunks{State: state, Left: left, Line: strings.Repeat("x", length), Many: many}
					seen[valid(c)]++
					if got := chunk.Right(c); got != valid(c) {
						t.Errorf("Right: State %d, Left %d, Line of %d bytes, Many %d: %v", state, left, length, many, got)
					}
				}
			}
		}
	}
	if seen[true] < 100 || seen[false] < 100 {
		t.Error("a test that does not say what it means", seen)
	}
	if !chunk.Right(api.Chunks{}) {
		t.Error("what is so initially is valid")
	}
	for _, state := range []int{math.MinInt, -5, -2, 6, 7, 256, 257, 1 << 32, 1<<32 + 1, math.MaxInt} {
		for left := range 2 {
			if chunk.Right(api.Chunks{State: state, Left: left}) {
				t.Errorf("Right: State %d, Left %d", state, left)
			}
		}
	}
}

// The edges one by one, as the chapter says them.
func TestH1Edges(t *testing.T) {
	for state, left := range []int{0, 1, 0, 0, 0} {
		lines := state != 1 && state != 4
		for _, c := range []struct {
			change api.Chunks
			want   bool
		}{
			{api.Chunks{State: state, Left: left}, true},
			{api.Chunks{State: state, Left: -1}, false},
			{api.Chunks{State: state, Left: 1 - left}, false},
			{api.Chunks{State: state, Left: 4000}, state == 1},
			{api.Chunks{State: state, Left: 4001}, false},
			{api.Chunks{State: state, Left: left, Line: "\r"}, lines},
			{api.Chunks{State: state, Left: left, Line: "\r\n"}, lines},
			{api.Chunks{State: state, Left: left, Line: text(200)}, lines},
			{api.Chunks{State: state, Left: left, Line: text(201)}, false},
			{api.Chunks{State: state, Left: left, Many: -1}, false},
			{api.Chunks{State: state, Left: left, Many: 4000}, true},
			{api.Chunks{State: state, Left: left, Many: 4001}, false},
		} {
			if got := chunk.Right(c.change); got != c.want {
				t.Errorf("Right(%#v): %v", c.change, got)
			}
		}
	}
}

func TestH2NotValid(t *testing.T) {
	for _, c := range []api.Chunks{{State: -1}, {State: 5}, {State: math.MaxInt}, {State: math.MinInt}, {State: -1, Left: 1}, {State: 5, Left: 1}, {State: 1}, {State: 1, Left: -1}, {State: 1, Left: 4001}, {Left: 1}, {Left: -1}, {State: 2, Left: 1}, {State: 3, Left: 1}, {State: 4, Left: 1}, {State: 4, Left: -1}, {State: 1, Left: 1, Line: "x"}, {State: 4, Line: "x"}, {State: 4, Line: "\r"}, {Line: text(201)}, {State: 2, Line: text(201)}, {State: 3, Line: text(201)}, {Line: "1" + strings.Repeat(" ", 199) + "\r"}, {Many: -1}, {Many: 4001}, {State: 1, Left: 1, Many: 4001}, {State: 2, Many: 4001}, {State: 3, Many: 4001}, {State: 4, Many: 4001}, {State: 4, Many: math.MinInt}} {
		// With bytes that would be well, with others, and with none.
		for _, s := range []string{"", "x", "\n", "\r\n", "1\r\na\r\n", "0\r\n\r\n", "g\r\n", "ffff\r\n", text(500)} {
			wantError(t, c, s, api.ErrArg)
			check(t, c, s)
		}
	}
}

func TestH2Empty(t *testing.T) {
	for _, c := range []api.Chunks{{}, {Many: 4000}, {Line: "3"}, {Line: "3\r"}, {Line: "3\r\n"}, {Line: text(200)}, {State: 1, Left: 1}, {State: 1, Left: 4000, Many: 4000}, {State: 2}, {State: 2, Line: "\r"}, {State: 2, Line: text(200)}, {State: 3}, {State: 3, Line: "A: b"}, {State: 3, Line: "\r\n", Many: 7}, {State: 4}, {State: 4, Many: 4000}} {
		wantFeed(t, c, "", c, 0, "", api.OK)
	}
}

func TestH2BehindTheEnd(t *testing.T) {
	for _, more := range []string{"x", "\r", "\n", "\r\n", "0\r\n\r\n", "3\r\nabc\r\n", "GET / HTTP/1.1\r\n\r\n", "\x00", text(5000)} {
		for _, many := range []int{0, 1, 4000} {
			wantFeed(t, at(4, "", many), more, at(4, "", many), 0, "", api.OK)
			wantFeed(t, at(3, "", many), "\r\n"+more, at(4, "", many), 2, "", api.OK)
			wantFeed(t, at(3, "\r", many), "\n"+more, at(4, "", many), 1, "", api.OK)
			wantFeed(t, at(0, "", many), "0\r\n\r\n"+more, at(4, "", many), 5, "", api.OK)
		}
		wantFeed(t, api.Chunks{}, "3\r\nabc\r\n0\r\n\r\n"+more, at(4, "", 3), 13, "abc", api.OK)
		wantFeed(t, api.Chunks{}, "0\r\nA: b\r\n\r\n"+more, at(4, "", 0), 11, "", api.OK)
	}
}

func TestH2Size(t *testing.T) {
	for _, c := range []struct {
		line string
		size int
	}{
		{"0", 0}, {"1", 1}, {"9", 9}, {"a", 10}, {"A", 10}, {"f", 15}, {"F", 15}, {"10", 16}, {"1f", 31}, {"1F", 31}, {"aB", 171}, {"Ab", 171}, {"ff", 255}, {"fF", 255}, {"FF", 255}, {"100", 256}, {"f9f", 3999}, {"fa0", 4000}, {"FA0", 4000}, {"Fa0", 4000},
		{"00", 0}, {"000", 0}, {"01", 1}, {"0a", 10}, {"00001F", 31}, {"0fa0", 4000}, {"0000000000000000000000fa0", 4000}, {strings.Repeat("0", 198), 0}, {strings.Repeat("0", 197) + "7", 7}, {strings.Repeat("0", 195) + "fa0", 4000},
		{" 3", 3}, {"3 ", 3}, {"\t3", 3}, {"3\t", 3}, {" \t 3\t \t", 3}, {" 0 ", 0}, {strings.Repeat(" ", 98) + "1" + strings.Repeat("\t", 99), 1},
		{"3;", 3}, {"3;x", 3}, {"3;x=y", 3}, {"3; x=\"y z\"", 3}, {"3 ;x", 3}, {"\t3\t;\t", 3}, {"3;;", 3}, {"3;4", 3}, {"3;4;5", 3}, {"0;x", 0}, {"3;\x00\xff\x80", 3}, {"3;\r", 3}, {"3;\n", 3}, {"3;a\nb", 3}, {"3;a\rb", 3}, {"3;\n\r", 3}, {"3; g", 3}, {"fa0;fa1", 4000}, {"1;" + text(12), 1}, {"3;\u00e9", 3},
	} {
		wantSize(t, c.line, 0, c.size)
	}
	for n := range 4001 {
		for _, line := range []string{fmt.Sprintf("%x", n), fmt.Sprintf("%X", n), fmt.Sprintf(" %06x\t;a", n)} {
			wantTaken(t, api.Chunks{}, line+"\r\n", sized(n, 0), api.OK)
		}
	}
}

func TestH2NotASize(t *testing.T) {
	for _, line := range []string{"", " ", "\t", " \t ", ";", ";3", " ;3", ";x=y", "\t;", "g", "G", "x", "3g", "g3", "3 g", "0x3", "0X3", "x3", "3h", "3H", "+3", "-3", "-0", "+0", "+", "-", "--3", "3-", "3+", "3.", "3.0", ".3", "3,", ",3", "3,4", "3:", "3 4", "3\t4", "3 4;", "1_0", "1'0", "\"3\"", "'3'", "(3)", "=3", "3=", "\u0663", "\uff13", "\u00e9", "3\u00a0", "\u00a03", "3\x00", "\x003", "\x003;", "3\v", "3\f", "\v3", "3\r", "\r3", "3\n", "\n3", "\n", "\r", "\r\r", "3\n4", "3\r4", "\n;", "3\r;", "3\xff", "\xff", "@", "`", "/", ":", "fffffffffffffffffffffg", "gfffffffffffffffffffff", "-ffffffffffffffffffff", "fffff fffffffffffffff", "fa1g", "-fa1", strings.Repeat("f", 197) + "g", "g" + strings.Repeat("f", 197), strings.Repeat(" ", 198), strings.Repeat("z", 198)} {
		for _, many := range []int{0, 1, 4000} {
			wantNoSize(t, line, many, api.ErrChunk)
		}
	}
}

func TestH2SizeBeyondTheBody(t *testing.T) {
	for many := range 4001 {
		room := 4000 - many
		begun := at(0, "", many)
		wantTaken(t, begun, fmt.Sprintf("%x\r\n", room), sized(room, many), api.OK)
		wantError(t, begun, fmt.Sprintf("%x\r\n", room+1), api.ErrLong)
		wantError(t, begun, "fa1\r\n", api.ErrLong)
		// The end of the body always has room.
		wantFeed(t, begun, "0\r\n", at(3, "", many), 3, "", api.OK)
	}
	for _, many := range []int{0, 1, 2000, 3999, 4000} {
		for d := range 3 {
			room := 4000 - many
			for _, form := range []string{"%x", "%X", "0%x", " %x ", "%x;x", "%030X ; "} {
				if room-d >= 0 {
					wantSize(t, fmt.Sprintf(form, room-d), many, room-d)
				}
				wantNoSize(t, fmt.Sprintf(form, room+d+1), many, api.ErrLong)
			}
		}
	}
	// A chunk that goes before leaves less room.
	wantFeed(t, api.Chunks{}, "3\r\nabc\r\nf9d\r\n", inChunk(3997, 3), 13, "abc", api.OK)
	wantError(t, api.Chunks{}, "3\r\nabc\r\nf9e\r\n", api.ErrLong)
	wantError(t, at(0, "", 3), "3\r\nabc\r\nf9b\r\n", api.ErrLong)
	wantFeed(t, at(0, "", 3), "3\r\nabc\r\nf9a\r\n", inChunk(3994, 6), 13, "abc", api.OK)
}

func TestH2SizeTooLarge(t *testing.T) {
	lines := []string{"fa1", "FA1", "fff", "1000", "ffff", "fffffffffffffffffffff", strings.Repeat("f", 198), "1" + strings.Repeat("0", 197), strings.Repeat("0", 100) + strings.Repeat("F", 98), "fa1;0", " fa1\t", "00fa1"}
	for _, power := range []uint{12, 13, 16, 31, 32, 33, 52, 53, 54, 62, 63, 64, 65, 127, 128, 129, 256} {
		for _, d := range []int64{-1, 0, 1, 2, 16, 4000} {
			n := new(big.Int).Lsh(big.NewInt(1), power)
			lines = append(lines, n.Add(n, big.NewInt(d)).Text(16))
		}
	}
	for _, line := range lines {
		for _, many := range []int{0, 1, 3999, 4000} {
			wantNoSize(t, line, many, api.ErrLong)
			wantNoSize(t, "\t"+strings.ToUpper(line)[:min(len(line), 190)]+" ;x", many, api.ErrLong)
		}
	}
}

func TestH2AfterData(t *testing.T) {
	for _, many := range []int{0, 1, 4000} {
		wantLine(t, at(2, "", many), "", at(0, "", many), api.OK)
		for _, line := range []string{"x", "0", "3", " ", "\t", ";", "\r", "\n", "\n\n", "\r\r", "\x00", "\xff", "ab", "A: b", "\n\r", strings.Repeat(" ", 198)} {
			wantLine(t, at(2, "", many), line, api.Chunks{}, api.ErrChunk)
		}
	}
	wantError(t, api.Chunks{}, "1\r\nab\r\n", api.ErrChunk)
	wantError(t, api.Chunks{}, "1\r\na \r\n", api.ErrChunk)
	wantError(t, api.Chunks{}, "3\r\nabc0\r\n\r\n", api.ErrChunk)
	wantError(t, inChunk(1, 0), "a\n\r\n", api.ErrChunk)
	wantFeed(t, inChunk(1, 0), "a\r\n", at(0, "", 1), 3, "a", api.OK)
	wantFeed(t, inChunk(1, 0), "a\r\n\r", at(0, "\r", 1), 4, "a", api.OK)
	// The line does not end with 10 alone, nor with 13 alone.
	wantFeed(t, inChunk(1, 0), "a\n0\n\n", at(2, "\n0\n\n", 1), 5, "a", api.OK)
	wantFeed(t, inChunk(1, 0), "a\r0\r\r", at(2, "\r0\r\r", 1), 5, "a", api.OK)
}

func TestH2Trailer(t *testing.T) {
	long := "A:" + strings.Repeat("v", 196)
	for _, many := range []int{0, 3, 4000} {
		begun := at(3, "", many)
		wantLine(t, begun, "", at(4, "", many), api.OK)
		for _, line := range []string{"A: b", "A:b", "A:", "A: ", "A:\t", "a:  b  ", "A: b:c", "A::", "Content-Length: 3", "Transfer-Encoding: chunked", "!#$%&'*+-.^_`|~09azAZ: ~ !", "0: 0", strings.Repeat("n", 40) + ":", long, strings.Repeat("n", 40) + ":" + strings.Repeat("\t", 157)} {
			wantLine(t, begun, line, begun, api.OK)
			s := line + "\r\n" + line + "\r\nB: c\r\n\r\n"
			wantTaken(t, begun, s, at(4, "", many), api.OK)
		}
		for _, line := range []string{"A", " ", "\t", ":", ": b", "A : b", " A: b", "\tA: b", "A B: c", "A\t: b", "(A): b", "A: \x00", "A: \x7f", "A: \xff", "A: \u00e9", "\u00e9: a", "A: b\rc", "A: b\nc", "A: b\r", "A: b\n", "\rA: b", "\nA: b", "A: b\nC: d", "\n", "\r", "0", "0;", "A=b", strings.Repeat("n", 41) + ":", strings.Repeat("n", 198), "A;b", "@: b", "A/B: c"} {
			wantLine(t, begun, line, api.Chunks{}, api.ErrChunk)
			wantError(t, begun, "A: b\r\n"+line+"\r\n\r\n", api.ErrChunk)
		}
	}
	// As many as may be: the body's end is not far for want of room.
	s := strings.Repeat("Name: value\r\n", 3000)
	wantTaken(t, at(3, "", 0), s, at(3, "", 0), api.OK)
	wantFeed(t, at(3, "", 0), s+"\r\n", at(4, "", 0), len(s)+2, "", api.OK)
}

// A given Line may be of bytes that Feed would not have left there.
func TestH2GivenLine(t *testing.T) {
	for _, c := range []struct {
		state   int
		line, s string
		want    api.Chunks
		e       api.Errno
	}{
		{0, "1\r", "\n", inChunk(1, 0), 0}, {0, "1", "\r\n", inChunk(1, 0), 0}, {0, "1\r\n", "", at(0, "1\r\n", 0), 0}, {0, "1\r\n", "2", at(0, "1\r\n2", 0), 0}, {0, "1\r\n", "\n", at(0, "1\r\n\n", 0), 0}, {0, "1\r\n", "\r\n", api.Chunks{}, 23}, {0, "1;\r\n", "\r\n", inChunk(1, 0), 0}, {0, "1;\r\n3", "\r\n", inChunk(1, 0), 0}, {0, "1\r\r", "\n", api.Chunks{}, 23}, {0, "\r\n1", "\r\n", api.Chunks{}, 23},
		{2, "\r", "\n", at(0, "", 0), 0}, {2, "\r\n", "\r", at(2, "\r\n\r", 0), 0}, {2, "\r\n", "\r\n", api.Chunks{}, 23}, {2, "\n", "\r\n", api.Chunks{}, 23}, {2, "x", "\r\n", api.Chunks{}, 23},
		{3, "\r", "\n", at(4, "", 0), 0}, {3, "A: b\r", "\n", at(3, "", 0), 0}, {3, "A", ": b\r\n", at(3, "", 0), 0}, {3, "A: b\r\n", "\r\n", api.Chunks{}, 23}, {3, "\r\n", "\r\n", api.Chunks{}, 23}, {3, "A: b\r\n", "C: d\r\n", api.Chunks{}, 23},
	} {
		begun := at(c.state, c.line, 0)
		wantTaken(t, begun, c.s, c.want, c.e)
		check(t, begun, c.s)
	}
}

// 13 without 10, and 10 without 13, are bytes of a line like others.
func TestH2HalfLineEnds(t *testing.T) {
	for _, state := range lineStates {
		for _, s := range []string{"\r", "\n", "\n\r", "\r\r", "\n\n", "\n\r\r", "1\r", "1\n", "1\n\r", "1\rx\n", "A: b\r", "A: b\n", "A: b\n\n", "A: b\r \n", "0\n\n", "0\r\r", "\r;\n"} {
			wantTaken(t, at(state, "", 5), s, at(state, s, 5), api.OK)
			check(t, at(state, "", 5), s+"\r\n")
			check(t, at(state, "", 5), s+"\n")
		}
	}
	// In the data of a chunk too.
	wantFeed(t, inChunk(9, 0), "\r\n0\r\n\r\n\r\n", at(2, "", 9), 9, "\r\n0\r\n\r\n\r\n", api.OK)
	wantFeed(t, inChunk(2, 0), "\r\n\r\n", at(0, "", 2), 4, "\r\n", api.OK)
}

func TestH2LongLines(t *testing.T) {
	for n := 195; n <= 205; n++ {
		for _, c := range []struct {
			state int
			line  string
			want  api.Chunks
		}{
			{0, "1;" + strings.Repeat("x", n-2), inChunk(1, 3)},
			{0, strings.Repeat("0", n-1) + "1", inChunk(1, 3)},
			{0, strings.Repeat(" ", n-1) + "0", at(3, "", 3)},
			{3, "A:" + strings.Repeat("x", n-2), at(3, "", 3)},
			{3, "A:" + strings.Repeat(" ", n-2), at(3, "", 3)},
			{0, strings.Repeat("g", n), api.Chunks{}},
			{2, strings.Repeat("x", n), api.Chunks{}},
			{3, strings.Repeat("x", n), api.Chunks{}},
		} {
			begun := at(c.state, "", 3)
			// Without its end.
			if n <= 200 {
				wantFeed(t, begun, c.line, at(c.state, c.line, 3), n, "", api.OK)
			} else {
				wantError(t, begun, c.line, api.ErrLong)
			}
			// With half of its end, which counts as a byte of the line.
			if n < 200 {
				wantFeed(t, begun, c.line+"\r", at(c.state, c.line+"\r", 3), n+1, "", api.OK)
				wantFeed(t, begun, c.line+"\n", at(c.state, c.line+"\n", 3), n+1, "", api.OK)
			} else {
				wantError(t, begun, c.line+"\r", api.ErrLong)
				wantError(t, begun, c.line+"\n", api.ErrLong)
			}
			// With its end: its last byte may be the 201st.
			switch {
			case n > 199:
				wantError(t, begun, c.line+"\r\n", api.ErrLong)
			case c.want == api.Chunks{}:
				wantError(t, begun, c.line+"\r\n", api.ErrChunk)
			default:
				wantFeed(t, begun, c.line+"\r\n", c.want, n+2, "", api.OK)
			}
			checkCuts(t, begun, c.line+"\r\n")
			checkCuts(t, begun, c.line)
		}
	}
	for _, state := range lineStates {
		full := at(state, strings.Repeat("0", 200), 0)
		for c := range 256 {
			wantError(t, full, raw(c), api.ErrLong)
		}
		wantError(t, full, "\r\n", api.ErrLong)
		full.Line = strings.Repeat("0", 199) + "\r"
		for c := range 256 {
			if c != '\n' {
				wantError(t, full, raw(c), api.ErrLong)
			}
		}
		check(t, full, "\n")
	}
	// A long line goes ahead of what is wrong behind it, and what is wrong ahead of it goes ahead of it.
	wantError(t, api.Chunks{}, text(300)+"\r\ng\r\n", api.ErrLong)
	wantError(t, api.Chunks{}, "g\r\n"+text(300), api.ErrChunk)
	wantError(t, api.Chunks{}, strings.Repeat("g", 1000000), api.ErrLong)
}

// What was well ahead of an error is not told.
func TestH2ErrorsTellNothing(t *testing.T) {
	for _, begun := range []api.Chunks{{}, {Line: "0"}, {Many: 7}, inChunk(3, 2), at(2, "", 9), at(2, "\r", 9)} {
		ahead := map[int]string{0: "4\r\nabcd\r\n", 1: "xyz\r\n4\r\nabcd\r\n", 2: "\r\n4\r\nabcd\r\n"}[begun.State]
		ahead = strings.TrimPrefix(ahead, begun.Line)
		if _, n, body, e := chunk.Feed(begun, ahead); n != len(ahead) || !strings.HasSuffix(body, "abcd") || e != api.OK {
			t.Fatalf("%#v: a test that does not say what it means: %d %q %d", begun, n, body, e)
		}
		for s, e := range map[string]api.Errno{"g\r\n": 23, "\r\n": 23, "fa0\r\n": 2, "ffffffffffffffffffffff\r\n": 2, "2\r\nabc\r\n": 23, "0\r\nA\r\n": 23, "0\r\nA: b\r\n:\r\n": 23} {
			wantError(t, begun, ahead+s, e)
			wantError(t, begun, ahead+s+"0\r\n\r\n", e)
		}
		wantError(t, begun, ahead+strings.Repeat("1", 201), api.ErrLong)
	}
}

func TestH2ByteByByte(t *testing.T) {
	body := text(4000)
	for _, size := range []int{1, 2, 3, 15, 16, 17, 255, 256, 3999, 4000} {
		for _, many := range []int{0, 1, 4000 - size} {
			if many+size > 4000 {
				continue
			}
			c := inChunk(size, many)
			for i := range size {
				next, n, part, e := chunk.Feed(c, body[i:i+1])
				want := inChunk(size-i-1, many+i+1)
				if i == size-1 {
					want = at(2, "", many+size)
				}
				if next != want || n != 1 || part != body[i:i+1] || e != api.OK {
					t.Fatalf("%#v: %#v %d %q %d", c, next, n, part, e)
				}
				c = next
			}
			for i := range size {
				wantFeed(t, inChunk(size, many), body[:i], inChunk(size-i, many+i), i, body[:i], api.OK)
			}
			wantFeed(t, inChunk(size, many), body[:size]+"\r\n7", at(0, "7", many+size), size+3, body[:size], api.OK)
		}
	}
}

// Chunks may be valid with a chunk that goes beyond the limit: it is counted as the promise says, and nothing follows it.
func TestH2ChunkBeyondTheBody(t *testing.T) {
	wantFeed(t, inChunk(2, 4000), "a", inChunk(1, 4001), 1, "a", api.OK)
	wantFeed(t, inChunk(2, 4000), "ab", at(2, "", 4002), 2, "ab", api.OK)
	wantFeed(t, inChunk(2, 3999), "ab\r\n0", at(0, "0", 4001), 5, "ab", api.OK)
	for _, s := range []string{"0", "1", "fa0", "fa1", "fffffffffffffffffffff"} {
		wantError(t, inChunk(2, 3999), "ab\r\n"+s+"\r\n", api.ErrLong)
	}
	wantError(t, inChunk(2, 3999), "ab\r\ng\r\n", api.ErrChunk)
	wantFeed(t, inChunk(2, 3998), "ab\r\n0\r\n\r\n", at(4, "", 4000), 9, "ab", api.OK)
	body := text(4000)
	wantFeed(t, inChunk(4000, 4000), body+"\r", at(2, "\r", 8000), 4001, body, api.OK)
}

func TestH2Bytes(t *testing.T) {
	for c := range 256 {
		b := raw(c)
		wantFeed(t, inChunk(2, 0), b, inChunk(1, 1), 1, b, api.OK)
		wantFeed(t, inChunk(1, 0), b+b, at(2, b, 1), 2, b, api.OK)
		for _, state := range lineStates {
			wantFeed(t, at(state, "", 0), b, at(state, b, 0), 1, "", api.OK)
		}
		for _, s := range []string{b, "1" + b, b + "1", "1" + b + "2", " " + b + " 1", "1 " + b, "1;" + b, "1;x" + b + "y", b + ";1", b + b} {
			for _, state := range lineStates {
				check(t, at(state, "", 0), s+"\r\n")
			}
		}
		for _, s := range []string{"N" + b + ": v", b + "N: v", "N: v" + b, "N:" + b + "v", "N: v" + b + "w", "N" + b + "v", b + ": v"} {
			check(t, at(3, "", 0), s+"\r\n\r\n")
		}
		for _, s := range []string{"1" + b + "\n", "1\r" + b, b + "\r\n", "\r" + b, b + "\n", "A: b\r" + b, "A: b" + b + "\n"} {
			for _, state := range lineStates {
				check(t, at(state, "", 0), s+"0\r\n\r\n")
			}
		}
	}
}

// Each row of a few bytes that matter, in each State.
func TestH2ShortRows(t *testing.T) {
	letters := []string{"\r", "\n", "0", "1", "A", ";", ":", " ", "g", "\r\n"}
	rows, last := []string{""}, []string{""}
	for range 5 {
		var next []string
		for _, row := range last {
			for _, s := range letters {
				next = append(next, row+s)
			}
		}
		rows, last = append(rows, next...), next
	}
	for _, row := range rows {
		for _, c := range []api.Chunks{{}, inChunk(1, 3998), at(2, "", 4000), at(3, "", 1), {State: 4}} {
			check(t, c, row)
		}
	}
}

func TestH3(t *testing.T) {
	for _, c := range []struct {
		s    string
		size int
		want string
	}{
		{"", 1, "0\r\n\r\n"}, {"", 4000, "0\r\n\r\n"}, {"a", 1, "1\r\na\r\n0\r\n\r\n"}, {"a", 4000, "1\r\na\r\n0\r\n\r\n"}, {"abc", 3, "3\r\nabc\r\n0\r\n\r\n"}, {"abc", 4, "3\r\nabc\r\n0\r\n\r\n"}, {"abc", 2, "2\r\nab\r\n1\r\nc\r\n0\r\n\r\n"}, {"abc", 1, "1\r\na\r\n1\r\nb\r\n1\r\nc\r\n0\r\n\r\n"}, {"abcd", 2, "2\r\nab\r\n2\r\ncd\r\n0\r\n\r\n"},
		{"\r\n", 1, "1\r\n\r\r\n1\r\n\n\r\n0\r\n\r\n"}, {"0\r\n\r\n", 5, "5\r\n0\r\n\r\n\r\n0\r\n\r\n"}, {"\x00\xff", 2, "2\r\n\x00\xff\r\n0\r\n\r\n"}, {"\u00e9", 1, "1\r\n\xc3\r\n1\r\n\xa9\r\n0\r\n\r\n"},
	} {
		wantEncode(t, c.s, c.size, c.want, api.OK)
	}
	for n, digits := range map[int]string{1: "1", 9: "9", 10: "a", 15: "f", 16: "10", 17: "11", 31: "1f", 171: "ab", 255: "ff", 256: "100", 3999: "f9f", 4000: "fa0"} {
		s := text(n)
		wantEncode(t, s, 4000, digits+"\r\n"+s+"\r\n0\r\n\r\n", api.OK)
		wantEncode(t, s, n, digits+"\r\n"+s+"\r\n0\r\n\r\n", api.OK)
		if 2*n <= 4000 {
			wantEncode(t, s+s, n, strings.Repeat(digits+"\r\n"+s+"\r\n", 2)+"0\r\n\r\n", api.OK)
		}
	}
}

func TestH3Wrong(t *testing.T) {
	for _, size := range []int{math.MinInt, -4000, -1, 0, 4001, 4002, 1 << 32, 1<<32 + 1, math.MaxInt} {
		for _, n := range []int{0, 1, 10, 4000, 4001} {
			wantEncode(t, text(n), size, "", api.ErrArg)
		}
	}
	for _, n := range []int{4001, 4002, 8000, 70000, 1000000} {
		for _, size := range []int{1, 2, 3999, 4000} {
			wantEncode(t, text(n), size, "", api.ErrArg)
		}
	}
	for _, size := range []int{1, 2, 3, 3999, 4000} {
		for _, n := range []int{0, 1, 3999, 4000} {
			want, e := encoded(text(n), size)
			wantEncode(t, text(n), size, want, e)
		}
	}
}
