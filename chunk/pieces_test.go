package chunk_test

import (
	"fmt"
	"math/rand/v2"
	"strings"
	"testing"

	"lockage/api"
	"lockage/chunk"
)

// inPieces feeds the pieces one by one, as long as there is no error.
func inPieces(c api.Chunks, pieces []string) (api.Chunks, int, string, api.Errno) {
	n, body := 0, ""
	for _, s := range pieces {
		next, taken, part, e := chunk.Feed(c, s)
		if e != api.OK {
			return c, n, body, e
		}
		c, n, body = next, n+taken, body+part
	}
	return c, n, body, api.OK
}

// checkPieces holds the pieces, one by one, against the whole; with an error, those ahead of it against the whole of them.
func checkPieces(t *testing.T, c api.Chunks, pieces ...string) {
	t.Helper()
	whole := strings.Join(pieces, "")
	want, wantN, wantBody, wantE := chunk.Feed(c, whole)
	got, n, body, e := inPieces(c, pieces)
	if e != wantE {
		t.Errorf("%#v: %s in %d pieces: error %d, want %d", c, short(whole), len(pieces), e, wantE)
	}
	if e != api.OK {
		whole = whole[:n]
		want, wantN, wantBody, wantE = chunk.Feed(c, whole)
	}
	if got != want || n != wantN || body != wantBody || wantE != api.OK {
		t.Errorf("%#v: %s in %d pieces: %#v %d %s, want %#v %d %s", c, short(whole), len(pieces), got, n, short(body), want, wantN, short(wantBody))
	}
}

// checkCuts holds s, cut in two at each place and byte by byte, against the whole.
func checkCuts(t *testing.T, c api.Chunks, s string) {
	t.Helper()
	for i := range len(s) + 1 {
		checkPieces(t, c, s[:i], s[i:])
	}
	checkPieces(t, c, cutBy(s, 1)...)
}

// cutBy returns s in pieces of size bytes, of which the last may be shorter.
func cutBy(s string, size int) []string {
	var out []string
	for len(s) > size {
		out = append(out, s[:size])
		s = s[size:]
	}
	return append(out, s)
}

// decodes holds Feed and Encode against H4: the whole is taken, but for bytes behind the end.
func decodes(t *testing.T, s string, size int) {
	t.Helper()
	want, e := encoded(s, size)
	wantEncode(t, s, size, want, e)
	got, _ := chunk.Encode(s, size)
	wantFeed(t, api.Chunks{}, got, at(4, "", len(s)), len(got), s, api.OK)
	wantFeed(t, api.Chunks{}, got+"1\r\n", at(4, "", len(s)), len(got), s, api.OK)
	wantFeed(t, api.Chunks{}, got[:len(got)-1], at(3, "\r", len(s)), len(got)-1, s, api.OK)
}

func TestH4FeedUndoesEncode(t *testing.T) {
	whole := text(4000)
	for size := 1; size <= 4000; size++ {
		for _, n := range []int{0, 1, 33, size - 1, size, size + 1, 2 * size} {
			if n <= 300 {
				decodes(t, whole[:n], size)
			}
		}
		if size < 40 || size%97 == 0 || size > 3990 {
			decodes(t, whole, size)
			decodes(t, whole[:4000/size*size], size)
		}
	}
	for n := range 4001 {
		decodes(t, whole[:n], 1+n*31%4000)
	}
	for _, s := range []string{"\r\n", "\r\n\r\n", "0\r\n\r\n", "3\r\nabc\r\n0\r\n\r\n", ";", "\x00", "\xff\xfe", "\u20ac", "A: b\r\n", strings.Repeat("\r\n", 50), strings.Repeat("\n\r", 50), strings.Repeat("0\r\n", 50)} {
		for size := 1; size <= len(s)+1; size++ {
			decodes(t, s, size)
		}
	}
}

func TestH4Pieces(t *testing.T) {
	for _, s := range []string{"3\r\nabc\r\n0\r\n\r\n", "3\r\nabc\r\n0\r\n\r\nGET / HTTP/1.1\r\n\r\n", "0\r\n\r\n", "0\r\n\r\n0\r\n\r\n", "0a ;x=y\r\n0123456789\r\n 1\r\n\r\r\n00\r\nA: b\r\nC:d\r\n\r\nmore", "2\r\n\r\n\r\n2;\r;\n\r\n\n\r\r\n0\r\n\r\n", "1\r\nab\r\n", "3\r\nabc\r\ng\r\n", "3\r\nabc\r\nf9e\r\n", "0\r\nA\r\n\r\n", "\r\n", "1;" + strings.Repeat("x", 197) + "\r\na\r\n0\r\n\r\n", "1;" + strings.Repeat("x", 198) + "\r\na\r\n0\r\n\r\n"} {
		checkCuts(t, api.Chunks{}, s)
		for i := range len(s) + 1 {
			for j := i; j <= min(len(s), i+40); j++ {
				checkPieces(t, api.Chunks{}, s[:i], s[i:j], s[j:])
			}
		}
		for size := 1; size <= len(s); size++ {
			checkPieces(t, api.Chunks{}, cutBy(s, size)...)
		}
	}
	for _, size := range []int{1, 7, 16, 300, 4000} {
		s, _ := chunk.Encode(text(4000), size)
		checkPieces(t, api.Chunks{}, cutBy(s, 1)...)
		for i := 0; i <= len(s); i += 1 + len(s)/97 {
			checkPieces(t, api.Chunks{}, s[:i], s[i:])
		}
	}
}

// parts is what bodies in chunks, and those that are nearly so, are made of.
func parts(r *rand.Rand) string {
	p := []string{"\r\n", "\r\n", "\r\n", "\r", "\n", "0", "0\r\n", "0\r\n\r\n", "1\r\na\r\n", "3\r\nabc\r\n", "2 ; x\r\n\r\n\r\n", "A: b\r\n", "Name:\tvalue \r\n", "A\r\n", "g\r\n", "fa0\r\n", "f9e\r\n", "ffffffffffffffffffffff\r\n", "a", ";", " ", "\xff", strings.Repeat("x", 99), "1;" + strings.Repeat("x", 97)}
	switch k := r.IntN(len(p) + 4); {
	case k < len(p):
		return p[k]
	case k < len(p)+3:
		n := r.IntN(30)
		return fmt.Sprintf("%x\r\n%s\r\n", n, text(n))
	}
	return raw(r.IntN(256))
}

// anyText returns a text that is mostly a body in chunks, or nearly one.
func anyText(r *rand.Rand) string {
	s := ""
	switch r.IntN(3) {
	case 0:
		s, _ = chunk.Encode(text(r.IntN(100)), 1+r.IntN(40))
		if r.IntN(2) == 0 {
			s = strings.TrimSuffix(s, "\r\n") + "A: b\r\n\r\n"
		}
	default:
		for range r.IntN(8) {
			s += parts(r)
		}
	}
	if len(s) > 0 && r.IntN(4) == 0 {
		i := r.IntN(len(s))
		s = s[:i] + parts(r) + s[i+r.IntN(2):]
	}
	return s
}

// anyChunks returns chunks that are mostly valid.
func anyChunks(r *rand.Rand) api.Chunks {
	c := api.Chunks{State: r.IntN(5)}
	if r.IntN(2) == 0 {
		c = api.Chunks{}
	}
	if c.State == 1 {
		c.Left = 1 + r.IntN(8)
	} else if c.State != 4 && r.IntN(2) == 0 {
		c.Line = []string{"", "0", "1", "\r", "1\r", "A: b", "A: b\r", "1;" + strings.Repeat("x", 195), "\r\n", text(r.IntN(201))}[r.IntN(10)]
	}
	if r.IntN(3) == 0 {
		c.Many = []int{1, 3900, 3990, 3999, 4000}[r.IntN(5)]
	}
	if r.IntN(50) == 0 {
		c = api.Chunks{State: r.IntN(7) - 1, Left: r.IntN(3) - 1, Line: text(r.IntN(3)), Many: r.IntN(4003) - 1}
	}
	return c
}

// onward returns what leads from c to the next size line, if that is what c waits for.
func onward(c api.Chunks) string {
	switch c.State {
	case 1:
		return text(max(c.Left, 0)) + "\r\n"
	case 2:
		return strings.TrimPrefix("\r\n", c.Line)
	}
	return ""
}

func TestRandomTexts(t *testing.T) {
	r := rand.New(rand.NewPCG(8, 8))
	kinds := map[string]int{}
	for range 100000 {
		c, s := anyChunks(r), anyText(r)
		if r.IntN(2) == 0 {
			s = onward(c) + s
		}
		e := check(t, c, s)
		next, _, body, _ := chunk.Feed(c, s)
		kinds[fmt.Sprint("error", e)]++
		if e == api.OK {
			kinds[fmt.Sprint("state", c.State, next.State)]++
			kinds[fmt.Sprint("body", len(body) > 0)]++
		}
		if !valid(c) || c.Left+c.Many > 4000 {
			continue
		}
		// Cut anyhow, and with pieces of which some are empty.
		var pieces []string
		for rest := s; rest != "" || r.IntN(3) == 0; {
			n := r.IntN(min(len(rest), 20) + 1)
			pieces = append(pieces, rest[:n])
			rest = rest[n:]
		}
		checkPieces(t, c, append(pieces, "")...)
	}
	// Else the test would not say what it means.
	for _, k := range []string{"error0", "error1", "error2", "error23", "state0 0", "state0 1", "state0 2", "state0 3", "state0 4", "state1 0", "state1 1", "state1 2", "state2 0", "state2 2", "state3 3", "state3 4", "state4 4", "bodytrue", "bodyfalse"} {
		if kinds[k] < 100 {
			t.Errorf("%s came %d times: %v", k, kinds[k], kinds)
		}
	}
}

// Arguments read as before, and what one call answered does not hang on those before it.
func TestArgumentsStay(t *testing.T) {
	r := rand.New(rand.NewPCG(8, 9))
	for range 20000 {
		c, s := anyChunks(r), anyText(r)
		before, line, whole := c, strings.Clone(c.Line), strings.Clone(s)
		next, n, body, e := chunk.Feed(c, s)
		coded, d := chunk.Encode(s, 1+len(s)/3)
		if c != before || c.Line != line || s != whole {
			t.Fatalf("%#v, %s became %#v, %s", before, short(whole), c, short(s))
		}
		check(t, next, anyText(r))
		wantFeed(t, c, s, next, n, body, e)
		wantEncode(t, s, 1+len(s)/3, coded, d)
	}
}
