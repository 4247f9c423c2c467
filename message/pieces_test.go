package message_test

import (
	"fmt"
	"math/rand/v2"
	"reflect"
	"slices"
	"strings"
	"testing"

	"lockage/api"
	"lockage/chunk"
	"lockage/message"
)

// inPieces feeds the pieces one by one, also those behind a failure.
func inPieces(r api.Reader, pieces []string) (api.Reader, []api.Message, api.Errno) {
	var all []api.Message
	e := r.E
	for _, s := range pieces {
		var l []api.Message
		r, l, e = message.Feed(r, s)
		all = append(all, l...)
	}
	return r, all, e
}

// checkPieces holds the pieces, one by one, against the whole.
func checkPieces(t *testing.T, r api.Reader, pieces ...string) {
	t.Helper()
	whole := strings.Join(pieces, "")
	want, messages, wantE := message.Feed(r, whole)
	got, l, e := inPieces(r, pieces)
	if !sameReader(got, want) || !sameMessages(l, messages) || e != wantE {
		t.Errorf("%s: %s in %d pieces: %s %s %d, want %s %s %d", tell(r), tell(whole), len(pieces), tell(got), tell(l), e, tell(want), tell(messages), wantE)
	}
}

// piecesOf returns s in pieces of size bytes, of which the last may be shorter.
func piecesOf(s string, size int) []string {
	var out []string
	for piece := range slices.Chunk([]byte(s), size) {
		out = append(out, string(piece))
	}
	return out
}

func TestJ5Pieces(t *testing.T) {
	chunked, _ := chunk.Encode(letters(100), 7)
	for _, c := range []struct {
		answer bool
		texts  []string
	}{
		{false, []string{get + post + put, put + put + "P", post[:len(post)-1], get + "x\r\n\r\n" + get, post + "GET / HTTP/2.0\r\n\r\n", put[:len(put)-2] + "A\r\n" + get, "GET / HTTP/1.1\r\nTransfer-Encoding: chunked\r\n\r\n" + chunked + get, "\r\n\r\n" + get, "GET / HTTP/1.1\r\nContent-Length: 4\r\n\r\n\r\n\r\n" + get, "GET / HTTP/1.1\r\nContent-Length: 0\r\n\r\n" + get}},
		{true, []string{fine + going + nothing + open + "more", nothing + nothing + fine + "HTTP/1.1 20", open + "\r\n\r\n" + fine, "HTTP/1.1 100 C\r\n\r\n" + fine, going + "HTTP/1.1 200 OK\r\nContent-Length: x\r\n\r\n" + fine, "HTTP/1.1 200 OK\r\nTransfer-Encoding: chunked\r\n\r\n" + chunked + open}},
	} {
		for _, asked := range []string{"GET", "HEAD"} {
			r := message.New(c.answer, asked)
			for _, s := range c.texts {
				for i := range len(s) + 1 {
					checkPieces(t, r, s[:i], s[i:])
					for j := i; j <= min(len(s), i+12); j++ {
						checkPieces(t, r, s[:i], s[i:j], s[j:])
					}
				}
				for size := 1; size <= len(s); size++ {
					checkPieces(t, r, piecesOf(s, size)...)
				}
			}
		}
	}
}

func TestJ5LongPieces(t *testing.T) {
	chunked, _ := chunk.Encode(letters(4000), 300)
	for _, s := range []string{strings.Repeat("x", 2010), longHead("HTTP/1.1 204 No", 2000) + "\r\n\r\n" + fine, longHead("HTTP/1.1 204 No", 2001) + "\r\n\r\n" + fine, "HTTP/1.1 200 OK\r\nContent-Length: 4000\r\n\r\n" + letters(4000) + fine, "HTTP/1.1 200 OK\r\nTransfer-Encoding: chunked\r\n\r\n" + chunked + fine, open + letters(4000), open + letters(4001), open + letters(4010)} {
		for _, size := range []int{1, 3, 100, 1999, 4000} {
			checkPieces(t, responses("GET"), piecesOf(s, size)...)
		}
		for i := max(0, len(s)-12); i <= len(s); i++ {
			checkPieces(t, responses("GET"), s[:i], s[i:])
		}
	}
}

// checkPrinted holds what is printed of m against J5: it is read with the same body and the same fields, except for those
// about its length. It returns whether it is printed.
func checkPrinted(t *testing.T, m api.Message, answer bool) bool {
	t.Helper()
	if checkPrint(t, m, answer) != api.OK {
		return false
	}
	s, _ := message.Print(m, answer)
	r := message.New(answer, "GET")
	want := m
	want.Head.Fields = append(others(m.Head.Fields), api.Field{Name: "Content-Length", Value: fmt.Sprint(len(m.Body))})
	if hasNoBody(m.Head, answer) {
		// Such a response has none, whatever is printed behind its head.
		want.Body = ""
		s = s[:len(s)-len(m.Body)]
	}
	wantFeed(t, r, s, r, api.OK, want)
	wantFeed(t, r, s+s+"x", begun(r, "x"), api.OK, want, want)
	// And it is printed so once more.
	if want.Body == m.Body {
		wantPrint(t, want, answer, s, api.OK)
	}
	return true
}

// hasNoBody reports whether the head is one of a response that has no body whatever its fields tell.
func hasNoBody(h api.Head, answer bool) bool {
	return answer && (h.Status < 200 || h.Status == 204 || h.Status == 304)
}

func TestJ5Printed(t *testing.T) {
	for _, n := range []int{0, 1, 2, 3, 9, 10, 99, 100, 999, 1000, 3999, 4000} {
		for _, l := range [][]api.Field{nil, {{Name: "A", Value: "b"}}, {{Name: "Content-Length", Value: "7"}}, {{Name: "TRANSFER-encoding", Value: "chunked"}, {Name: "X", Value: "a, b"}, {Name: "x"}, {Name: "content-length", Value: "\r\n"}}, {{Name: "Host", Value: "y"}, {Name: "Transfer-Encoding", Value: "gzip"}, {Name: "Transfer-Encoding", Value: "chunked"}}} {
			for _, x := range sides {
				m := api.Message{Head: x.now, Body: letters(n)}
				m.Head.Fields = l
				if !checkPrinted(t, m, x.reader.Answer) {
					t.Errorf("%s is not printed", tell(m))
				}
			}
		}
	}
	// What was read is printed, and read again.
	for _, s := range []string{get, post, put} {
		_, l, _ := message.Feed(requests(), s)
		if !checkPrinted(t, l[0], false) {
			t.Errorf("%q is not printed", s)
		}
	}
	for _, s := range []string{fine, going, nothing} {
		_, l, _ := message.Feed(responses("GET"), s)
		if !checkPrinted(t, l[0], true) {
			t.Errorf("%q is not printed", s)
		}
	}
}

// pick returns one of l.
func pick[T any](r *rand.Rand, l ...T) T { return l[r.IntN(len(l))] }

// anyLine returns a first line that is well, and fields behind it that tell nothing of a body.
func anyLine(r *rand.Rand, answer bool) string {
	s := pick(r, "GET", "POST", "x") + " " + pick(r, "/", "/a?b", "*") + " HTTP/1.1"
	if answer {
		s = "HTTP/1.1 " + pick(r, "200", "200", "404", "100", "204", "304") + " " + pick(r, "OK", "", "Not Found")
	}
	for range r.IntN(3) {
		s += "\r\n" + pick(r, "A: b", "Host:x", "Connection: close", "Empty:")
	}
	return s
}

// anyMessage returns the text of a message that is well.
func anyMessage(r *rand.Rand, answer bool) string {
	body := letters(r.IntN(40))
	switch r.IntN(4) {
	case 0:
		return anyLine(r, answer) + fmt.Sprintf("\r\n%s: %d\r\n\r\n", pick(r, "Content-Length", "content-length"), len(body)) + body
	case 1:
		body, _ = chunk.Encode(body, 1+r.IntN(8))
		return anyLine(r, answer) + "\r\nTransfer-Encoding: " + pick(r, "chunked", "Chunked") + "\r\n\r\n" + body
	case 2:
		if answer {
			return pick(r, fine, going, nothing, open)
		}
		return pick(r, get, post, put)
	}
	return anyLine(r, answer) + "\r\n\r\n"
}

// anyText returns a text that is mostly messages, or nearly so.
func anyText(r *rand.Rand, answer bool) string {
	s := ""
	for range r.IntN(6) {
		switch r.IntN(20) {
		case 0:
			s += pick(r, letters(r.IntN(9)), "\r\n")
		case 1:
			s += anyLine(r, answer) + "\r\n" + pick(r, "A", "Content-Length: x", "Content-Length: 5000", "Transfer-Encoding: gzip", "Transfer-Encoding: chunked\r\nContent-Length: 1") + "\r\n\r\n"
		default:
			s += anyMessage(r, answer)
		}
	}
	if r.IntN(40) == 0 {
		s += pick(r, strings.Repeat("x", 1990+r.IntN(20)), letters(3990+r.IntN(20)))
	}
	if s != "" && r.IntN(3) == 0 {
		s = s[:len(s)-r.IntN(min(len(s), pick(r, 12, len(s))))]
	}
	if s != "" && r.IntN(5) == 0 {
		i := r.IntN(len(s))
		s = s[:i] + pick(r, "\r\n", "\r", "\n", "\r\n\r\n", string([]byte{byte(r.IntN(256))}), "0", " ", ":", "2") + s[i+r.IntN(2):]
	}
	return s
}

// anyReader returns a reader that is mostly valid.
func anyReader(r *rand.Rand) api.Reader {
	x := pick(r, sides...)
	a := x.reader
	switch r.IntN(9) {
	case 0:
		a = begun(a, pick(r, "GET / HTTP/1.1", "HTTP/1.1 200 OK\r\n", "\r\n\r", "x", strings.Repeat("x", 2003)))
	case 1:
		n := r.IntN(20)
		a = amid(a, x.now, api.Frame{Kind: 2, Size: n + 1 + r.IntN(9)}, letters(n))
	case 2:
		n := pick(r, r.IntN(20), r.IntN(20), 3990+r.IntN(11))
		a = inChunks(a, x.now, pick(r, api.Chunks{Many: n}, api.Chunks{State: 1, Left: 1 + r.IntN(15), Many: n}, api.Chunks{State: 2, Many: n}, api.Chunks{State: 3, Many: n, Line: pick(r, "", "\r", "A: b\r")}), letters(n))
	case 3:
		a = amid(a, x.now, api.Frame{Kind: 4}, letters(pick(r, r.IntN(9), 3990+r.IntN(11))))
	case 4:
		a = broken(a, pick(r, errors...))
	}
	if r.IntN(12) == 0 {
		a = pick(r, changed(a)...)
	}
	return a
}

// onward returns what is mostly next for a reader.
func onward(r *rand.Rand, a api.Reader) string {
	switch a.Frame.Kind {
	case 2:
		return letters(min(max(a.Frame.Size-len(a.Body), 0), 5000))
	case 3:
		body, _ := chunk.Encode(letters(r.IntN(9)), 3)
		switch a.Chunks.State {
		case 1:
			return letters(a.Chunks.Left) + "\r\n" + body
		case 2:
			return "\r\n" + body
		case 3:
			return strings.TrimPrefix("\r\n", a.Chunks.Line)
		}
		return body
	}
	if a.Head == "" {
		return ""
	}
	return pick(r, "", "\r\n\r\n", "\n")
}

// anyPieces returns s in pieces, of which some may be empty.
func anyPieces(r *rand.Rand, s string) []string {
	places := []int{0, len(s)}
	for range r.IntN(12) {
		places = append(places, r.IntN(len(s)+1))
	}
	slices.Sort(places)
	var out []string
	for i, place := range places[1:] {
		out = append(out, s[places[i]:place])
	}
	return out
}

func TestRandomTexts(t *testing.T) {
	r := rand.New(rand.NewPCG(9, 9))
	kinds := map[string]int{}
	for range 20000 {
		a := anyReader(r)
		s := anyText(r, a.Answer)
		if r.IntN(4) > 0 {
			s = onward(r, a) + s
		}
		got, l, e := check(t, a, s)
		kinds[fmt.Sprint("error", e)]++
		kinds[fmt.Sprint("messages", min(len(l), 3))]++
		kinds[fmt.Sprint("from", a.Frame.Kind, " to ", got.Frame.Kind)]++
		for _, m := range l {
			kinds[fmt.Sprintf("printed %v %v", a.Answer, checkPrinted(t, m, a.Answer))]++
		}
		if m, is, _ := message.End(got); is {
			kinds["ended"]++
			checkPrinted(t, m, true)
		}
		if !valid(a) || len(a.Body)+a.Chunks.Left > 4000 {
			continue
		}
		checkPieces(t, a, anyPieces(r, s)...)
	}
	// Else the test would not say what it means.
	for _, k := range []string{"error0", "error1", "error2", "error20", "error21", "error22", "error23", "messages0", "messages1", "messages2", "messages3", "from0 to 0", "from0 to 2", "from0 to 3", "from0 to 4", "from2 to 0", "from2 to 2", "from2 to 3", "from2 to 4", "from3 to 0", "from3 to 2", "from3 to 3", "from3 to 4", "from4 to 0", "from4 to 4", "printed false true", "printed true true", "ended"} {
		if kinds[k] < 10 {
			t.Errorf("%s came %d times: %v", k, kinds[k], kinds)
		}
	}
}

// roomy returns the fields in a list that has more memory behind them, and all of that memory.
func roomy(l []api.Field) (list, memory []api.Field) {
	memory = append(slices.Clone(l), api.Field{Name: "Behind", Value: "1"}, api.Field{Name: "Behind", Value: "2"})
	return memory[:len(l)], memory
}

// Arguments read as before, memory beyond the length of their lists included, and what one call answered does not hang
// on those before it.
func TestArgumentsStay(t *testing.T) {
	r := rand.New(rand.NewPCG(9, 10))
	for range 3000 {
		a := anyReader(r)
		list, memory := roomy(a.Now.Fields)
		a.Now.Fields = list
		before, kept, s := a, slices.Clone(memory), onward(r, a)+anyText(r, a.Answer)
		whole := strings.Clone(s)
		got, l, e := message.Feed(a, s)
		m := api.Message{Head: a.Now, Body: a.Body}
		end, is, d := message.End(a)
		text, f := message.Print(m, a.Answer)
		if !reflect.DeepEqual(a, before) || !slices.Equal(memory, kept) || s != whole {
			t.Fatalf("%s, %s became %s, %s, %v", tell(before), tell(whole), tell(a), tell(s), memory)
		}
		wantFeed(t, a, s, got, e, l...)
		wantPrint(t, m, a.Answer, text, f)
		if again, was, g := message.End(a); !sameMessage(again, end) || was != is || g != d {
			t.Fatalf("End(%s): %s, then %s", tell(a), tell(end), tell(again))
		}
	}
}

// Results are new memory: what is written into one changes neither an argument nor another result.
func TestResultsAreNew(t *testing.T) {
	l := []api.Field{{Name: "A", Value: "b"}, {Name: "C", Value: "d"}}
	with := answering
	with.Fields = l
	spoil := func(l []api.Field) {
		for i := range l[:cap(l)] {
			l[:cap(l)][i] = api.Field{Name: "spoilt"}
		}
	}
	spare := "HTTP/1.1 200 OK\r\nA: b\r\nC: d\r\nContent-Length: 1\r\n\r\n"
	for _, r := range []api.Reader{amid(responses("GET"), with, api.Frame{Kind: 2, Size: 9}, "a"), inChunks(responses("GET"), with, api.Chunks{State: 2}, ""), amid(responses("GET"), with, api.Frame{Kind: 4}, "a"), amid(responses("GET"), with, api.Frame{Kind: 9}, "")} {
		want, memory := roomy(l)
		want = slices.Clone(memory)
		r.Now.Fields = memory[:len(l)]
		for _, s := range []string{"", "x", "\r\n0\r\n\r\n" + spare, "bcdefghi" + spare + "x" + spare} {
			got, messages, _ := message.Feed(r, s)
			spoil(got.Now.Fields)
			for i := range messages {
				spoil(messages[i].Head.Fields)
				for _, m := range messages[i+1:] {
					if slices.Contains(m.Head.Fields, api.Field{Name: "spoilt"}) {
						t.Errorf("Feed(%s, %s): messages share memory", tell(r), tell(s))
					}
				}
			}
			got, messages, _ = message.Feed(r, s)
			for _, m := range messages {
				spoil(m.Head.Fields)
			}
			if slices.Contains(got.Now.Fields, api.Field{Name: "spoilt"}) {
				t.Errorf("Feed(%s, %s): a message and the reader share memory", tell(r), tell(s))
			}
		}
		m, _, _ := message.End(r)
		spoil(m.Head.Fields)
		if !slices.Equal(memory, want) {
			t.Errorf("%s became %v", tell(r), memory)
		}
	}
}
