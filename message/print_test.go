package message_test

import (
	"fmt"
	"regexp"
	"strings"
	"testing"

	"lockage/api"
	"lockage/head"
	"lockage/message"
)

// aboutLength is the names that Print drops.
var aboutLength = regexp.MustCompile(`^([Cc][Oo][Nn][Tt][Ee][Nn][Tt]-[Ll][Ee][Nn][Gg][Tt][Hh]|[Tt][Rr][Aa][Nn][Ss][Ff][Ee][Rr]-[Ee][Nn][Cc][Oo][Dd][Ii][Nn][Gg])$`)

// others returns the fields that are not about the length of a body.
func others(l []api.Field) []api.Field {
	var out []api.Field
	for _, f := range l {
		if !aboutLength.MatchString(f.Name) {
			out = append(out, f)
		}
	}
	return out
}

// ended says J3 once more.
func ended(r api.Reader) (api.Message, bool, api.Errno) {
	switch {
	case !valid(r):
		return api.Message{}, false, 1
	case r.E != 0:
		return api.Message{}, false, r.E
	case r.Frame.Kind == 4:
		return api.Message{Head: r.Now, Body: r.Body}, true, 0
	case zero(r):
		return api.Message{}, false, 0
	}
	return api.Message{}, false, 22
}

// printed says J4 once more.
func printed(m api.Message, answer bool) (string, api.Errno) {
	if len(m.Body) >= 4001 {
		return "", 2
	}
	h := m.Head
	h.Fields = append(others(h.Fields), api.Field{Name: "Content-Length", Value: fmt.Sprint(len(m.Body))})
	s, e := head.Print(h, answer)
	if e != 0 {
		return "", e
	}
	return s + m.Body, 0
}

// wantEnd holds End against J3.
func wantEnd(t *testing.T, r api.Reader) {
	t.Helper()
	want, wantIs, wantE := ended(r)
	if m, is, e := message.End(r); !sameMessage(m, want) || is != wantIs || e != wantE {
		t.Errorf("End(%s): %s %v %d, want %s %v %d", tell(r), tell(m), is, e, tell(want), wantIs, wantE)
	}
}

// wantNoEnd holds End against an error, with which there is no message.
func wantNoEnd(t *testing.T, r api.Reader, want api.Errno) {
	t.Helper()
	if m, is, e := message.End(r); !sameMessage(m, api.Message{}) || is || e != want {
		t.Errorf("End(%s): %s %v %d, want %d", tell(r), tell(m), is, e, want)
	}
	wantEnd(t, r)
}

func wantPrint(t *testing.T, m api.Message, answer bool, want string, wantE api.Errno) {
	t.Helper()
	if s, e := message.Print(m, answer); s != want || e != wantE {
		t.Errorf("Print(%s, %v): %s %d, want %s %d", tell(m), answer, tell(s), e, tell(want), wantE)
	}
}

// checkPrint holds Print against J4, and returns its error.
func checkPrint(t *testing.T, m api.Message, answer bool) api.Errno {
	t.Helper()
	want, e := printed(m, answer)
	wantPrint(t, m, answer, want, e)
	return e
}

func TestJ3NotValid(t *testing.T) {
	for _, x := range sides {
		for _, r := range []api.Reader{begun(x.reader, strings.Repeat("x", 2004)), begun(x.reader, "\r\n\r\n"), amid(x.reader, x.now, api.Frame{}, ""), amid(x.reader, x.now, api.Frame{Kind: 1}, ""), amid(x.reader, x.now, api.Frame{Kind: 5}, ""), amid(x.reader, x.now, api.Frame{Kind: 4, Size: 1}, ""), amid(x.reader, x.now, api.Frame{Kind: 4}, letters(4001)), amid(x.reader, api.Head{}, api.Frame{Kind: 4}, ""), amid(x.reader, x.now, api.Frame{Kind: 2, Size: 2}, "hi"), inChunks(x.reader, x.now, api.Chunks{State: 4}, ""), {E: 2, Body: "x"}, {E: 20, Head: "x"}, {Body: "x"}} {
			wantNoEnd(t, r, api.ErrArg)
		}
	}
	wantNoEnd(t, amid(requests(), asking, api.Frame{Kind: 4}, ""), api.ErrArg)
	wantNoEnd(t, amid(requests(), answering, api.Frame{Kind: 4}, ""), api.ErrArg)
	wantNoEnd(t, amid(responses("GET"), asking, api.Frame{Kind: 4}, ""), api.ErrArg)
}

func TestJ3Failed(t *testing.T) {
	for _, e := range errors {
		for _, r := range []api.Reader{requests(), responses("GET"), responses("HEAD")} {
			wantNoEnd(t, broken(r, e), e)
		}
	}
}

func TestJ3Nothing(t *testing.T) {
	for _, r := range []api.Reader{requests(), responses("GET"), responses("HEAD"), responses(""), {Asked: "GET"}} {
		wantNoEnd(t, r, api.OK)
		r.Now.Fields = []api.Field{}
		wantNoEnd(t, r, api.OK)
	}
}

func TestJ3Amid(t *testing.T) {
	for _, x := range sides {
		for _, part := range []string{"x", "\r", "\r\n", "GET", "GET / HTTP/1.1\r\n\r", "HTTP/1.0 200 OK\r\n\r", strings.Repeat("x", 2003)} {
			wantNoEnd(t, begun(x.reader, part), api.ErrFrame)
		}
		for _, n := range []int{0, 1, 3999} {
			wantNoEnd(t, amid(x.reader, x.now, api.Frame{Kind: 2, Size: n + 1}, letters(n)), api.ErrFrame)
			wantNoEnd(t, amid(x.reader, x.now, api.Frame{Kind: 2, Size: 4000}, letters(n)), api.ErrFrame)
		}
		for _, c := range []api.Chunks{{}, {Line: "0\r\n\r"}, {State: 1, Left: 1}, {State: 2}, {State: 3}, {State: 3, Line: "\r"}} {
			wantNoEnd(t, inChunks(x.reader, x.now, c, ""), api.ErrFrame)
			c.Many = 2
			wantNoEnd(t, inChunks(x.reader, x.now, c, "hi"), api.ErrFrame)
		}
	}
}

func TestJ3ToEnd(t *testing.T) {
	for _, x := range sides {
		for _, n := range []int{0, 1, 2, 3999, 4000} {
			if x.reader.Answer {
				m, is, e := message.End(amid(x.reader, x.now, api.Frame{Kind: 4}, letters(n)))
				if !sameMessage(m, api.Message{Head: x.now, Body: letters(n)}) || !is || e != api.OK {
					t.Errorf("End, %d bytes: %s %v %d", n, tell(m), is, e)
				}
			}
		}
	}
}

// What was fed ends as the chapter says, at each place.
func TestJ3Fed(t *testing.T) {
	for _, x := range []struct {
		r api.Reader
		s string
		// where holds the places at which End returns no error: there is a message at those that are true.
		where map[int]bool
	}{
		{requests(), get + post + put, map[int]bool{0: false, len(get): false, len(get + post): false, len(get + post + put): false}},
		{responses("GET"), nothing + fine + going, map[int]bool{0: false, len(nothing): false, len(nothing + fine): false, len(nothing + fine + going): false}},
		{responses("GET"), fine + open + "ab", map[int]bool{0: false, len(fine): false, len(fine + open): true, len(fine+open) + 1: true, len(fine+open) + 2: true}},
		{responses("HEAD"), open + open, map[int]bool{0: false, len(open): false, 2 * len(open): false}},
	} {
		for i := range len(x.s) + 1 {
			r, _, _ := message.Feed(x.r, x.s[:i])
			m, is, e := message.End(r)
			want, fine := x.where[i]
			if is != want || fine != (e == api.OK) || !fine && e != api.ErrFrame || is && m.Body != x.s[len(x.s)-2:i] {
				t.Errorf("%q: End: %s %v %d", x.s[:i], tell(m), is, e)
			}
			wantEnd(t, r)
		}
		r, _, _ := message.Feed(x.r, x.s+"\r\n\r\n")
		wantEnd(t, r)
	}
}

func TestJ4(t *testing.T) {
	field := func(name, value string) api.Field { return api.Field{Name: name, Value: value} }
	for _, c := range []struct {
		h      api.Head
		answer bool
		body   string
		want   string
	}{
		{asking, false, "", "GET / HTTP/1.1\r\nContent-Length: 0\r\n\r\n"},
		{asking, false, "hi", "GET / HTTP/1.1\r\nContent-Length: 2\r\n\r\nhi"},
		{answering, true, "", "HTTP/1.1 200 OK\r\nContent-Length: 0\r\n\r\n"},
		{answering, true, "\r\n\x00\xff", "HTTP/1.1 200 OK\r\nContent-Length: 4\r\n\r\n\r\n\x00\xff"},
		{api.Head{Status: 304}, true, "hi", "HTTP/1.0 304 \r\nContent-Length: 2\r\n\r\nhi"},
		{api.Head{Method: "A", Target: "b", Fields: []api.Field{field("Content-Length", "9")}}, false, "hi", "A b HTTP/1.0\r\nContent-Length: 2\r\n\r\nhi"},
		{api.Head{Method: "A", Target: "b", Fields: []api.Field{field("X", "1"), field("CONTENT-length", "9"), field("Y", "2"), field("content-LENGTH", "x")}}, false, "", "A b HTTP/1.0\r\nX: 1\r\nY: 2\r\nContent-Length: 0\r\n\r\n"},
		{api.Head{Status: 100, Reason: "R", Fields: []api.Field{field("transfer-encoding", "chunked"), field("X", "1"), field("X", "1"), field("TRANSFER-ENCODING", "gzip"), field("Content-Length", "2"), field("Host", "")}}, true, "abc", "HTTP/1.0 100 R\r\nX: 1\r\nX: 1\r\nHost: \r\nContent-Length: 3\r\n\r\nabc"},
		{api.Head{Method: "A", Target: "b", Fields: []api.Field{field("Content-Length-", "1"), field("X-Content-Length", "2"), field("Content_Length", "3"), field("Transfer-Encodin", "4"), field("Content", "5"), field("Length", "6"), field("TE", "7"), field("Trailer", "8"), field("Content-Encoding", "9"), field("Transfer", "10")}}, false, "x", "A b HTTP/1.0\r\nContent-Length-: 1\r\nX-Content-Length: 2\r\nContent_Length: 3\r\nTransfer-Encodin: 4\r\nContent: 5\r\nLength: 6\r\nTE: 7\r\nTrailer: 8\r\nContent-Encoding: 9\r\nTransfer: 10\r\nContent-Length: 1\r\n\r\nx"},
	} {
		wantPrint(t, api.Message{Head: c.h, Body: c.body}, c.answer, c.want, api.OK)
		wantPrint(t, api.Message{Head: c.h, Body: c.body}, !c.answer, "", api.ErrArg)
		checkPrint(t, api.Message{Head: c.h, Body: c.body}, c.answer)
	}
}

func TestJ4Lengths(t *testing.T) {
	for n := range 4010 {
		body := letters(n)
		for _, answer := range []bool{false, true} {
			m := api.Message{Head: asking, Body: body}
			first := "GET / HTTP/1.1"
			if answer {
				m.Head, first = answering, "HTTP/1.1 200 OK"
			}
			if n > 4000 {
				wantPrint(t, m, answer, "", api.ErrLong)
				continue
			}
			wantPrint(t, m, answer, fmt.Sprintf("%s\r\nContent-Length: %d\r\n\r\n%s", first, n, body), api.OK)
		}
	}
	// A body that is too long goes ahead of a head that is wrong.
	for _, n := range []int{4001, 4002, 8000, 100000} {
		for _, h := range []api.Head{{}, asking, answering, {Status: 600}, {Method: "a b"}, {Method: "A", Target: "b", Fields: make([]api.Field, 30)}} {
			wantPrint(t, api.Message{Head: h, Body: letters(n)}, false, "", api.ErrLong)
			wantPrint(t, api.Message{Head: h, Body: letters(n)}, true, "", api.ErrLong)
		}
	}
	wantPrint(t, api.Message{Body: letters(4000)}, false, "", api.ErrArg)
}

func TestJ4WrongHeads(t *testing.T) {
	for _, h := range []api.Head{{}, {Method: "GET"}, {Target: "/"}, {Method: "G T", Target: "/"}, {Method: "GET", Target: "a b"}, {Method: "GET", Target: "/", Minor: 2}, {Method: "GET", Target: "/", Status: 200}, {Method: "GET", Target: "/", Reason: "OK"}, {Status: 99}, {Status: 600}, {Status: 200, Minor: -1}, {Status: 200, Reason: "\r\n"}, {Status: 200, Method: "GET"}, {Method: "GET", Target: "/", Fields: []api.Field{{}}}, {Method: "GET", Target: "/", Fields: []api.Field{{Name: "A", Value: "b "}}}, {Status: 200, Fields: []api.Field{{Name: "A:", Value: "b"}}}, {Status: 200, Fields: []api.Field{{Name: "A", Value: "b\r\nC: d"}}}, {Status: 200, Fields: []api.Field{{Name: "Content-Length "}}}, {Status: 200, Fields: []api.Field{{Name: " Content-Length"}}}, {Status: 200, Fields: []api.Field{{Name: "Content-Length:"}}}, {Status: 200, Fields: []api.Field{{Name: "Tran\u017ffer-Encoding", Value: "x"}}}, {Method: "GET", Target: "/", Fields: []api.Field{{Name: "Transfer\u2010Encoding"}}}} {
		for _, body := range []string{"", "hi"} {
			wantPrint(t, api.Message{Head: h, Body: body}, false, "", api.ErrArg)
			wantPrint(t, api.Message{Head: h, Body: body}, true, "", api.ErrArg)
		}
	}
	// What is dropped may be wrong.
	for _, name := range []string{"Content-Length", "CONTENT-LENGTH", "transfer-encoding", "Transfer-Encoding"} {
		h := answering
		h.Fields = []api.Field{{Name: name, Value: " \r\n\xff"}, {Name: "A", Value: "b"}}
		wantPrint(t, api.Message{Head: h, Body: "x"}, true, "HTTP/1.1 200 OK\r\nA: b\r\nContent-Length: 1\r\n\r\nx", api.OK)
	}
}

// The field that is appended counts, and those that are dropped do not.
func TestJ4ManyFields(t *testing.T) {
	for n := range 23 {
		for dropped := range 4 {
			var l []api.Field
			for i := range n {
				l = append(l, api.Field{Name: fmt.Sprint("X", i)})
			}
			for i := range dropped {
				l = append(l, api.Field{Name: []string{"content-length", "Transfer-Encoding", "Content-Length"}[i], Value: "1"})
			}
			want := api.OK
			if n > 19 {
				want = api.ErrArg
			}
			for _, answer := range []bool{false, true} {
				h := asking
				if answer {
					h = answering
				}
				h.Fields = l
				if e := checkPrint(t, api.Message{Head: h, Body: "b"}, answer); e != want {
					t.Errorf("Print, %d fields and %d that are dropped: %d", n, dropped, e)
				}
			}
		}
	}
}

// The head with the field that is appended must not be too long; the body does not count.
func TestJ4LongHeads(t *testing.T) {
	for _, first := range []string{"GET / HTTP/1.1", "HTTP/1.1 200 OK"} {
		answer := strings.HasPrefix(first, "HTTP")
		for _, body := range []string{"", "123456789", "1234567890", letters(999), letters(1000), letters(4000)} {
			appended := len(fmt.Sprintf("\r\nContent-Length: %d", len(body)))
			for n := 1960; n <= 2000; n++ {
				m := api.Message{Head: headOf(t, longHead(first, n), answer), Body: body}
				want := api.OK
				if n+appended > 2000 {
					want = api.ErrLong
				}
				if e := checkPrint(t, m, answer); e != want {
					t.Errorf("Print, a head of %d bytes with a body of %d: %d, want %d", n, len(body), e, want)
				}
			}
		}
	}
}
