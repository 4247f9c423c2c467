package message_test

import (
	"fmt"
	"math"
	"reflect"
	"strings"
	"testing"

	"lockage/api"
	"lockage/chunk"
	"lockage/frame"
	"lockage/head"
	"lockage/message"
)

const (
	get     = "GET / HTTP/1.1\r\n\r\n"
	post    = "POST / HTTP/1.1\r\nContent-Length: 2\r\n\r\nhi"
	put     = "PUT /p HTTP/1.1\r\nTransfer-Encoding: chunked\r\n\r\n3\r\nabc\r\n0\r\n\r\n"
	fine    = "HTTP/1.1 200 OK\r\nContent-Length: 3\r\n\r\nyes"
	going   = "HTTP/1.1 200 OK\r\nTransfer-Encoding: chunked\r\n\r\n2\r\nab\r\n1;x\r\nc\r\n0\r\nA: b\r\n\r\n"
	nothing = "HTTP/1.1 204 No Content\r\n\r\n"
	open    = "HTTP/1.0 200 OK\r\n\r\n"
)

// The heads of requests and responses without fields.
var (
	asking    = api.Head{Method: "GET", Target: "/", Minor: 1}
	answering = api.Head{Status: 200, Reason: "OK", Minor: 1}
)

// errors is errors that a reader may have: its own, and others that are no OK.
var errors = []api.Errno{1, 2, 20, 21, 22, 23, 24, 3, 25, 999, -1, math.MinInt, math.MaxInt}

// bare returns r without what every reader may have, and with no list where there is an empty one.
func bare(r api.Reader) api.Reader {
	r.Answer, r.Asked = false, ""
	if len(r.Now.Fields) == 0 {
		r.Now.Fields = nil
	}
	return r
}

// zero reports whether nothing is in r but what every reader may have.
func zero(r api.Reader) bool { return reflect.DeepEqual(bare(r), api.Reader{}) }

// valid says J1 once more.
func valid(r api.Reader) bool {
	rest := r
	if r.E != 0 {
		rest.E = 0
		return zero(rest)
	}
	if r.Frame.Kind == 0 {
		rest.Head = ""
		return zero(rest) && len(r.Head) < 2004 && !strings.HasSuffix(r.Head, "\r\n\r\n")
	}
	rest.Frame, rest.Body, rest.Now = api.Frame{}, "", api.Head{}
	if r.Frame.Kind == 3 {
		rest.Chunks = api.Chunks{}
	}
	if !zero(rest) || !head.Right(r.Now, r.Answer) || len(r.Body) >= 4001 {
		return false
	}
	switch r.Frame.Kind {
	case 2:
		return len(r.Body)+1 <= r.Frame.Size && r.Frame.Size < 4001
	case 3:
		return r.Frame.Size == 0 && chunk.Right(r.Chunks) && r.Chunks.State < 4 && r.Chunks.Many == len(r.Body)
	}
	return r.Frame == api.Frame{Kind: 4} && r.Answer
}

// fed says J2 once more, part by part instead of byte by byte.
func fed(r api.Reader, s string) (api.Reader, []api.Message, api.Errno) {
	if !valid(r) {
		return r, nil, 1
	}
	var out []api.Message
	for r.E == 0 && s != "" {
		switch r.Frame.Kind {
		case 0:
			r, s = fedHead(r, s)
		case 2:
			n := min(r.Frame.Size-len(r.Body), len(s))
			r.Body, s = r.Body+s[:n], s[n:]
		case 3:
			r, s = fedChunks(r, s)
		case 4:
			r.Body, s = r.Body+s, ""
			if len(r.Body) > 4000 {
				r = broken(r, 2)
			}
		}
		if f := r.Frame; f.Kind == 1 || f.Kind == 2 && f.Size == len(r.Body) || f.Kind == 3 && r.Chunks.State == 4 {
			out = append(out, api.Message{Head: r.Now, Body: r.Body})
			r = begun(r, "")
		}
	}
	return r, out, r.E
}

// fedHead says what J2 says of a head, once more, and returns what is left of s.
func fedHead(r api.Reader, s string) (api.Reader, string) {
	whole := r.Head + s
	// An end that is in the given part already is none: a byte must come with it.
	from := max(0, len(r.Head)-3)
	n := strings.Index(whole[from:], "\r\n\r\n")
	if n < 0 && len(whole) <= 2003 {
		return begun(r, whole), ""
	}
	n += from
	if n < from || n+4 > 2004 {
		return broken(r, 2), ""
	}
	h, e := head.Parse(whole[:n], r.Answer)
	if e != 0 {
		return broken(r, e), ""
	}
	f, e := frame.Request(h)
	if r.Answer {
		f, e = frame.Answer(h, r.Asked)
	}
	if e != 0 {
		return broken(r, e), ""
	}
	return amid(r, h, f, ""), whole[n+4:]
}

// fedChunks says what J2 says of a body in chunks, once more, and returns what is left of s.
func fedChunks(r api.Reader, s string) (api.Reader, string) {
	room := 4000 - len(r.Body)
	// A given chunk may be longer than the room: one byte beyond it is read, and leaves chunks that are not valid.
	if r.Chunks.Left > room && len(s) > room+1 {
		return broken(r, 1), ""
	}
	c, n, body, e := chunk.Feed(r.Chunks, s)
	if e != 0 {
		return broken(r, e), ""
	}
	r.Chunks = c
	r.Body += body
	return r, s[n:]
}

// broken returns a reader of what r reads that has failed.
func broken(r api.Reader, e api.Errno) api.Reader {
	return api.Reader{Answer: r.Answer, Asked: r.Asked, E: e}
}

// begun returns a reader of what r reads, with that part of a head.
func begun(r api.Reader, part string) api.Reader {
	return api.Reader{Answer: r.Answer, Asked: r.Asked, Head: part}
}

// amid returns a reader of what r reads, with that part of a body.
func amid(r api.Reader, h api.Head, f api.Frame, body string) api.Reader {
	return api.Reader{Answer: r.Answer, Asked: r.Asked, Now: h, Frame: f, Body: body}
}

// requests returns a reader of requests, of which nothing was read.
func requests() api.Reader { return api.Reader{} }

// responses returns a reader of responses to requests with that method, of which nothing was read.
func responses(asked string) api.Reader { return api.Reader{Answer: true, Asked: asked} }

// inChunks returns a reader of what r reads, in a body in chunks.
func inChunks(r api.Reader, h api.Head, c api.Chunks, body string) api.Reader {
	r = amid(r, h, api.Frame{Kind: 3}, body)
	r.Chunks = c
	return r
}

// letters returns n bytes that are not all alike.
func letters(n int) string {
	return strings.Repeat("abcdefghijklmnopqrstuvwxyz\r\n\x00\xff", n/30+1)[:n]
}

// tell returns x as it is written in Go, but no more than its ends.
func tell(x any) string {
	s := fmt.Sprintf("%#v", x)
	if len(s) > 700 {
		return fmt.Sprintf("%s .. (%d) .. %s", s[:350], len(s), s[len(s)-350:])
	}
	return s
}

// sameReader reports whether two readers are equal: by R2 it does not matter whether a list without elements is nil.
func sameReader(a, b api.Reader) bool {
	return a.Answer == b.Answer && a.Asked == b.Asked && reflect.DeepEqual(bare(a), bare(b))
}

// sameMessage reports whether two messages are equal, in the same sense.
func sameMessage(a, b api.Message) bool {
	return sameReader(api.Reader{Now: a.Head, Body: a.Body}, api.Reader{Now: b.Head, Body: b.Body})
}

// sameMessages reports whether two lists of messages are equal, in the same sense.
func sameMessages(a, b []api.Message) bool {
	for i := range min(len(a), len(b)) {
		if !sameMessage(a[i], b[i]) {
			return false
		}
	}
	return len(a) == len(b)
}

func wantRight(t *testing.T, r api.Reader, want bool) {
	t.Helper()
	if got := message.Right(r); got != want || valid(r) != want {
		t.Errorf("Right(%s): %v, want %v, and %v by J1", tell(r), got, want, valid(r))
	}
}

func wantFeed(t *testing.T, r api.Reader, s string, want api.Reader, wantE api.Errno, messages ...api.Message) {
	t.Helper()
	got, l, e := message.Feed(r, s)
	if !sameReader(got, want) || !sameMessages(l, messages) || e != wantE {
		t.Errorf("Feed(%s, %s): %s %s %d, want %s %s %d", tell(r), tell(s), tell(got), tell(l), e, tell(want), tell(messages), wantE)
	}
}

// wantError holds Feed against a failure, with what was complete ahead of it. Bytes behind it change nothing.
func wantError(t *testing.T, r api.Reader, s string, want api.Errno, messages ...api.Message) {
	t.Helper()
	for _, more := range []string{"", "\n", get + fine} {
		wantFeed(t, r, s+more, broken(r, want), want, messages...)
	}
	wantFeed(t, broken(r, want), s, broken(r, want), want)
}

// check holds all that may be asked of r against J1 to J3, and returns what Feed did.
func check(t *testing.T, r api.Reader, s string) (api.Reader, []api.Message, api.Errno) {
	t.Helper()
	want, l, wantE := fed(r, s)
	wantFeed(t, r, s, want, wantE, l...)
	got, l, e := message.Feed(r, s)
	wantRight(t, r, valid(r))
	wantEnd(t, r)
	wantEnd(t, got)
	// From a chunk that ends within the limit, a valid reader always leads to one.
	if valid(r) && len(r.Body)+r.Chunks.Left <= 4000 && (!message.Right(got) || got.E != e) {
		t.Errorf("Feed(%s, %s): %s with %d", tell(r), tell(s), tell(got), e)
	}
	for _, m := range l {
		if !head.Right(m.Head, r.Answer) || len(m.Body) > 4000 {
			t.Errorf("Feed(%s, %s): the message %s", tell(r), tell(s), tell(m))
		}
	}
	return got, l, e
}

// changed returns r with each of its fields beside Answer, Asked and E changed, one by one.
func changed(r api.Reader) []api.Reader {
	var out []api.Reader
	for _, change := range []func(r *api.Reader){
		func(r *api.Reader) { r.Head += "x" },
		func(r *api.Reader) { r.Head += "\r\n\r\n" },
		func(r *api.Reader) { r.Frame.Kind++ },
		func(r *api.Reader) { r.Frame.Kind-- },
		func(r *api.Reader) { r.Frame.Kind += 4 },
		func(r *api.Reader) { r.Frame.Size++ },
		func(r *api.Reader) { r.Frame.Size-- },
		func(r *api.Reader) { r.Frame.Size = math.MinInt },
		func(r *api.Reader) { r.Body += "x" },
		func(r *api.Reader) { r.Body += "\x00" },
		func(r *api.Reader) { r.Chunks.State++ },
		func(r *api.Reader) { r.Chunks.State-- },
		func(r *api.Reader) { r.Chunks.Left++ },
		func(r *api.Reader) { r.Chunks.Left-- },
		func(r *api.Reader) { r.Chunks.Line += "x" },
		func(r *api.Reader) { r.Chunks.Many++ },
		func(r *api.Reader) { r.Chunks.Many-- },
		func(r *api.Reader) { r.Chunks = api.Chunks{State: 1, Left: 1} },
		func(r *api.Reader) { r.Now.Method += "x" },
		func(r *api.Reader) { r.Now.Target += "x" },
		func(r *api.Reader) { r.Now.Status++ },
		func(r *api.Reader) { r.Now.Status-- },
		func(r *api.Reader) { r.Now.Reason += "x" },
		func(r *api.Reader) { r.Now.Minor++ },
		func(r *api.Reader) { r.Now.Minor-- },
		func(r *api.Reader) { r.Now.Fields = []api.Field{{Name: "A", Value: "b"}} },
		func(r *api.Reader) { r.Now.Fields = make([]api.Field, 1) },
		func(r *api.Reader) { r.Now = asking },
		func(r *api.Reader) { r.Now = answering },
	} {
		other := r
		change(&other)
		if !reflect.DeepEqual(other, r) {
			out = append(out, other)
		}
	}
	return out
}

func TestLimits(t *testing.T) {
	if api.MaxHead != 2000 || api.MaxBody != 4000 || api.NoBody != 1 || api.Sized != 2 || api.Chunked != 3 || api.ToEnd != 4 {
		t.Error("the limits and the kinds are those of the chapters")
	}
	if api.OK != 0 || api.ErrArg != 1 || api.ErrLong != 2 || api.ErrLine != 20 || api.ErrField != 21 || api.ErrFrame != 22 || api.ErrChunk != 23 || api.ErrVersion != 24 {
		t.Error("the errors' numbers are those of the chapter")
	}
}

func TestExamples(t *testing.T) {
	h := api.Head{Method: "POST", Target: "/", Minor: 1, Fields: []api.Field{{Name: "Content-Length", Value: "2"}}}
	wantFeed(t, message.New(false, ""), "POST / HTTP/1.1\r\nContent-Length: 2\r\n\r\nhi", requests(), api.OK, api.Message{Head: h, Body: "hi"})
}

func TestJ1New(t *testing.T) {
	for _, answer := range []bool{false, true} {
		for _, asked := range []string{"", "GET", "HEAD", "head", "x y", "\r\n\r\n", "\x00\xff", strings.Repeat("HEAD", 2000)} {
			r := message.New(answer, asked)
			if r.Answer != answer || r.Asked != asked || !zero(r) {
				t.Errorf("New(%v, %s): %s", answer, tell(asked), tell(r))
			}
			wantRight(t, r, true)
			wantFeed(t, r, "", r, api.OK)
			wantFeed(t, r, "x", begun(r, "x"), api.OK)
		}
	}
	wantRight(t, api.Reader{}, true)
}

func TestJ1Failed(t *testing.T) {
	for _, answer := range []bool{false, true} {
		for _, asked := range []string{"", "GET", "HEAD"} {
			for _, e := range errors {
				r := api.Reader{Answer: answer, Asked: asked, E: e}
				wantRight(t, r, true)
				for _, other := range changed(r) {
					wantRight(t, other, false)
				}
				r.Now.Fields = []api.Field{}
				wantRight(t, r, true)
			}
		}
	}
}

func TestJ1Heads(t *testing.T) {
	ends := []string{"", "\r", "\n", "\r\n", "\n\r", "\r\n\r", "\n\r\n", "\r\r\n", "\r\n\n", "\r\r\n\r", "\r\n\n\r\n", "\r\n\r\r\n", "\n\r\n\r", "\r\n\r\n\r", "\r\n\r\n ", "\r\n\r\nx", "\r\n\r\n\r\n\r", "\n\n", "\r\r", "\n\n\n\n", "\r\r\r\r", "\n\r\n\r\n\r", "\x0d\x0a\x0d\x8a", "\r\n \r\n"}
	whole := []string{"\r\n\r\n", "\r\n\r\n\r\n", "\r\r\n\r\n", "\n\r\n\r\n", "x\r\n\r\n", "\r\n\r\nx\r\n\r\n"}
	for _, r := range []api.Reader{requests(), responses("GET"), responses("HEAD"), {Asked: "GET"}} {
		for _, n := range []int{0, 1, 2, 3, 4, 5, 40, 1999, 2000, 2001, 2002, 2003, 2004, 2005, 4000, 100000} {
			for _, end := range ends {
				if n >= len(end) {
					wantRight(t, begun(r, strings.Repeat("h", n-len(end))+end), n <= 2003)
				}
			}
			for _, end := range whole {
				if n >= len(end) {
					wantRight(t, begun(r, strings.Repeat("h", n-len(end))+end), false)
				}
			}
		}
		for _, part := range []string{"", "x", "GET / HTTP/1.1\r\n", "HTTP/1.1 200 OK\r\n\r", strings.Repeat("x", 2002)} {
			for _, other := range changed(begun(r, part)) {
				if other.Head == part {
					wantRight(t, other, false)
				}
			}
			with := begun(r, part)
			with.Now.Fields = []api.Field{}
			wantRight(t, with, true)
		}
	}
}

// sides is a reader of requests and one of responses, each with a head that it may have read.
var sides = []struct {
	reader api.Reader
	now    api.Head
}{
	{requests(), asking},
	{responses("GET"), answering},
	{responses("HEAD"), answering},
	{api.Reader{Asked: "HEAD"}, api.Head{Method: "PUT", Target: "*", Fields: []api.Field{{Name: "Content-Length", Value: "1"}, {Name: "Transfer-Encoding", Value: "x"}}}},
	{api.Reader{Answer: true}, api.Head{Status: 304, Fields: []api.Field{{Name: "Transfer-Encoding", Value: "chunked"}}}},
}

func TestJ1Sized(t *testing.T) {
	for _, x := range sides {
		for _, n := range []int{0, 1, 2, 100, 3998, 3999, 4000, 4001, 5000} {
			for _, size := range []int{math.MinInt, -1, 0, 1, n - 1, n, n + 1, n + 2, 3999, 4000, 4001, 4002, 1 << 32, math.MaxInt} {
				wantRight(t, amid(x.reader, x.now, api.Frame{Kind: 2, Size: size}, letters(n)), n < size && size <= 4000)
			}
		}
		r := amid(x.reader, x.now, api.Frame{Kind: 2, Size: 4000}, "abc")
		for _, c := range []api.Chunks{{State: 1}, {State: 1, Left: 1, Many: 3}, {State: 4, Many: 3}, {State: 2, Many: 3}, {Left: 1}, {Line: "x"}, {Many: 3}} {
			r.Chunks = c
			wantRight(t, r, false)
		}
	}
}

func TestJ1Chunked(t *testing.T) {
	for _, x := range sides {
		for _, size := range []int{math.MinInt, -1, 0, 1, 2, 4000, math.MaxInt} {
			r := inChunks(x.reader, x.now, api.Chunks{Many: 1}, "a")
			r.Frame.Size = size
			wantRight(t, r, size == 0)
		}
		for state := -1; state <= 5; state++ {
			for left := range 2 {
				for _, line := range []string{"", "x"} {
					c := api.Chunks{State: state, Left: left, Line: line}
					wantRight(t, inChunks(x.reader, x.now, c, ""), chunk.Right(c) && state != 4)
				}
			}
		}
		wantRight(t, inChunks(x.reader, x.now, api.Chunks{Line: strings.Repeat("x", 200)}, ""), true)
		wantRight(t, inChunks(x.reader, x.now, api.Chunks{Line: strings.Repeat("x", 201)}, ""), false)
		for _, n := range []int{0, 1, 2, 3999, 4000, 4001} {
			for _, many := range []int{-1, 0, 1, n - 1, n, n + 1, 4000, 4001} {
				for _, c := range []api.Chunks{{Many: many}, {State: 1, Left: 4000, Many: many}, {State: 2, Many: many}, {State: 3, Line: "A", Many: many}} {
					wantRight(t, inChunks(x.reader, x.now, c, letters(n)), many == n && n <= 4000)
				}
				wantRight(t, inChunks(x.reader, x.now, api.Chunks{State: 4, Many: many}, letters(n)), false)
			}
		}
	}
}

func TestJ1ToEnd(t *testing.T) {
	for _, x := range sides {
		for _, n := range []int{0, 1, 3999, 4000, 4001, 4002, 10000} {
			for _, size := range []int{-1, 0, 1, n, n + 1, 4000} {
				wantRight(t, amid(x.reader, x.now, api.Frame{Kind: 4, Size: size}, letters(n)), x.reader.Answer && size == 0 && n <= 4000)
			}
		}
		r := amid(x.reader, x.now, api.Frame{Kind: 4}, "abc")
		for _, c := range []api.Chunks{{State: 1}, {State: 1, Left: 1}, {State: 4}, {Left: 1}, {Line: "x"}, {Many: 3}} {
			r.Chunks = c
			wantRight(t, r, false)
		}
	}
}

// No other Kind is that of a body that is read.
func TestJ1Kinds(t *testing.T) {
	for _, x := range sides {
		for _, kind := range []int{math.MinInt, -4, -1, 0, 1, 5, 6, 7, 256, 258, 1<<32 + 2, math.MaxInt} {
			for _, size := range []int{0, 1, 4000} {
				for _, body := range []string{"", "a"} {
					r := amid(x.reader, x.now, api.Frame{Kind: kind, Size: size}, body)
					wantRight(t, r, false)
					r.Chunks.Many = len(body)
					wantRight(t, r, false)
				}
			}
		}
	}
}

func TestJ1Now(t *testing.T) {
	many := make([]api.Field, 21)
	for i := range many {
		many[i] = api.Field{Name: fmt.Sprint("X", i)}
	}
	for _, f := range []api.Frame{{Kind: 2, Size: 2}, {Kind: 3}, {Kind: 4}} {
		for _, r := range []api.Reader{requests(), responses("GET"), responses("")} {
			for _, now := range []api.Head{
				{}, asking, answering, {Method: "GET", Target: "/"}, {Status: 100}, {Status: 599, Reason: " a\t"}, {Status: 99}, {Status: 600},
				{Method: "GET", Target: "/", Status: 200}, {Method: "GET", Target: "/", Minor: 2}, {Status: 200, Minor: 2}, {Status: 200, Minor: -1}, {Method: "G T", Target: "/"}, {Method: "GET", Target: " "}, {Method: "GET"}, {Target: "/"},
				{Status: 200, Fields: many[:20]}, {Status: 200, Fields: many}, {Method: "GET", Target: "/", Fields: many[:20]}, {Method: "GET", Target: "/", Fields: many}, {Status: 200, Fields: []api.Field{{Name: "a b"}}}, {Method: "GET", Target: "/", Fields: []api.Field{{Name: "A", Value: " b"}}}, {Status: 200, Reason: "\n"}, {Method: "GET", Target: "/", Reason: "OK"},
			} {
				wantRight(t, amid(r, now, f, ""), head.Right(now, r.Answer) && (f.Kind != 4 || r.Answer))
			}
		}
	}
	for _, x := range sides {
		for _, f := range []api.Frame{{Kind: 2, Size: 2}, {Kind: 3}, {Kind: 4}} {
			r := amid(x.reader, x.now, f, "")
			for _, part := range []string{"x", "\r", "GET / HTTP/1.1\r\n"} {
				r.Head = part
				wantRight(t, r, false)
			}
			for _, e := range errors {
				r = amid(x.reader, x.now, f, "")
				r.E = e
				wantRight(t, r, false)
			}
		}
	}
}

// Fields that are changed one by one, each reader against J1.
func TestJ1Changes(t *testing.T) {
	seen := map[bool]int{}
	for _, x := range sides {
		for _, r := range []api.Reader{begun(x.reader, "GET"), broken(x.reader, 2), amid(x.reader, x.now, api.Frame{Kind: 2, Size: 3}, "a"), inChunks(x.reader, x.now, api.Chunks{State: 1, Left: 3, Many: 2}, "ab"), inChunks(x.reader, x.now, api.Chunks{State: 3}, ""), amid(x.reader, x.now, api.Frame{Kind: 4}, "a")} {
			for _, other := range changed(r) {
				for _, third := range append(changed(other), other) {
					seen[valid(third)]++
					check(t, third, "abc\r\n\r\n")
				}
			}
		}
	}
	if seen[true] < 500 || seen[false] < 500 {
		t.Error("a test that does not say what it means", seen)
	}
}
