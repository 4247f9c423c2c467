package message_test

import (
	"fmt"
	"math"
	"strings"
	"testing"

	"lockage/api"
	"lockage/frame"
	"lockage/head"
	"lockage/message"
)

// headOf returns the head that the text is, without its end.
func headOf(t *testing.T, text string, answer bool) api.Head {
	t.Helper()
	h, e := head.Parse(text, answer)
	if e != api.OK {
		t.Fatalf("a test that does not say what it means: %q: %d", text, e)
	}
	return h
}

// longHead returns the text of a head of n bytes, without its end, that begins so.
func longHead(first string, n int) string {
	s := first
	for len(s) < n {
		k := min(n-len(s), 205)
		// What is left must hold a field too.
		if left := n - len(s) - k; 0 < left && left < 5 {
			k -= 5
		}
		s += "\r\nX: " + strings.Repeat("v", k-5)
	}
	return s
}

func TestJ2NotValid(t *testing.T) {
	for _, r := range []api.Reader{
		{Head: strings.Repeat("x", 2004)}, {Head: "\r\n\r\n"}, {Head: get}, {Head: "x", Body: "x"}, {Body: "x"}, {Frame: api.Frame{Size: 1}}, {Frame: api.Frame{Kind: 1}}, {Frame: api.Frame{Kind: 1}, Now: asking}, {Frame: api.Frame{Kind: 2, Size: 2}}, {Now: asking}, {Chunks: api.Chunks{Line: "x"}}, {E: 2, Head: "x"}, {E: 2, Body: "x"}, {E: 20, Now: asking}, {E: -1, Frame: api.Frame{Kind: 2, Size: 1}, Now: asking},
		{Frame: api.Frame{Kind: 2}, Now: asking}, {Frame: api.Frame{Kind: 2, Size: 2}, Now: asking, Body: "hi"}, {Frame: api.Frame{Kind: 2, Size: 4001}, Now: asking}, {Frame: api.Frame{Kind: 2, Size: 2}, Now: answering}, {Frame: api.Frame{Kind: 2, Size: 2}, Now: asking, Head: "x"}, {Frame: api.Frame{Kind: 4}, Now: asking}, {Answer: true, Frame: api.Frame{Kind: 4}, Now: answering, Body: letters(4001)}, {Answer: true, Frame: api.Frame{Kind: 4}, Now: asking}, {Answer: true, Asked: "GET", Frame: api.Frame{Kind: 5}, Now: answering},
		{Frame: api.Frame{Kind: 3}, Now: asking, Chunks: api.Chunks{State: 4}}, {Frame: api.Frame{Kind: 3}, Now: asking, Chunks: api.Chunks{State: 1}}, {Frame: api.Frame{Kind: 3}, Now: asking, Chunks: api.Chunks{Many: 1}}, {Frame: api.Frame{Kind: 3, Size: 1}, Now: asking}, {Now: api.Head{Fields: []api.Field{{Name: "A", Value: "b"}}}},
	} {
		wantRight(t, r, false)
		// With bytes that would be well, with others, and with none.
		for _, s := range []string{"", "x", "hi", "\n", "\r\n\r\n", get, post, fine, "0\r\n\r\n", letters(5000)} {
			wantFeed(t, r, s, r, api.ErrArg)
			check(t, r, s)
		}
	}
}

func TestJ2HadFailed(t *testing.T) {
	for _, e := range errors {
		for _, r := range []api.Reader{{E: e}, {Answer: true, E: e}, {Answer: true, Asked: "HEAD", E: e}} {
			for _, s := range []string{"", "x", "\r\n\r\n", get, post + post, fine, letters(5000)} {
				wantFeed(t, r, s, r, e)
			}
		}
	}
}

func TestJ2Empty(t *testing.T) {
	for _, x := range sides {
		for _, r := range []api.Reader{x.reader, begun(x.reader, "G"), begun(x.reader, "\r\n\r"), begun(x.reader, strings.Repeat("x", 2003)), amid(x.reader, x.now, api.Frame{Kind: 2, Size: 4000}, ""), amid(x.reader, x.now, api.Frame{Kind: 2, Size: 4000}, letters(3999)), inChunks(x.reader, x.now, api.Chunks{State: 1, Left: 2, Many: 1}, "a"), inChunks(x.reader, x.now, api.Chunks{State: 3, Line: "\r"}, "")} {
			wantFeed(t, r, "", r, api.OK)
		}
	}
	r := amid(responses("GET"), answering, api.Frame{Kind: 4}, letters(4000))
	wantFeed(t, r, "", r, api.OK)
}

// A message that is cut at each place: its head byte by byte, then its body.
func TestJ2EachPlace(t *testing.T) {
	for _, c := range []struct {
		r     api.Reader
		s     string
		frame api.Frame
		body  string
	}{
		{requests(), post, api.Frame{Kind: 2, Size: 2}, "hi"},
		{responses("GET"), fine, api.Frame{Kind: 2, Size: 3}, "yes"},
		{requests(), get, api.Frame{Kind: 1}, ""},
		{responses("GET"), nothing, api.Frame{Kind: 1}, ""},
		{requests(), "A b HTTP/1.0\r\ncontent-length:4\r\nX:y\r\n\r\n\r\n\r\n", api.Frame{Kind: 2, Size: 4}, "\r\n\r\n"},
	} {
		n := strings.Index(c.s, "\r\n\r\n")
		h := headOf(t, c.s[:n], c.r.Answer)
		n += 4
		for i := range c.s {
			switch {
			case i < n:
				wantFeed(t, c.r, c.s[:i], begun(c.r, c.s[:i]), api.OK)
				wantFeed(t, begun(c.r, c.s[:i]), c.s[i:], c.r, api.OK, api.Message{Head: h, Body: c.body})
			default:
				wantFeed(t, c.r, c.s[:i], amid(c.r, h, c.frame, c.s[n:i]), api.OK)
				wantFeed(t, amid(c.r, h, c.frame, c.s[n:i]), c.s[i:], c.r, api.OK, api.Message{Head: h, Body: c.body})
			}
		}
		wantFeed(t, c.r, c.s, c.r, api.OK, api.Message{Head: h, Body: c.body})
	}
}

func TestJ2WrongHeads(t *testing.T) {
	many := strings.Repeat("A: b\r\n", 20)
	for _, c := range []struct {
		answer bool
		s      string
		e      api.Errno
	}{
		{false, "", 20}, {false, "x", 20}, {false, "\r\nGET / HTTP/1.1", 20}, {false, "GET /", 20}, {false, "GET / HTTP/1.1 ", 20}, {false, "GET / http/1.1", 20}, {false, "G\x00T / HTTP/1.1", 20}, {false, "GET \x80 HTTP/1.1", 20}, {false, "HTTP/1.1 200 OK", 20}, {false, "GET / HTTP/1.1\n\nA: b", 20}, {false, "GET / HTTP/1.1\r", 20},
		{false, "GET / HTTP/2.0", 24}, {false, "GET / HTTP/1.2", 24}, {false, "GET / HTTP/0.9\r\nA", 24},
		{false, "GET / HTTP/1.1\r\nA", 21}, {false, "GET / HTTP/1.1\r\n A: b", 21}, {false, "GET / HTTP/1.1\r\nA : b", 21}, {false, "GET / HTTP/1.1\r\nA: b\r\nC: \x7f", 21}, {false, "GET / HTTP/1.1\r\n" + many + "A", 2}, {false, "GET / HTTP/1.1\r\n" + many + "A: b", 2}, {false, "GET / HTTP/1.1\r\nA: b\rC: d", 21}, {false, "GET / HTTP/1.1\r\nContent-Length", 21},
		{false, "GET / HTTP/1.1\r\nContent-Length: x", 22}, {false, "GET / HTTP/1.1\r\nContent-Length:", 22}, {false, "GET / HTTP/1.1\r\nContent-Length: -1", 22}, {false, "GET / HTTP/1.1\r\nContent-Length: 1\r\nContent-Length: 1", 22}, {false, "GET / HTTP/1.1\r\nContent-Length: 1\r\ntransfer-encoding: chunked", 22}, {false, "GET / HTTP/1.0\r\nTransfer-Encoding: chunked", 22}, {false, "GET / HTTP/1.1\r\nTransfer-Encoding: gzip", 22}, {false, "GET / HTTP/1.1\r\nTransfer-Encoding: chunked\r\nTransfer-Encoding: chunked", 22},
		{false, "GET / HTTP/1.1\r\nContent-Length: 4001", 2}, {false, "GET / HTTP/1.1\r\nContent-Length: 99999999999999999999999", 2}, {false, "GET / HTTP/1.1\r\nContent-Length: 4001\r\nA", 21},
		{true, "", 20}, {true, "x", 20}, {true, "HTTP/1.1 200", 20}, {true, "HTTP/1.1 20 OK", 20}, {true, "HTTP/1.1 099 OK", 20}, {true, "HTTP/1.1 600 OK", 20}, {true, "HTTP/1.1 200 \x01", 20}, {true, "GET / HTTP/1.1", 20}, {true, "HTTP/x.1 200 OK", 20},
		{true, "HTTP/2.0 200 OK", 24}, {true, "HTTP/1.3 200 OK", 24}, {true, "HTTP/3.0 999 OK", 24},
		{true, "HTTP/1.1 200 OK\r\nA", 21}, {true, "HTTP/1.1 200 OK\r\n: b", 21}, {true, "HTTP/1.1 200 OK\r\n" + many + "A: b", 2},
		{true, "HTTP/1.1 200 OK\r\nContent-Length: x", 22}, {true, "HTTP/1.1 204 OK\r\nContent-Length: x", 22}, {true, "HTTP/1.1 304 OK\r\nContent-Length: 1\r\nContent-Length: 1", 22}, {true, "HTTP/1.0 100 OK\r\nTransfer-Encoding: chunked", 22}, {true, "HTTP/1.1 200 OK\r\nContent-Length: 4001", 2}, {true, "HTTP/1.1 204 OK\r\nContent-Length: 4001", 2},
	} {
		for _, asked := range []string{"", "GET", "HEAD"} {
			r := message.New(c.answer, asked)
			wantError(t, r, c.s+"\r\n\r\n", c.e)
			for i := range len(c.s) + 4 {
				check(t, r, (c.s + "\r\n\r\n")[:i])
			}
			// A fault is not told till the head is at its end.
			if last := c.s + "\r\n\r"; !strings.Contains(last, "\r\n\r\n") {
				wantFeed(t, r, last, begun(r, last), api.OK)
			}
		}
	}
}

// The part of a head that is given may be of bytes that Feed would not have left there.
func TestJ2GivenHead(t *testing.T) {
	for _, c := range []struct {
		part, s string
		e       api.Errno
	}{
		{"GET / HTTP/1.1\r\n\r\nA", ": b\r\n\r\n", 21}, {"GET / HTTP/1.1\r\n\r\n\r", "\n", 21}, {"\r\n\r\n\r", "\n", 20}, {"x\r\n\r\n\r", "\n", 20}, {"\r\n\r", "\n", 20}, {"\r", "\n\r\n", 20}, {"GET / HTTP/1.1\r\nA: b\r\n\r\n\r\n\r", "\n", 21}, {"GET / HTTP/2.0\r\n\r\nA", "\r\n\r\n", 24},
	} {
		wantRight(t, begun(requests(), c.part), true)
		wantError(t, begun(requests(), c.part), c.s, c.e)
	}
	r := begun(requests(), "GET / HTTP/1.1\r\n\r\nA")
	wantFeed(t, r, "", r, api.OK)
	wantFeed(t, r, "\r\n\r", begun(r, "GET / HTTP/1.1\r\n\r\nA\r\n\r"), api.OK)
	wantFeed(t, begun(r, "GET / HTTP/1.1"), "\r\n\r\n", requests(), api.OK, api.Message{Head: asking})
}

// Only these four bytes end a head, in that order.
func TestJ2HeadEnds(t *testing.T) {
	rows := []string{""}
	for range 7 {
		var next []string
		for _, row := range rows {
			next = append(next, row+"\r", row+"\n", row+"x")
		}
		rows = next
	}
	ends := map[bool]int{}
	for _, row := range rows {
		for _, s := range []string{"GET / HTTP/1.1", "GET / HTTP/1.1\r\nA: ", ""} {
			for _, r := range []api.Reader{requests(), begun(requests(), s), responses("GET")} {
				check(t, r, s+row)
				check(t, r, row)
			}
			_, l, _ := message.Feed(requests(), s+row)
			ends[len(l) > 0]++
			// A value may have letters ahead of its end.
			end := row
			if strings.HasSuffix(s, " ") {
				end = strings.TrimLeft(row, "x")
			}
			if len(l) > 0 != (s != "" && strings.HasPrefix(end, "\r\n\r\n")) {
				t.Errorf("Feed of %q: %v", s+row, l)
			}
		}
	}
	if ends[true] < 50 || ends[false] < 50 {
		t.Error("a test that does not say what it means", ends)
	}
}

func TestJ2LongHeads(t *testing.T) {
	for _, x := range []struct {
		r     api.Reader
		first string
		frame int
	}{{requests(), "GET / HTTP/1.1", 1}, {responses("GET"), "HTTP/1.1 204 No", 1}, {responses("HEAD"), "HTTP/1.1 200 OK", 1}} {
		for n := 1996; n <= 2006; n++ {
			// With its end the head has four bytes more.
			text := longHead(x.first, n)
			if n <= 2000 {
				h := headOf(t, text, x.r.Answer)
				wantFeed(t, x.r, text+"\r\n\r\n", x.r, api.OK, api.Message{Head: h})
				wantFeed(t, x.r, text+"\r\n\r\nmore", begun(x.r, "more"), api.OK, api.Message{Head: h})
				wantFeed(t, begun(x.r, text+"\r\n\r"), "\n", x.r, api.OK, api.Message{Head: h})
			} else {
				wantError(t, x.r, text+"\r\n\r\n", api.ErrLong)
			}
			// Without its end, and with a part of it.
			for _, end := range []string{"", "\r", "\r\n", "\r\n\r", "\n", "xxxx", "\r\n\r\r", "\n\r\n\r"} {
				if len(text+end) <= 2003 {
					wantFeed(t, x.r, text+end, begun(x.r, text+end), api.OK)
				} else {
					wantError(t, x.r, text+end, api.ErrLong)
				}
			}
			// Whatever is wrong in it.
			for _, wrong := range []string{strings.Repeat("h", n), strings.Repeat("\r\n", n)[:n], strings.Repeat("\n", n), strings.Repeat("\x00", n)} {
				check(t, x.r, wrong)
				check(t, x.r, wrong+"\r\n\r\n")
			}
			wantError(t, x.r, strings.Repeat("h", n)+"\r\n\r\n", map[bool]api.Errno{true: 20, false: 2}[n <= 2000])
		}
	}
	full := begun(requests(), strings.Repeat("h", 2003))
	for c := range 256 {
		wantError(t, full, string([]byte{byte(c)}), api.ErrLong)
	}
	wantError(t, begun(requests(), strings.Repeat("h", 2000)), "\r\n\r ", api.ErrLong)
	wantError(t, begun(requests(), strings.Repeat("h", 2000)), "\r\n\r\n", api.ErrLine)
	wantError(t, requests(), strings.Repeat("h", 1000000), api.ErrLong)
}

func TestJ2NoBody(t *testing.T) {
	for _, first := range []string{"GET / HTTP/1.1", "POST / HTTP/1.0", "HEAD /x HTTP/1.1\r\nHost: y", "CONNECT a:1 HTTP/1.1", "x * HTTP/1.0\r\nConnection: close"} {
		m := api.Message{Head: headOf(t, first, false)}
		wantFeed(t, requests(), first+"\r\n\r\n", requests(), api.OK, m)
		wantFeed(t, requests(), first+"\r\n\r\nab", begun(requests(), "ab"), api.OK, m)
		// What Asked says is of no matter to requests.
		wantFeed(t, api.Reader{Asked: "HEAD"}, first+"\r\n\r\nab", api.Reader{Asked: "HEAD", Head: "ab"}, api.OK, m)
	}
}

func TestJ2Sized(t *testing.T) {
	for _, first := range []string{"POST / HTTP/1.1", "HTTP/1.1 200 OK", "HTTP/1.0 404 "} {
		answer := strings.HasPrefix(first, "HTTP")
		r := message.New(answer, "GET")
		for _, size := range []int{0, 1, 2, 3, 255, 256, 3999, 4000} {
			text := fmt.Sprintf("%s\r\ncontent-LENGTH: %06d", first, size)
			m := api.Message{Head: headOf(t, text, answer), Body: letters(size)}
			f := api.Frame{Kind: 2, Size: size}
			text += "\r\n\r\n"
			wantFeed(t, r, text+m.Body, r, api.OK, m)
			wantFeed(t, r, text+m.Body+"x", begun(r, "x"), api.OK, m)
			for _, n := range []int{0, 1, size / 2, size - 1} {
				if n < 0 || n >= size {
					continue
				}
				begun := amid(r, m.Head, f, m.Body[:n])
				wantFeed(t, r, text+m.Body[:n], begun, api.OK)
				wantFeed(t, begun, m.Body[n:], r, api.OK, m)
			}
		}
		wantError(t, r, first+"\r\nContent-Length: 4001\r\n\r\n", api.ErrLong)
	}
}

// A reader may be valid whose head tells of another body: it goes by its frame.
func TestJ2GivenFrame(t *testing.T) {
	for _, x := range sides {
		m := api.Message{Head: x.now, Body: "abc"}
		wantFeed(t, amid(x.reader, x.now, api.Frame{Kind: 2, Size: 3}, "a"), "bcd", begun(x.reader, "d"), api.OK, m)
		wantFeed(t, inChunks(x.reader, x.now, api.Chunks{State: 1, Left: 2, Many: 1}, "a"), "bc\r\n0\r\n\r\nd", begun(x.reader, "d"), api.OK, m)
		if x.reader.Answer {
			wantFeed(t, amid(x.reader, x.now, api.Frame{Kind: 4}, "a"), "bc\r\n\r\n", amid(x.reader, x.now, api.Frame{Kind: 4}, "abc\r\n\r\n"), api.OK)
		}
	}
}

func TestJ2Chunked(t *testing.T) {
	for _, first := range []string{"PUT / HTTP/1.1\r\nTransfer-Encoding: Chunked", "HTTP/1.1 200 OK\r\nTRANSFER-encoding:\tCHUNKED"} {
		answer := strings.HasPrefix(first, "HTTP")
		r, h := message.New(answer, "GET"), headOf(t, first, answer)
		text := first + "\r\n\r\n"
		for s, body := range map[string]string{"0\r\n\r\n": "", "3\r\nabc\r\n0\r\n\r\n": "abc", "1\r\na\r\n002 ;x=y\r\nbc\r\n00\r\nA: b\r\nC:\r\n\r\n": "abc", "4\r\n\r\n\r\n\r\n0\r\n\r\n": "\r\n\r\n", "5\r\n0\r\n\r\n\r\n0\r\n\r\n": "0\r\n\r\n", "fa0\r\n" + letters(4000) + "\r\n0\r\n\r\n": letters(4000), "fa0\r\n" + letters(4000) + "\r\n0\r\nA: b\r\n\r\n": letters(4000)} {
			m := api.Message{Head: h, Body: body}
			wantFeed(t, r, text+s, r, api.OK, m)
			wantFeed(t, r, text+s+"more", begun(r, "more"), api.OK, m)
			wantFeed(t, r, text+s+text+s, r, api.OK, m, m)
			for i := 0; i < len(s); i += 1 + len(s)/50 {
				check(t, r, text+s[:i])
			}
		}
		for s, want := range map[string]api.Reader{
			"":                        inChunks(r, h, api.Chunks{}, ""),
			"3":                       inChunks(r, h, api.Chunks{Line: "3"}, ""),
			"3\r":                     inChunks(r, h, api.Chunks{Line: "3\r"}, ""),
			"3\r\n":                   inChunks(r, h, api.Chunks{State: 1, Left: 3}, ""),
			"3\r\na":                  inChunks(r, h, api.Chunks{State: 1, Left: 2, Many: 1}, "a"),
			"3\r\nabc":                inChunks(r, h, api.Chunks{State: 2, Many: 3}, "abc"),
			"3\r\nabc\r":              inChunks(r, h, api.Chunks{State: 2, Line: "\r", Many: 3}, "abc"),
			"3\r\nabc\r\n":            inChunks(r, h, api.Chunks{Many: 3}, "abc"),
			"3\r\nabc\r\n0\r\n":       inChunks(r, h, api.Chunks{State: 3, Many: 3}, "abc"),
			"3\r\nabc\r\n0\r\nA: b\r": inChunks(r, h, api.Chunks{State: 3, Line: "A: b\r", Many: 3}, "abc"),
		} {
			wantFeed(t, r, text+s, want, api.OK)
			wantFeed(t, inChunks(r, h, api.Chunks{}, ""), s, want, api.OK)
		}
		for s, e := range map[string]api.Errno{"\r\n": 23, "x\r\n": 23, "-1\r\n": 23, "1\r\nab\r\n": 23, "1\r\na\r\n;\r\n": 23, "0\r\nA\r\n": 23, "fa1\r\n": 2, "fffffffffffffffffffff\r\n": 2, "1\r\na\r\nfa0\r\n": 2, strings.Repeat("0", 201): 2, "0\r\nA:" + strings.Repeat(" ", 199): 2} {
			wantError(t, r, text+s, e)
			wantError(t, r, text+"0\r\n\r\n"+text+s, e, api.Message{Head: h})
		}
	}
}

// A given chunk may be valid that goes beyond the limit of a body: the byte behind the limit leaves chunks that are not
// valid, and the next one is a failure.
func TestJ2ChunkBeyondTheBody(t *testing.T) {
	for _, x := range sides {
		for _, left := range []int{1, 2, 3, 4000} {
			for _, room := range []int{0, 1, 2} {
				body := letters(4000 - room)
				r := inChunks(x.reader, x.now, api.Chunks{State: 1, Left: left, Many: len(body)}, body)
				wantRight(t, r, true)
				check(t, r, "abc"[:room])
				check(t, r, "abc"[:room+1])
				check(t, r, letters(left)+"\r\n0\r\n\r\n")
				if left <= room {
					wantFeed(t, r, letters(left)+"\r\n0\r\n\r\n", x.reader, api.OK, api.Message{Head: x.now, Body: body + letters(left)})
					continue
				}
				c := api.Chunks{State: 1, Left: left - room - 1, Many: 4001}
				if c.Left == 0 {
					c.State = 2
				}
				beyond := inChunks(x.reader, x.now, c, body+"abc"[:room+1])
				wantFeed(t, r, "abc"[:room+1], beyond, api.OK)
				wantFeed(t, beyond, "x", beyond, api.ErrArg)
				wantError(t, r, "abcd"[:room+2], api.ErrArg)
				wantError(t, r, letters(left)+"\r\n0\r\n\r\n", api.ErrArg)
			}
		}
	}
}

func TestJ2ToEnd(t *testing.T) {
	for _, first := range []string{"HTTP/1.0 200 OK", "HTTP/1.1 404 Not Found\r\nConnection: close"} {
		h := headOf(t, first, true)
		for _, asked := range []string{"GET", "", "head", "HEAD "} {
			r := responses(asked)
			for _, n := range []int{0, 1, 4, 4000, 4001, 9000} {
				for _, body := range []string{letters(n), strings.Repeat("\r\n", n)[:n]} {
					if n > 4000 {
						wantError(t, r, first+"\r\n\r\n"+body, api.ErrLong)
						wantError(t, amid(r, h, api.Frame{Kind: 4}, body[:4000]), body[4000:], api.ErrLong)
						continue
					}
					wantFeed(t, r, first+"\r\n\r\n"+body, amid(r, h, api.Frame{Kind: 4}, body), api.OK)
					wantFeed(t, amid(r, h, api.Frame{Kind: 4}, body[:n/2]), body[n/2:], amid(r, h, api.Frame{Kind: 4}, body), api.OK)
				}
			}
		}
	}
}

// Which responses have no body, whatever their fields tell.
func TestJ2Bare(t *testing.T) {
	for status := 100; status <= 599; status++ {
		for _, asked := range []string{"GET", "HEAD", "", "head", "HEADS"} {
			r := responses(asked)
			for fields, body := range map[string]string{"": "", "\r\nContent-Length: 0": "", "\r\nContent-Length: 2": "hi", "\r\nTransfer-Encoding: chunked": "0\r\n\r\n"} {
				text := fmt.Sprintf("HTTP/1.1 %d Some%s", status, fields)
				h := headOf(t, text, true)
				text += "\r\n\r\n"
				empty := api.Message{Head: h}
				switch {
				case asked == "HEAD" || status < 200 || status == 204 || status == 304:
					wantFeed(t, r, text, r, api.OK, empty)
					wantFeed(t, r, text+text, r, api.OK, empty, empty)
					wantFeed(t, r, text+"hi", begun(r, "hi"), api.OK, empty)
				case fields == "":
					wantFeed(t, r, text+text, amid(r, h, api.Frame{Kind: 4}, text), api.OK)
				case body == "hi":
					wantFeed(t, r, text, amid(r, h, api.Frame{Kind: 2, Size: 2}, ""), api.OK)
					wantFeed(t, r, text+body, r, api.OK, api.Message{Head: h, Body: body})
				default:
					wantFeed(t, r, text+body, r, api.OK, empty)
				}
			}
		}
	}
}

func TestJ2Several(t *testing.T) {
	ask := []api.Message{
		{Head: asking},
		{Head: api.Head{Method: "POST", Target: "/", Minor: 1, Fields: []api.Field{{Name: "Content-Length", Value: "2"}}}, Body: "hi"},
		{Head: api.Head{Method: "PUT", Target: "/p", Minor: 1, Fields: []api.Field{{Name: "Transfer-Encoding", Value: "chunked"}}}, Body: "abc"},
	}
	told := []api.Message{
		{Head: api.Head{Status: 200, Reason: "OK", Minor: 1, Fields: []api.Field{{Name: "Content-Length", Value: "3"}}}, Body: "yes"},
		{Head: api.Head{Status: 200, Reason: "OK", Minor: 1, Fields: []api.Field{{Name: "Transfer-Encoding", Value: "chunked"}}}, Body: "abc"},
		{Head: api.Head{Status: 204, Reason: "No Content", Minor: 1}},
	}
	for _, c := range []struct {
		r        api.Reader
		texts    []string
		messages []api.Message
	}{{requests(), []string{get, post, put}, ask}, {responses("GET"), []string{fine, going, nothing}, told}} {
		for row := range 3 * 3 * 3 * 3 {
			s, l := "", []api.Message(nil)
			for k := row; k > 0; k /= 3 {
				s += c.texts[k%3]
				l = append(l, c.messages[k%3])
			}
			wantFeed(t, c.r, s, c.r, api.OK, l...)
			wantFeed(t, c.r, s+"PO", begun(c.r, "PO"), api.OK, l...)
			wantError(t, c.r, s+"x\r\n\r\n", api.ErrLine, l...)
			wantError(t, c.r, s+strings.Repeat("x", 2004), api.ErrLong, l...)
			if !c.r.Answer {
				wantError(t, c.r, s+"GET / HTTP/3.0\r\n\r\n", api.ErrVersion, l...)
				wantError(t, c.r, s+"GET / HTTP/1.0\r\nA\r\n\r\n", api.ErrField, l...)
				continue
			}
			wantFeed(t, c.r, s+open+get, amid(c.r, api.Head{Status: 200, Reason: "OK"}, api.Frame{Kind: 4}, get), api.OK, l...)
			wantError(t, c.r, s+"HTTP/1.1 200 OK\r\nContent-Length: 1, 1\r\n\r\n", api.ErrFrame, l...)
			wantError(t, c.r, s+"HTTP/1.1 200 OK\r\nTransfer-Encoding: chunked\r\n\r\n1\r\na\r\nz\r\n", api.ErrChunk, l...)
		}
	}
	// As many as may be.
	r, l, e := message.Feed(requests(), strings.Repeat(get+post+put, 1000))
	if !zero(r) || len(l) != 3000 || e != api.OK || !sameMessage(l[2999], ask[2]) || !sameMessage(l[1500], ask[0]) {
		t.Errorf("Feed: %s, %d messages, %d", tell(r), len(l), e)
	}
}

// A reader that starts anew keeps what it reads.
func TestJ2Anew(t *testing.T) {
	for _, asked := range []string{"HEAD", "GET", "", "\xff"} {
		r := responses(asked)
		got, l, e := message.Feed(r, fine[:len(fine)-3]+nothing)
		if e == api.OK && (got.Asked != asked || !got.Answer) || asked == "HEAD" && len(l) != 2 {
			t.Errorf("Feed: %s %d", tell(got), e)
		}
		check(t, r, fine[:len(fine)-3]+nothing)
		got, _, e = message.Feed(r, "x\r\n\r\n")
		if e != api.ErrLine || !sameReader(got, api.Reader{Answer: true, Asked: asked, E: 20}) {
			t.Errorf("Feed: %s %d", tell(got), e)
		}
	}
}

// Each byte, at each kind of place.
func TestJ2Bytes(t *testing.T) {
	for c := range 256 {
		b := string([]byte{byte(c)})
		wantFeed(t, requests(), b, begun(requests(), b), api.OK)
		wantFeed(t, amid(requests(), asking, api.Frame{Kind: 2, Size: 2}, ""), b+b+b, begun(requests(), b), api.OK, api.Message{Head: asking, Body: b + b})
		wantFeed(t, amid(responses("GET"), answering, api.Frame{Kind: 4}, b), b, amid(responses("GET"), answering, api.Frame{Kind: 4}, b+b), api.OK)
		wantFeed(t, inChunks(requests(), asking, api.Chunks{State: 1, Left: 2}, ""), b, inChunks(requests(), asking, api.Chunks{State: 1, Left: 1, Many: 1}, b), api.OK)
		for _, s := range []string{get, post, put} {
			for i := range s {
				check(t, requests(), s[:i]+b+s[i:])
				check(t, requests(), s[:i]+b+s[i+1:])
			}
		}
		for _, s := range []string{fine, going, nothing, open} {
			for i := range s {
				check(t, responses("GET"), s[:i]+b+s[i:])
				check(t, responses("HEAD"), s[:i]+b+s[i+1:])
			}
		}
	}
}

// Each row of a few pieces that matter.
func TestJ2ShortRows(t *testing.T) {
	pieces := []string{"GET / HTTP/1.1", "HTTP/1.1 200 OK", "\r\n", "\r\n\r\n", "Content-Length: 2", "Transfer-Encoding: chunked", "hi", "0", "\r", "\n"}
	var rows []string
	for length := range 5 {
		// The digits of each number, with as many as the row has pieces, tell the row.
		for number := range int(math.Pow10(length)) {
			row := ""
			for _, digit := range fmt.Sprintf("%0*d", length, number)[:length] {
				row += pieces[digit-'0']
			}
			rows = append(rows, row)
		}
	}
	for _, row := range rows {
		for _, s := range []string{row, "GET / HTTP/1.1\r\n" + row, "HTTP/1.1 200 OK\r\n" + row} {
			check(t, requests(), s)
			check(t, responses("GET"), s)
		}
	}
}

// The frames that layer 7 tells of are those that the reader has.
func TestJ2Frames(t *testing.T) {
	for _, fields := range []string{"", "\r\nContent-Length: 1", "\r\nContent-Length: 4000", "\r\nContent-Length: 0004", "\r\nTransfer-Encoding: chunked", "\r\nTRANSFER-ENCODING: chunkeD", "\r\nA: b"} {
		for _, x := range []struct {
			r     api.Reader
			first string
		}{{requests(), "GET / HTTP/1.1"}, {responses("GET"), "HTTP/1.1 200 OK"}} {
			h := headOf(t, x.first+fields, x.r.Answer)
			f, e := frame.Request(h)
			if x.r.Answer {
				f, e = frame.Answer(h, "GET")
			}
			got, l, _ := message.Feed(x.r, x.first+fields+"\r\n\r\n")
			if f.Kind == api.NoBody {
				f = api.Frame{}
			}
			if got.Frame != f || e != api.OK || (len(l) == 1) != (f == api.Frame{}) {
				t.Errorf("%s%s: %s %s, want %v", x.first, fields, tell(got), tell(l), f)
			}
		}
	}
}
