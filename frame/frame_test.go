package frame_test

import (
	"fmt"
	"math"
	"math/big"
	"math/rand/v2"
	"regexp"
	"slices"
	"strings"
	"testing"

	"lockage/api"
	"lockage/frame"
	"lockage/head"
)

// What the chapter says of names and values, once more, as patterns.
var (
	aLength = regexp.MustCompile(`^[0-9]+$`)
	aCoding = regexp.MustCompile(`^[Cc][Hh][Uu][Nn][Kk][Ee][Dd]$`)

	lengthName     = regexp.MustCompile(`^[Cc][Oo][Nn][Tt][Ee][Nn][Tt]-[Ll][Ee][Nn][Gg][Tt][Hh]$`)
	codingName     = regexp.MustCompile(`^[Tt][Rr][Aa][Nn][Ss][Ff][Ee][Rr]-[Ee][Nn][Cc][Oo][Dd][Ii][Nn][Gg]$`)
	connectionName = regexp.MustCompile(`^[Cc][Oo][Nn][Nn][Ee][Cc][Tt][Ii][Oo][Nn]$`)

	closeItem = regexp.MustCompile(`(^|,)[\t ]*[Cc][Ll][Oo][Ss][Ee][\t ]*(,|$)`)
	keepItem  = regexp.MustCompile(`(^|,)[\t ]*[Kk][Ee][Ee][Pp]-[Aa][Ll][Ii][Vv][Ee][\t ]*(,|$)`)
)

const (
	length = "Content-Length"
	coding = "Transfer-Encoding"
)

var (
	noBody     = api.Frame{Kind: 1}
	inChunks   = api.Frame{Kind: 3}
	toEnd      = api.Frame{Kind: 4}
	allMethods = []string{"HEAD", "head", "Head", "HEAD ", " HEAD", "HEADS", "HEA", "GET", "POST", "CONNECT", "", "\x00", "H\u00c9AD", strings.Repeat("HEAD", 1000)}
)

// inSize returns the frame of a body of n bytes.
func inSize(n int) api.Frame { return api.Frame{Kind: 2, Size: n} }

// one returns the string of that byte alone, whatever it is in UTF-8.
func one(c int) string { return string([]byte{byte(c)}) }

// many returns a string of n letters.
func many(n int) string { return strings.Repeat("v", n) }

// fields returns the fields of these names and values, by turns.
func fields(l ...string) []api.Field {
	var out []api.Field
	for i := 0; i < len(l); i += 2 {
		out = append(out, api.Field{Name: l[i], Value: l[i+1]})
	}
	return out
}

// fill returns n valid fields that tell nothing of a body or a connection.
func fill(n int) []api.Field {
	var l []api.Field
	for i := range n {
		l = append(l, api.Field{Name: fmt.Sprintf("X-%d", i), Value: fmt.Sprint(i)})
	}
	return l
}

// request returns the head of a request with these fields.
func request(l ...api.Field) api.Head {
	return api.Head{Method: "POST", Target: "/", Minor: 1, Fields: l}
}

// response returns the head of a response with these fields.
func response(status int, l ...api.Field) api.Head {
	return api.Head{Status: status, Reason: "So", Minor: 1, Fields: l}
}

// framing says what the chapter says of the framing of the fields, and whether there is one.
func framing(h api.Head) (f api.Frame, e api.Errno, there bool) {
	var codings, lengths []string
	for _, f := range h.Fields {
		if codingName.MatchString(f.Name) {
			codings = append(codings, f.Value)
		}
		if lengthName.MatchString(f.Name) {
			lengths = append(lengths, f.Value)
		}
	}
	switch {
	case len(codings) == 0 && len(lengths) == 0:
		return f, 0, false
	case len(codings) == 0 && len(lengths) == 1 && aLength.MatchString(lengths[0]):
		n, _ := new(big.Int).SetString(lengths[0], 10)
		if n.Cmp(big.NewInt(4000)) > 0 {
			return f, 2, true
		}
		return inSize(int(n.Int64())), 0, true
	case len(codings) == 1 && len(lengths) == 0 && h.Minor == 1 && aCoding.MatchString(codings[0]):
		return inChunks, 0, true
	}
	return f, 22, true
}

// requested says G1 once more.
func requested(h api.Head) (api.Frame, api.Errno) {
	if !head.Right(h, false) {
		return api.Frame{}, 1
	}
	f, e, there := framing(h)
	if !there {
		return noBody, 0
	}
	return f, e
}

// answered says G2 once more.
func answered(h api.Head, method string) (api.Frame, api.Errno) {
	if !head.Right(h, true) {
		return api.Frame{}, 1
	}
	f, e, there := framing(h)
	switch {
	case e != 0:
		return api.Frame{}, e
	case method == "HEAD", h.Status < 200, h.Status == 204, h.Status == 304:
		return noBody, 0
	case !there:
		return toEnd, 0
	}
	return f, 0
}

// stays says G3 once more.
func stays(h api.Head) bool {
	kept := h.Minor == 1
	for _, f := range h.Fields {
		if connectionName.MatchString(f.Name) {
			if closeItem.MatchString(f.Value) {
				return false
			}
			kept = kept || keepItem.MatchString(f.Value)
		}
	}
	return kept
}

func wantRequest(t *testing.T, h api.Head, want api.Frame, wantE api.Errno) {
	t.Helper()
	if f, e := frame.Request(h); f != want || e != wantE {
		t.Errorf("Request(%#v): %v %d, want %v %d", h, f, e, want, wantE)
	}
}

func wantAnswer(t *testing.T, h api.Head, method string, want api.Frame, wantE api.Errno) {
	t.Helper()
	if f, e := frame.Answer(h, method); f != want || e != wantE {
		t.Errorf("Answer(%#v, %q): %v %d, want %v %d", h, method, f, e, want, wantE)
	}
}

func wantStays(t *testing.T, h api.Head, want bool) {
	t.Helper()
	if got := frame.Stays(h); got != want {
		t.Errorf("Stays(%#v): %v", h, got)
	}
}

// wantFraming holds both calls against a framing of the fields l, and against its error.
func wantFraming(t *testing.T, minor int, l []api.Field, want api.Frame, wantE api.Errno) {
	t.Helper()
	h := request(l...)
	h.Minor = minor
	wantRequest(t, h, want, wantE)
	h = response(200, l...)
	h.Minor = minor
	wantAnswer(t, h, "GET", want, wantE)
}

// wantNone holds both calls against fields that are no framing.
func wantNone(t *testing.T, l ...api.Field) {
	t.Helper()
	for minor := range 2 {
		h := request(l...)
		h.Minor = minor
		wantRequest(t, h, noBody, api.OK)
		h = response(200, l...)
		h.Minor = minor
		wantAnswer(t, h, "GET", toEnd, api.OK)
	}
}

// check holds all calls, of a request and a response with the fields l, against G1 to G4.
func check(t *testing.T, minor int, l []api.Field) {
	t.Helper()
	h := request(l...)
	h.Minor = minor
	checkHead(t, h)
	for _, status := range []int{199, 200, 204, 304} {
		h = response(status, l...)
		h.Minor = minor
		checkHead(t, h)
	}
}

// checkHead holds all calls against G1 to G4.
func checkHead(t *testing.T, h api.Head) {
	t.Helper()
	f, e := requested(h)
	wantRequest(t, h, f, e)
	for _, method := range []string{"GET", "HEAD", ""} {
		f, e = answered(h, method)
		wantAnswer(t, h, method, f, e)
	}
	wantStays(t, h, stays(h))
	checkTheorem(t, h)
}

// checkTheorem holds what the calls return against G4.
func checkTheorem(t *testing.T, h api.Head) {
	t.Helper()
	f, e := frame.Request(h)
	codings, lengths := 0, 0
	for _, f := range h.Fields {
		if codingName.MatchString(f.Name) {
			codings++
		}
		if lengthName.MatchString(f.Name) {
			lengths++
		}
	}
	accepted := e == api.OK
	if !accepted && f != (api.Frame{}) {
		t.Errorf("%#v: %v beside the error %d", h, f, e)
	}
	if accepted && f.Kind != api.NoBody && f.Kind != api.Sized && f.Kind != api.Chunked {
		t.Errorf("%#v: a request has the kind %d", h, f.Kind)
	}
	if f.Kind != api.Sized && f.Size != 0 {
		t.Errorf("%#v: the kind %d has the size %d", h, f.Kind, f.Size)
	}
	if accepted && codings+lengths > 1 {
		t.Errorf("%#v: accepted with %d codings and %d lengths", h, codings, lengths)
	}
	if _, e := frame.Answer(h, "GET"); lengths > 1 && e == api.OK {
		t.Errorf("%#v: a response is accepted with %d lengths", h, lengths)
	}
}

// cases returns s with each mixture of capital and small letters.
func cases(s string) []string {
	out := []string{""}
	for i := range len(s) {
		var next []string
		small, capital := strings.ToLower(s[i:i+1]), strings.ToUpper(s[i:i+1])
		for _, begun := range out {
			next = append(next, begun+small)
			if capital != small {
				next = append(next, begun+capital)
			}
		}
		out = next
	}
	return out
}

// spellings returns ways to write a name: in small letters, in capitals, by turns, and with one letter unlike the others.
func spellings(name string) []string {
	small, capital := strings.ToLower(name), strings.ToUpper(name)
	out := []string{name, small, capital}
	turns := ""
	for i := range len(name) {
		out = append(out, small[:i]+capital[i:i+1]+small[i+1:], capital[:i]+small[i:i+1]+capital[i+1:])
		turns += []string{small, capital}[i%2][i : i+1]
	}
	return append(out, turns)
}

func TestLimits(t *testing.T) {
	if api.MaxBody != 4000 || api.NoBody != 1 || api.Sized != 2 || api.Chunked != 3 || api.ToEnd != 4 {
		t.Error("the limit and the kinds are those of the chapter")
	}
	if api.OK != 0 || api.ErrArg != 1 || api.ErrLong != 2 || api.ErrFrame != 22 {
		t.Error("the errors' numbers are those of the chapter")
	}
}

func TestExamples(t *testing.T) {
	wantFraming(t, 1, fields("Content-Length", "3"), inSize(3), api.OK)
	wantFraming(t, 1, fields("Content-Length", "3", "Content-Length", "3"), api.Frame{}, api.ErrFrame)
}

func TestG1NotValid(t *testing.T) {
	for i, change := range []func(h *api.Head){
		func(h *api.Head) { h.Method = "" },
		func(h *api.Head) { h.Method = "G T" },
		func(h *api.Head) { h.Method = many(41) },
		func(h *api.Head) { h.Target = "" },
		func(h *api.Head) { h.Target = "/ " },
		func(h *api.Head) { h.Target = many(201) },
		func(h *api.Head) { h.Status = 200 },
		func(h *api.Head) { h.Status = -1 },
		func(h *api.Head) { h.Reason = "OK" },
		func(h *api.Head) { h.Minor = 2 },
		func(h *api.Head) { h.Minor = -1 },
		func(h *api.Head) { h.Minor = math.MaxInt },
		func(h *api.Head) { h.Fields = append(h.Fields, fill(21)...) },
		func(h *api.Head) { h.Fields = append(h.Fields, api.Field{}) },
		func(h *api.Head) { h.Fields = append(h.Fields, api.Field{Name: "a b"}) },
		func(h *api.Head) { h.Fields = append(h.Fields, api.Field{Name: "a", Value: " b"}) },
		func(h *api.Head) { h.Fields = append(h.Fields, api.Field{Name: "a", Value: "b\r\nc"}) },
		func(h *api.Head) { h.Fields = append(h.Fields, api.Field{Name: "a", Value: many(201)}) },
		func(h *api.Head) { *h = response(200, h.Fields...) },
		func(h *api.Head) { *h = api.Head{Fields: h.Fields} },
	} {
		// With no framing, with one, and with errors of which the promise names ErrArg first.
		for _, l := range [][]api.Field{nil, fields(length, "3"), fields(coding, "chunked"), fields(length, "4001"), fields(length, "x"), fields(coding, "gzip")} {
			h := request(l...)
			change(&h)
			if head.Right(h, false) {
				t.Fatalf("%d: a test that does not say what it means", i)
			}
			wantRequest(t, h, api.Frame{}, api.ErrArg)
		}
	}
	wantRequest(t, api.Head{}, api.Frame{}, api.ErrArg)
	// A length or a coding that is not a valid value makes the whole head one that is not valid.
	for _, s := range []string{" 3", "3 ", "\t3", "3\r", "3\n", "3\x00", "\u0663", "chunked ", " chunked", "chun\u212aed", strings.Repeat("0", 201)} {
		for _, name := range []string{length, coding} {
			wantRequest(t, request(fields(name, s)...), api.Frame{}, api.ErrArg)
			wantAnswer(t, response(200, fields(name, s)...), "GET", api.Frame{}, api.ErrArg)
		}
	}
}

func TestG1NoFraming(t *testing.T) {
	wantNone(t)
	wantNone(t, []api.Field{}...)
	wantNone(t, fill(20)...)
	for _, name := range []string{"Content-Lengt", "Content-Lengths", "XContent-Length", "ontent-Length", "Content_Length", "ContentLength", "Content--Length", "Content", "Length", "Transfer-Encodin", "Transfer-Encodings", "XTransfer-Encoding", "ransfer-Encoding", "Transfer_Encoding", "TransferEncoding", "Transfer", "Encoding", "Content-Encoding", "Transfer-Length", "TE", "Trailer", "Connection", "Host"} {
		for _, value := range []string{"", "3", "chunked", "x", "99999", length + ": 3"} {
			wantNone(t, fields(name, value)...)
			wantNone(t, fields(name, value, name, value)...)
		}
	}
	// Methods that mostly have a body, or have none, are alike.
	for _, method := range []string{"GET", "HEAD", "POST", "get", "CONNECT", "TRACE", "~"} {
		h := request()
		h.Method = method
		wantRequest(t, h, noBody, api.OK)
		h.Fields = fields(length, "3")
		wantRequest(t, h, inSize(3), api.OK)
		h.Fields = fields(coding, "chunked")
		wantRequest(t, h, inChunks, api.OK)
	}
}

func TestG1Chunked(t *testing.T) {
	for _, s := range cases("chunked") {
		wantFraming(t, 1, fields(coding, s), inChunks, api.OK)
		wantFraming(t, 0, fields(coding, s), api.Frame{}, api.ErrFrame)
	}
	for _, s := range []string{"", "c", "chunke", "hunked", "chunkedd", "cchunked", "chunkes", "ch unked", "chunked;", "chunked;a=b", "\"chunked\"", "(chunked)", "identity", "gzip", "deflate", "3", "0", ",", "chunked,", ",chunked", "chunked, chunked", "chunked,chunked", "chunked chunked", "gzip, chunked", "gzip,chunked", "chunked, gzip", "identity, chunked", "chunked\tx", "x-chunked", many(200)} {
		for minor := range 2 {
			wantFraming(t, minor, fields(coding, s), api.Frame{}, api.ErrFrame)
		}
	}
	for _, l := range []int{0, 1, 5, 18} {
		wantFraming(t, 1, slices.Concat(fill(l), fields(coding, "chunked"), fill(1)), inChunks, api.OK)
	}
}

func TestG1ChunkedTwiceOrWithLength(t *testing.T) {
	for _, a := range []string{"chunked", "CHUNKED", "gzip", "identity", ""} {
		for _, b := range []string{"chunked", "Chunked", "gzip", ""} {
			for minor := range 2 {
				for _, between := range []int{0, 1, 18} {
					wantFraming(t, minor, slices.Concat(fields(coding, a), fill(between), fields(coding, b)), api.Frame{}, api.ErrFrame)
				}
				wantFraming(t, minor, fields(coding, a, "transfer-encoding", b, "TRANSFER-ENCODING", a), api.Frame{}, api.ErrFrame)
			}
		}
		for _, b := range []string{"0", "3", "4000", "4001", "99999999999999999999", "x", ""} {
			for minor := range 2 {
				for _, between := range []int{0, 1, 18} {
					wantFraming(t, minor, slices.Concat(fields(coding, a), fill(between), fields(length, b)), api.Frame{}, api.ErrFrame)
					wantFraming(t, minor, slices.Concat(fields(length, b), fill(between), fields(coding, a)), api.Frame{}, api.ErrFrame)
				}
				wantFraming(t, minor, fields(length, b, coding, a, length, b), api.Frame{}, api.ErrFrame)
			}
		}
	}
}

func TestG1Sized(t *testing.T) {
	for n := range 4001 {
		for minor := range 2 {
			wantFraming(t, minor, fields(length, fmt.Sprint(n)), inSize(n), api.OK)
		}
	}
	for n := 4001; n <= 70000; n++ {
		wantFraming(t, 1, fields(length, fmt.Sprint(n)), api.Frame{}, api.ErrLong)
	}
	for _, l := range []int{0, 1, 5, 18} {
		wantFraming(t, 1, slices.Concat(fill(l), fields(length, "12"), fill(1)), inSize(12), api.OK)
	}
}

func TestG1LeadingZeros(t *testing.T) {
	for n, want := range map[string]int{"0": 0, "1": 1, "9": 9, "3999": 3999, "4000": 4000} {
		for _, zeros := range []int{1, 2, 5, 16, 17, 60, 100, 200 - len(n)} {
			wantFraming(t, 1, fields(length, strings.Repeat("0", zeros)+n), inSize(want), api.OK)
		}
	}
	for _, n := range []string{"4001", "4010", "5000", "10000", "40000"} {
		for _, zeros := range []int{1, 2, 5, 16, 17, 60, 100, 200 - len(n)} {
			wantFraming(t, 1, fields(length, strings.Repeat("0", zeros)+n), api.Frame{}, api.ErrLong)
		}
	}
}

func TestG1NotALength(t *testing.T) {
	for _, s := range []string{"", "x", "a", "f", "F", "0x3", "3x", "x3", "1f", "1e3", "+3", "-3", "-0", "+0", "+", "-", "3.0", "3.", ".3", "3,3", "3, 3", ",", "3,", ",3", "3 3", "4 000", "4\t000", "4_000", "4,000", "4'000", "3;", "\"3\"", "3-4", "chunked", "99999999999999999999x", "x99999999999999999999", "99999999999999999999, 3", "-4001", "-99999999999999999999", "4001x", strings.Repeat("9", 199) + "x", "x" + strings.Repeat("9", 199)} {
		for minor := range 2 {
			wantFraming(t, minor, fields(length, s), api.Frame{}, api.ErrFrame)
		}
	}
}

func TestG1TooLarge(t *testing.T) {
	edges := []string{strings.Repeat("9", 200), "1" + strings.Repeat("0", 199), strings.Repeat("0", 100) + strings.Repeat("9", 100)}
	for _, power := range []uint{12, 13, 15, 16, 31, 32, 33, 52, 53, 54, 62, 63, 64, 65, 127, 128, 129, 256} {
		for d := int64(-2); d <= 4000; d += 100 {
			n := new(big.Int).Lsh(big.NewInt(1), power)
			edges = append(edges, n.Add(n, big.NewInt(d)).String())
		}
	}
	for _, s := range edges {
		n, _ := new(big.Int).SetString(s, 10)
		if n.Cmp(big.NewInt(4000)) <= 0 {
			t.Fatalf("%s: a test that does not say what it means", s)
		}
		for minor := range 2 {
			wantFraming(t, minor, fields(length, s), api.Frame{}, api.ErrLong)
		}
	}
}

func TestG1TwoLengths(t *testing.T) {
	values := []string{"0", "3", "03", "4000", "4001", "99999999999999999999", "", "x", "3, 3"}
	for _, a := range values {
		for _, b := range values {
			for _, between := range []int{0, 1, 18} {
				wantFraming(t, 1, slices.Concat(fields(length, a), fill(between), fields(length, b)), api.Frame{}, api.ErrFrame)
			}
			wantFraming(t, 0, fields(length, a, "content-length", b), api.Frame{}, api.ErrFrame)
			wantFraming(t, 1, fields("CONTENT-LENGTH", a, length, b, length, a), api.Frame{}, api.ErrFrame)
		}
	}
	var l []api.Field
	for range 20 {
		l = append(l, fields(length, "3")...)
	}
	wantFraming(t, 1, l, api.Frame{}, api.ErrFrame)
}

func TestG1Names(t *testing.T) {
	for _, name := range spellings(length) {
		wantFraming(t, 1, fields(name, "3"), inSize(3), api.OK)
		wantFraming(t, 1, fields(name, "4001"), api.Frame{}, api.ErrLong)
		wantFraming(t, 1, fields(name, "3", length, "3"), api.Frame{}, api.ErrFrame)
		wantFraming(t, 1, fields(coding, "chunked", name, "3"), api.Frame{}, api.ErrFrame)
	}
	for _, name := range spellings(coding) {
		wantFraming(t, 1, fields(name, "chunked"), inChunks, api.OK)
		wantFraming(t, 1, fields(name, "gzip"), api.Frame{}, api.ErrFrame)
		wantFraming(t, 1, fields(name, "chunked", coding, "chunked"), api.Frame{}, api.ErrFrame)
		wantFraming(t, 1, fields(length, "3", name, "chunked"), api.Frame{}, api.ErrFrame)
	}
}

func TestG1Bytes(t *testing.T) {
	for c := range 256 {
		for _, s := range []string{one(c), "1" + one(c), one(c) + "1", "1" + one(c) + "1", "000" + one(c) + "00"} {
			check(t, 1, fields(length, s))
		}
		for at := range len("chunked") + 1 {
			check(t, 1, fields(coding, "chunked"[:at]+one(c)+"chunked"[at:]))
			if at < len("chunked") {
				check(t, 1, fields(coding, "chunked"[:at]+one(c)+"chunked"[at+1:]))
			}
		}
		for _, name := range []string{length, coding} {
			for at := range len(name) {
				for _, value := range []string{"3", "chunked"} {
					check(t, 1, fields(name[:at]+one(c)+name[at+1:], value))
				}
			}
		}
	}
}

func TestG2NotValid(t *testing.T) {
	for i, change := range []func(h *api.Head){
		func(h *api.Head) { h.Method = "GET" },
		func(h *api.Head) { h.Method = "HEAD" },
		func(h *api.Head) { h.Target = "/" },
		func(h *api.Head) { h.Status = 0 },
		func(h *api.Head) { h.Status = 99 },
		func(h *api.Head) { h.Status = 600 },
		func(h *api.Head) { h.Status = -204 },
		func(h *api.Head) { h.Status = math.MinInt },
		func(h *api.Head) { h.Reason = "a\nb" },
		func(h *api.Head) { h.Reason = many(201) },
		func(h *api.Head) { h.Minor = 2 },
		func(h *api.Head) { h.Minor = -1 },
		func(h *api.Head) { h.Fields = append(h.Fields, fill(21)...) },
		func(h *api.Head) { h.Fields = append(h.Fields, api.Field{}) },
		func(h *api.Head) { h.Fields = append(h.Fields, api.Field{Name: "a", Value: "b "}) },
		func(h *api.Head) { h.Fields = append(h.Fields, api.Field{Name: "(a)", Value: "b"}) },
		func(h *api.Head) { *h = request(h.Fields...) },
		func(h *api.Head) { *h = api.Head{Fields: h.Fields} },
	} {
		for _, l := range [][]api.Field{nil, fields(length, "3"), fields(coding, "chunked"), fields(length, "4001"), fields(length, "x"), fields(coding, "gzip")} {
			for _, status := range []int{100, 200, 204, 304, 599} {
				h := response(status, l...)
				change(&h)
				if head.Right(h, true) {
					t.Fatalf("%d: a test that does not say what it means", i)
				}
				for _, method := range allMethods {
					wantAnswer(t, h, method, api.Frame{}, api.ErrArg)
				}
			}
		}
	}
	wantAnswer(t, api.Head{}, "HEAD", api.Frame{}, api.ErrArg)
}

func TestG2StatusAndMethod(t *testing.T) {
	for _, c := range []struct {
		l    []api.Field
		want api.Frame
	}{
		{nil, toEnd},
		{fields("A", "b"), toEnd},
		{fields(length, "0"), inSize(0)},
		{fields(length, "3"), inSize(3)},
		{fields(length, "4000"), inSize(4000)},
		{fields(coding, "chunked"), inChunks},
		{fields(coding, "CHUNKED"), inChunks},
	} {
		for _, status := range []int{200, 203, 205, 303, 305, 599} {
			for _, method := range allMethods {
				want := c.want
				if method == "HEAD" {
					want = noBody
				}
				wantAnswer(t, response(status, c.l...), method, want, api.OK)
			}
		}
		for _, status := range []int{100, 199, 204, 304} {
			for _, method := range allMethods {
				wantAnswer(t, response(status, c.l...), method, noBody, api.OK)
			}
		}
		for status := 100; status <= 599; status++ {
			want := c.want
			if status < 200 || status == 204 || status == 304 {
				want = noBody
			}
			wantAnswer(t, response(status, c.l...), "GET", want, api.OK)
			wantAnswer(t, response(status, c.l...), "HEAD", noBody, api.OK)
		}
	}
}

func TestG2ErrorsAheadOfNoBody(t *testing.T) {
	for _, c := range []struct {
		minor int
		l     []api.Field
		want  api.Errno
	}{
		{1, fields(length, "x"), api.ErrFrame},
		{1, fields(length, ""), api.ErrFrame},
		{1, fields(length, "3", length, "3"), api.ErrFrame},
		{1, fields(length, "4001", length, "4001"), api.ErrFrame},
		{1, fields(length, "3", coding, "chunked"), api.ErrFrame},
		{1, fields(length, "4001", coding, "chunked"), api.ErrFrame},
		{1, fields(coding, "gzip"), api.ErrFrame},
		{1, fields(coding, "chunked", coding, "chunked"), api.ErrFrame},
		{0, fields(coding, "chunked"), api.ErrFrame},
		{0, fields(length, "4001"), api.ErrLong},
		{1, fields(length, "4001"), api.ErrLong},
		{1, fields(length, "99999999999999999999"), api.ErrLong},
	} {
		for _, status := range []int{100, 101, 199, 200, 203, 204, 205, 303, 304, 305, 404, 599} {
			for _, method := range allMethods {
				h := response(status, c.l...)
				h.Minor = c.minor
				wantAnswer(t, h, method, api.Frame{}, c.want)
			}
		}
	}
}

// connections returns fields named Connection with these values.
func connections(values ...string) []api.Field {
	var l []api.Field
	for _, value := range values {
		l = append(l, fields("Connection", value)...)
	}
	return l
}

// What Connection fields tell: that it closes, that it stays, or nothing, so that Minor tells it.
const (
	closes = iota
	keeps
	nothing
)

func TestG3(t *testing.T) {
	for _, c := range []struct {
		values []string
		tells  int
	}{
		{nil, nothing}, {[]string{""}, nothing}, {[]string{"", ""}, nothing}, {[]string{","}, nothing}, {[]string{" , ,\t,"}, nothing},
		{[]string{"close"}, closes}, {[]string{"Close"}, closes}, {[]string{"CLOSE"}, closes}, {[]string{"cLoSe"}, closes},
		{[]string{"keep-alive"}, keeps}, {[]string{"Keep-Alive"}, keeps}, {[]string{"KEEP-ALIVE"}, keeps}, {[]string{"kEEp-aLIVe"}, keeps},
		{[]string{"close, keep-alive"}, closes}, {[]string{"keep-alive, close"}, closes}, {[]string{"keep-alive,close"}, closes}, {[]string{"close,keep-alive"}, closes},
		{[]string{"close", "keep-alive"}, closes}, {[]string{"keep-alive", "close"}, closes}, {[]string{"keep-alive", "upgrade", "a, CLOSE"}, closes}, {[]string{"a, Keep-Alive", "close", "b"}, closes},
		{[]string{"upgrade"}, nothing}, {[]string{"upgrade", "te"}, nothing}, {[]string{"te, upgrade"}, nothing},
		{[]string{"upgrade, close"}, closes}, {[]string{"close, upgrade"}, closes}, {[]string{"upgrade", "close"}, closes}, {[]string{"close", "upgrade"}, closes},
		{[]string{"upgrade, keep-alive"}, keeps}, {[]string{"keep-alive, upgrade"}, keeps}, {[]string{"upgrade", "keep-alive"}, keeps}, {[]string{"keep-alive", "upgrade"}, keeps},
		{[]string{"close", "close"}, closes}, {[]string{"keep-alive", "keep-alive"}, keeps}, {[]string{"close, close"}, closes},
		{[]string{",close"}, closes}, {[]string{"close,"}, closes}, {[]string{",,close,,"}, closes}, {[]string{" \tclose\t "}, closes}, {[]string{"a ,\tclose ,b"}, closes}, {[]string{"", "close"}, closes},
		{[]string{",keep-alive"}, keeps}, {[]string{"keep-alive,"}, keeps}, {[]string{",,keep-alive,,"}, keeps}, {[]string{" \tkeep-alive\t "}, keeps}, {[]string{"", "keep-alive", ""}, keeps},
		{[]string{"closed"}, nothing}, {[]string{"clos"}, nothing}, {[]string{"xclose"}, nothing}, {[]string{"close keep-alive"}, nothing}, {[]string{"close;"}, nothing}, {[]string{"\"close\""}, nothing}, {[]string{"close=1"}, nothing}, {[]string{"c lose"}, nothing}, {[]string{"clo", "se"}, nothing}, {[]string{"clo,se"}, nothing},
		{[]string{"keepalive"}, nothing}, {[]string{"keep_alive"}, nothing}, {[]string{"keep-aliv"}, nothing}, {[]string{"keep-alives"}, nothing}, {[]string{"keep - alive"}, nothing}, {[]string{"keep-alive;"}, nothing}, {[]string{"keep-alive=5"}, nothing}, {[]string{"keep", "alive"}, nothing}, {[]string{"keep,alive"}, nothing},
		{[]string{"closed, keep-alive"}, keeps}, {[]string{"close, keepalive"}, closes},
	} {
		for _, minor := range []int{0, 1, 2, -1, 256, 257, 1 << 32, 1<<32 + 1, math.MaxInt, math.MinInt} {
			want := c.tells == keeps || c.tells == nothing && minor == 1
			for _, h := range []api.Head{{}, request(), response(200), response(404)} {
				h.Minor = minor
				h.Fields = connections(c.values...)
				wantStays(t, h, want)
				h.Fields = slices.Concat(fill(5), connections(c.values...), fill(3))
				wantStays(t, h, want)
				if want != stays(h) {
					t.Fatalf("%#v: a test that does not say what it means", h)
				}
			}
		}
	}
}

func TestG3Names(t *testing.T) {
	for _, name := range spellings("Connection") {
		wantStays(t, request(fields(name, "close")...), false)
		wantStays(t, api.Head{Fields: fields(name, "keep-alive")}, true)
		wantStays(t, request(fields("connection", "keep-alive", name, "close")...), false)
	}
	for _, name := range []string{"Connectio", "Connections", "XConnection", "onnection", "Proxy-Connection", "Keep-Alive", "Close", "", " Connection", "Connection ", "Connection:", "Conne\u00e7tion"} {
		wantStays(t, request(fields(name, "close")...), true)
		wantStays(t, api.Head{Fields: fields(name, "keep-alive")}, false)
	}
	for _, item := range cases("close") {
		wantStays(t, request(connections(item)...), false)
	}
	for _, item := range cases("keep-alive") {
		wantStays(t, api.Head{Fields: connections(item)}, true)
	}
}

// Stays asks of a head nothing but its Minor and its fields, so it answers for those that are not valid too.
func TestG3NotValid(t *testing.T) {
	for _, h := range []api.Head{{Fields: connections("\x00, close")}, {Minor: 1, Fields: connections("close\x00")}, {Fields: connections("keep-alive", "\xff,\r\n")}, {Minor: 1, Fields: connections(strings.Repeat(",", 5000) + "close")}, {Fields: connections(strings.Repeat("a,", 5000) + "keep-alive")}, {Minor: 1, Fields: connections("\u00a0close")}, {Minor: 1, Fields: connections("\nclose")}, {Fields: connections("\u212aeep-alive")}, {Minor: 1, Fields: connections("clo\u017fe")}, {Method: "GET", Status: 200, Minor: 1}} {
		wantStays(t, h, stays(h))
	}
	for c := range 256 {
		for _, word := range []string{"close", "keep-alive"} {
			for at := range len(word) + 1 {
				for minor := range 2 {
					h := api.Head{Minor: minor, Fields: connections(word[:at] + one(c) + word[at:])}
					wantStays(t, h, stays(h))
				}
			}
		}
	}
	var l []api.Field
	for range 1000 {
		l = append(l, connections("keep-alive", "a, b")...)
	}
	wantStays(t, api.Head{Fields: l}, true)
	wantStays(t, api.Head{Fields: append(l, connections("close")...)}, false)
}

// pieces is fields that matter to a body or to a connection, and some that do not.
func pieces() []api.Field {
	return fields(length, "3", "content-length", "3", length, "0", length, "4001", "CONTENT-LENGTH", "", coding, "chunked", "TRANSFER-encoding", "CHUNKED", coding, "gzip, chunked", coding, "", "Connection", "close", "connection", "Keep-Alive", "CONNECTION", "a,,close ,b", "X", "chunked", "X", " ")
}

func TestG4ShortRows(t *testing.T) {
	p := pieces()
	for minor := range 2 {
		check(t, minor, nil)
		for _, a := range p {
			check(t, minor, []api.Field{a})
			for _, b := range p {
				check(t, minor, []api.Field{a, b})
				for _, c := range p {
					check(t, minor, []api.Field{a, b, c})
				}
			}
		}
	}
}

// textOf returns a short text of the bytes that matter.
func textOf(r *rand.Rand, letters string, most int) string {
	b := make([]byte, r.IntN(most+1))
	for i := range b {
		b[i] = letters[r.IntN(len(letters))]
	}
	return string(b)
}

// anyField returns a field that is mostly one of pieces, or nearly one.
func anyField(r *rand.Rand) api.Field {
	p := pieces()
	f := p[r.IntN(len(p))]
	switch r.IntN(8) {
	case 0:
		f.Value = textOf(r, "0123456789", 30)
	case 1:
		f.Value = fmt.Sprint(r.IntN(8001))
	case 2:
		f.Value = textOf(r, "019ax ,\t-+", 6)
	case 3:
		f.Name = spellings(f.Name)[r.IntN(3)]
	case 4:
		f = fill(3)[r.IntN(3)]
	}
	return f
}

func TestRandomHeads(t *testing.T) {
	r := rand.New(rand.NewPCG(7, 7))
	kinds := map[string]int{}
	for range 100000 {
		h := request()
		if r.IntN(2) == 0 {
			h = response(100 + r.IntN(500))
		}
		h.Minor = r.IntN(2)
		for range r.IntN(4) {
			h.Fields = append(h.Fields, anyField(r))
		}
		if r.IntN(20) == 0 {
			h.Fields = append(h.Fields, fill(15+r.IntN(5))...)
		}
		if r.IntN(50) == 0 {
			h.Minor = r.IntN(5) - 2
		}
		checkHead(t, h)
		f, e := frame.Request(h)
		kinds[fmt.Sprint("request", f.Kind, e)]++
		f, e = frame.Answer(h, "GET")
		kinds[fmt.Sprint("answer", f.Kind, e)]++
	}
	// Else the test would not say what it means.
	for _, k := range []string{"request0 1", "request0 2", "request0 22", "request1 0", "request2 0", "request3 0", "answer0 1", "answer0 2", "answer0 22", "answer1 0", "answer2 0", "answer3 0", "answer4 0"} {
		if kinds[k] < 100 {
			t.Errorf("%s came %d times: %v", k, kinds[k], kinds)
		}
	}
}

// Arguments read as before, and so does what lies beyond the length of a slice.
func TestArgumentsStay(t *testing.T) {
	for _, a := range pieces() {
		for _, b := range pieces() {
			whole := []api.Field{a, b, {Name: "Beyond", Value: "close"}, {Name: length, Value: "7"}}
			before := slices.Clone(whole)
			for _, h := range []api.Head{request(whole[:2]...), response(200, whole[:2]...)} {
				h.Fields = whole[:2]
				f, e := frame.Request(h)
				g, d := frame.Answer(h, "GET")
				k := frame.Stays(h)
				if !slices.Equal(whole, before) {
					t.Fatalf("%v became %v", before, whole)
				}
				// What one call answered does not hang on those before it.
				wantRequest(t, h, f, e)
				wantAnswer(t, h, "GET", g, d)
				wantStays(t, h, k)
				checkHead(t, h)
			}
		}
	}
}
