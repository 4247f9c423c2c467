package head_test

import (
	"fmt"
	"math"
	"math/rand/v2"
	"reflect"
	"regexp"
	"slices"
	"strings"
	"testing"

	"lockage/api"
	"lockage/head"
)

// What the chapter says of each part, once more, as patterns.
var (
	aName    = regexp.MustCompile("^[a-zA-Z0-9!#$%&'*+.^_`|~-]{1,40}$")
	aValue   = regexp.MustCompile(`^([!-~]([\t -~]{0,198}[!-~])?)?$`)
	aTarget  = regexp.MustCompile(`^[!-~]{1,200}$`)
	aReason  = regexp.MustCompile(`^[\t -~]{0,200}$`)
	aStatus  = regexp.MustCompile(`^[0-9]{3}$`)
	aVersion = regexp.MustCompile(`^HTTP/[0-9]\.[0-9]$`)
	aFirst   = regexp.MustCompile(`(?s)^([^ ]*) ([^ ]*) (.*)$`)
	aField   = regexp.MustCompile(`(?s)^([^:]*):[\t ]*(.*?)[\t ]*$`)
)

// one returns the string of that byte alone, whatever it is in UTF-8.
func one(c int) string { return string([]byte{byte(c)}) }

// many returns a string of n letters.
func many(n int) string { return strings.Repeat("v", n) }

// fields returns n valid fields, no two of them alike.
func fields(n int) []api.Field {
	var l []api.Field
	for i := range n {
		l = append(l, api.Field{Name: fmt.Sprintf("X-%d", i), Value: fmt.Sprintf("v %d", i)})
	}
	return l
}

// same reports whether two heads are equal: by R2 it does not matter whether a list without elements is nil.
func same(a, b api.Head) bool {
	if !slices.Equal(a.Fields, b.Fields) {
		return false
	}
	a.Fields, b.Fields = nil, nil
	return reflect.DeepEqual(a, b)
}

// valid says F1 once more.
func valid(h api.Head, answer bool) bool {
	for _, f := range h.Fields {
		if !aName.MatchString(f.Name) || !aValue.MatchString(f.Value) {
			return false
		}
	}
	if len(h.Fields) > 20 || h.Minor < 0 || h.Minor > 1 {
		return false
	}
	if answer {
		return h.Status >= 100 && h.Status <= 599 && aReason.MatchString(h.Reason) && h.Method+h.Target == ""
	}
	return aName.MatchString(h.Method) && aTarget.MatchString(h.Target) && h.Status == 0 && h.Reason == ""
}

// printed says F2 once more.
func printed(h api.Head, answer bool) (string, api.Errno) {
	if !valid(h, answer) {
		return "", 1
	}
	s := fmt.Sprintf("%s %s HTTP/1.%d\r\n", h.Method, h.Target, h.Minor)
	if answer {
		s = fmt.Sprintf("HTTP/1.%d %d %s\r\n", h.Minor, h.Status, h.Reason)
	}
	for _, f := range h.Fields {
		s += fmt.Sprintf("%s: %s\r\n", f.Name, f.Value)
	}
	s += "\r\n"
	if len(s) > 2004 {
		return "", 2
	}
	return s, 0
}

// versioned says of a version what F3 says.
func versioned(s string) (int, api.Errno) {
	if !aVersion.MatchString(s) {
		return 0, 20
	}
	switch s {
	case "HTTP/1.0":
		return 0, 0
	case "HTTP/1.1":
		return 1, 0
	}
	return 0, 24
}

// parsedFirst says of a first line what F3 says.
func parsedFirst(line string, answer bool) (h api.Head, e api.Errno) {
	p := aFirst.FindStringSubmatch(line)
	if p == nil {
		return h, 20
	}
	if !answer {
		if !aName.MatchString(p[1]) || !aTarget.MatchString(p[2]) {
			return h, 20
		}
		h.Method, h.Target = p[1], p[2]
		h.Minor, e = versioned(p[3])
		return h, e
	}
	if !aStatus.MatchString(p[2]) || !aReason.MatchString(p[3]) {
		return h, 20
	}
	if h.Minor, e = versioned(p[1]); e != 0 {
		return h, e
	}
	if p[2] < "100" || p[2] > "599" {
		return h, 20
	}
	fmt.Sscan(p[2], &h.Status)
	h.Reason = p[3]
	return h, 0
}

// parsed says F3 once more.
func parsed(s string, answer bool) (api.Head, api.Errno) {
	if len(s) > 2000 {
		return api.Head{}, 2
	}
	line, rest, more := strings.Cut(s, "\r\n")
	h, e := parsedFirst(line, answer)
	for e == 0 && more {
		line, rest, more = strings.Cut(rest, "\r\n")
		p := aField.FindStringSubmatch(line)
		switch {
		case len(h.Fields) == 20:
			e = 2
		case p == nil || !aName.MatchString(p[1]) || !aValue.MatchString(p[2]):
			e = 21
		default:
			h.Fields = append(h.Fields, api.Field{Name: p[1], Value: p[2]})
		}
	}
	if e != 0 {
		return api.Head{}, e
	}
	return h, 0
}

// wantRight holds Right against what is wanted, and Print too: it returns ErrArg for just the heads that are not valid.
func wantRight(t *testing.T, h api.Head, answer, want bool) {
	t.Helper()
	if got := head.Right(h, answer); got != want {
		t.Errorf("Right(%#v, %v): %v", h, answer, got)
	}
	s, e := head.Print(h, answer)
	if want == (e == api.ErrArg) || e != api.OK && s != "" || e == api.OK && s == "" {
		t.Errorf("Print(%#v, %v): %q %d", h, answer, s, e)
	}
}

func wantPrint(t *testing.T, h api.Head, answer bool, want string, wantE api.Errno) {
	t.Helper()
	if s, e := head.Print(h, answer); s != want || e != wantE {
		t.Errorf("Print(%#v, %v): %q %d, want %q %d", h, answer, s, e, want, wantE)
	}
}

func wantParse(t *testing.T, s string, answer bool, want api.Head, wantE api.Errno) {
	t.Helper()
	if h, e := head.Parse(s, answer); !same(h, want) || e != wantE {
		t.Errorf("Parse(%q, %v): %#v %d, want %#v %d", s, answer, h, e, want, wantE)
	}
}

// wantError holds Parse against an error, with which the head is empty.
func wantError(t *testing.T, s string, answer bool, want api.Errno) {
	t.Helper()
	wantParse(t, s, answer, api.Head{}, want)
}

// checkParse holds Parse of s, as a request and as a response, against F3 and F4.
func checkParse(t *testing.T, s string) {
	t.Helper()
	for _, answer := range []bool{false, true} {
		want, e := parsed(s, answer)
		wantParse(t, s, answer, want, e)
		checkHeadOf(t, s, answer)
	}
}

// checkHeadOf holds what Parse returns against F4, and returns whether it is a head.
func checkHeadOf(t *testing.T, s string, answer bool) bool {
	t.Helper()
	h, e := head.Parse(s, answer)
	if e != api.OK {
		return false
	}
	if !head.Right(h, answer) || !valid(h, answer) {
		t.Errorf("%q was parsed to %#v, which is not valid", s, h)
	}
	checkTextOf(t, h, answer)
	return true
}

// checkTextOf holds what Print returns against F4, and returns whether it is a text.
func checkTextOf(t *testing.T, h api.Head, answer bool) bool {
	t.Helper()
	s, e := head.Print(h, answer)
	if e != api.OK {
		return false
	}
	body, found := strings.CutSuffix(s, "\r\n\r\n")
	if !found {
		t.Errorf("%q does not end with an empty line", s)
	}
	wantParse(t, body, answer, h, api.OK)
	return true
}

func request() api.Head { return api.Head{Method: "GET", Target: "/", Minor: 1} }

func response() api.Head { return api.Head{Status: 200, Reason: "OK", Minor: 1} }

// of returns a valid head of either kind.
func of(answer bool) api.Head {
	if answer {
		return response()
	}
	return request()
}

func TestLimits(t *testing.T) {
	if api.MaxHead != 2000 || api.MaxFields != 20 || api.MaxTarget != 200 || api.MaxValue != 200 || api.MaxName != 40 {
		t.Error("the limits are those of the chapter")
	}
	if api.OK != 0 || api.ErrArg != 1 || api.ErrLong != 2 || api.ErrLine != 20 || api.ErrField != 21 || api.ErrVersion != 24 {
		t.Error("the errors' numbers are those of the chapter")
	}
}

func TestF1Minor(t *testing.T) {
	for minor, want := range map[int]bool{-1: false, 0: true, 1: true, 2: false, 9: false, 10: false, 256: false, 1 << 32: false, math.MinInt: false, math.MaxInt: false} {
		for _, answer := range []bool{false, true} {
			h := of(answer)
			h.Minor = minor
			wantRight(t, h, answer, want)
		}
	}
}

func TestF1Fields(t *testing.T) {
	for _, answer := range []bool{false, true} {
		for n, want := range map[int]bool{0: true, 1: true, 2: true, 19: true, 20: true, 21: false, 22: false, 40: false, 276: false} {
			h := of(answer)
			h.Fields = fields(n)
			wantRight(t, h, answer, want)
		}
		h := of(answer)
		h.Fields = []api.Field{}
		wantRight(t, h, answer, true)
	}
}

func TestF1FieldNamesAndValues(t *testing.T) {
	for f, want := range map[api.Field]bool{
		{Name: "A"}:                         true,
		{Name: "a", Value: "b"}:             true,
		{Name: "a", Value: "b \t c"}:        true,
		{Name: "a", Value: "b:c"}:           true,
		{Name: many(40), Value: many(200)}:  true,
		{Name: "!#$%&'*+-.^_`|~0"}:          true,
		{}:                                  false,
		{Value: "b"}:                        false,
		{Name: "a b"}:                       false,
		{Name: "a:"}:                        false,
		{Name: " a"}:                        false,
		{Name: "a\r\nb"}:                    false,
		{Name: "é", Value: "b"}:             false,
		{Name: many(41), Value: "b"}:        false,
		{Name: "a", Value: many(201)}:       false,
		{Name: "a", Value: " b"}:            false,
		{Name: "a", Value: "b\t"}:           false,
		{Name: "a", Value: " "}:             false,
		{Name: "a", Value: "b\r\nC: d"}:     false,
		{Name: "a", Value: "b\nc"}:          false,
		{Name: "a", Value: "\x00"}:          false,
		{Name: "a", Value: "b\x7f"}:         false,
		{Name: "a", Value: "é"}:             false,
		{Name: "(a)", Value: " not either"}: false,
	} {
		for _, answer := range []bool{false, true} {
			for _, n := range []int{0, 1, 19} {
				for at := range n + 1 {
					h := of(answer)
					h.Fields = slices.Insert(fields(n), at, f)
					wantRight(t, h, answer, want)
				}
			}
		}
	}
}

func TestF1Method(t *testing.T) {
	for s, want := range map[string]bool{
		"GET": true, "get": true, "G": true, "M-SEARCH": true, "!#$%&'*+-.^_`|~0": true, many(40): true,
		"": false, many(41): false, many(200): false, " ": false, "G T": false, " GET": false, "GET ": false, "GET\t": false, "GET:": false, "(GET)": false, "GE/T": false, "G\rT": false, "G\nT": false, "\x00": false, "GÉT": false, "\xff": false,
	} {
		h := request()
		h.Method = s
		wantRight(t, h, false, want)
	}
	for c := range 256 {
		for _, s := range []string{one(c), "a" + one(c), one(c) + "a", "a" + one(c) + "a"} {
			h := request()
			h.Method = s
			wantRight(t, h, false, strings.Contains("abcdefghijklmnopqrstuvwxyzABCDEFGHIJKLMNOPQRSTUVWXYZ0123456789!#$%&'*+-.^_`|~", one(c)))
		}
	}
}

func TestF1Target(t *testing.T) {
	for n, want := range map[int]bool{0: false, 1: true, 2: true, 40: true, 41: true, 199: true, 200: true, 201: false, 202: false, 256: false, 456: false, 100000: false} {
		h := request()
		h.Target = many(n)
		wantRight(t, h, false, want)
	}
	for c := range 256 {
		want := 33 <= c && c <= 126
		for _, s := range []string{one(c), "/" + one(c), one(c) + "/", "/" + one(c) + "a", many(199) + one(c), one(c) + many(199), many(100) + one(c) + many(99)} {
			h := request()
			h.Target = s
			wantRight(t, h, false, want)
		}
	}
	for s, want := range map[string]bool{"/": true, "*": true, "a:80": true, "http://a/b?c#d": true, "%": true, "\"<>\\^`{|}": true, "/a b": false, "/a\tb": false, "/é": false, "/\r\n": false, "/a\x7f": false} {
		h := request()
		h.Target = s
		wantRight(t, h, false, want)
	}
}

func TestF1RequestHasNoStatusOrReason(t *testing.T) {
	for _, n := range []int{-1, 1, 99, 100, 200, 599, 600, 1 << 32, math.MinInt, math.MaxInt} {
		h := request()
		h.Status = n
		wantRight(t, h, false, false)
		wantRight(t, h, true, false)
	}
	for _, s := range []string{"OK", " ", "\t", "a b", "\x00", many(201)} {
		h := request()
		h.Reason = s
		wantRight(t, h, false, false)
	}
}

func TestF1Status(t *testing.T) {
	for n := -10; n <= 1100; n++ {
		h := response()
		h.Status = n
		wantRight(t, h, true, 100 <= n && n <= 599)
	}
	for _, n := range []int{256 + 65536, 200 - 1<<32, 200 + 1<<32, -200, math.MinInt, math.MaxInt} {
		h := response()
		h.Status = n
		wantRight(t, h, true, false)
	}
}

func TestF1Reason(t *testing.T) {
	for n, want := range map[int]bool{0: true, 1: true, 40: true, 41: true, 199: true, 200: true, 201: false, 202: false, 256: false, 456: false, 100000: false} {
		for _, letter := range []string{"r", " ", "\t"} {
			h := response()
			h.Reason = strings.Repeat(letter, n)
			wantRight(t, h, true, want)
		}
	}
	for c := range 256 {
		want := c == 9 || 32 <= c && c <= 126
		for _, s := range []string{one(c), "a" + one(c), one(c) + "a", "a" + one(c) + "a", many(199) + one(c), one(c) + many(199), many(100) + one(c) + many(99)} {
			h := response()
			h.Reason = s
			wantRight(t, h, true, want)
		}
	}
}

func TestF1ResponseHasNoMethodOrTarget(t *testing.T) {
	for _, s := range []string{"GET", "/", "a b", " ", "\x00", many(201)} {
		h := response()
		h.Method = s
		wantRight(t, h, true, false)
		h = response()
		h.Target = s
		wantRight(t, h, true, false)
	}
}

func TestF1Kinds(t *testing.T) {
	for _, answer := range []bool{false, true} {
		wantRight(t, of(answer), answer, true)
		wantRight(t, of(answer), !answer, false)
		wantRight(t, api.Head{}, answer, false)
		wantRight(t, api.Head{Method: "GET", Target: "/", Status: 200, Reason: "OK"}, answer, false)
	}
	wantRight(t, api.Head{Method: "G", Target: "t"}, false, true)
	wantRight(t, api.Head{Status: 100}, true, true)
}

func TestF2(t *testing.T) {
	a, b, empty := api.Field{Name: "Host", Value: "x"}, api.Field{Name: "a", Value: "b \t: c"}, api.Field{Name: "E"}
	for _, c := range []struct {
		h      api.Head
		answer bool
		want   string
	}{
		{api.Head{Method: "GET", Target: "/"}, false, "GET / HTTP/1.0\r\n\r\n"},
		{api.Head{Method: "GET", Target: "/", Minor: 1}, false, "GET / HTTP/1.1\r\n\r\n"},
		{api.Head{Method: "get", Target: "*", Minor: 1, Fields: []api.Field{a}}, false, "get * HTTP/1.1\r\nHost: x\r\n\r\n"},
		{api.Head{Method: "P", Target: "/?q", Fields: []api.Field{b, a, empty, a}}, false, "P /?q HTTP/1.0\r\na: b \t: c\r\nHost: x\r\nE: \r\nHost: x\r\n\r\n"},
		{api.Head{Status: 100}, true, "HTTP/1.0 100 \r\n\r\n"},
		{api.Head{Status: 599, Minor: 1}, true, "HTTP/1.1 599 \r\n\r\n"},
		{api.Head{Status: 404, Reason: "Not  Found", Minor: 1}, true, "HTTP/1.1 404 Not  Found\r\n\r\n"},
		{api.Head{Status: 200, Reason: " \tO K ", Fields: []api.Field{a}}, true, "HTTP/1.0 200  \tO K \r\nHost: x\r\n\r\n"},
		{api.Head{Status: 200, Reason: "OK", Minor: 1, Fields: []api.Field{empty, empty, a, b}}, true, "HTTP/1.1 200 OK\r\nE: \r\nE: \r\nHost: x\r\na: b \t: c\r\n\r\n"},
	} {
		wantPrint(t, c.h, c.answer, c.want, api.OK)
		wantPrint(t, c.h, !c.answer, "", api.ErrArg)
	}
}

func TestF2NotValid(t *testing.T) {
	for _, answer := range []bool{false, true} {
		for _, change := range []func(h *api.Head){
			func(h *api.Head) { h.Minor = 2 },
			func(h *api.Head) { h.Minor = -1 },
			func(h *api.Head) { h.Fields = fields(21) },
			func(h *api.Head) { h.Fields = []api.Field{{Name: "a\r\n", Value: "b"}} },
			func(h *api.Head) { h.Fields = []api.Field{{Name: "a", Value: "b\r\n"}} },
			func(h *api.Head) { h.Method, h.Status = "GET", 200 },
			func(h *api.Head) { h.Target, h.Reason = "a b", "\r\n" },
			func(h *api.Head) { h.Target, h.Reason = many(3000), many(3000) },
		} {
			h := of(answer)
			change(&h)
			wantPrint(t, h, answer, "", api.ErrArg)
		}
	}
	// Over both limits: the promise names ErrArg first.
	h := request()
	for range 21 {
		h.Fields = append(h.Fields, api.Field{Name: many(40), Value: many(200)})
	}
	wantPrint(t, h, false, "", api.ErrArg)
}

// sized returns a valid head whose text has n bytes, for n from 600 to 3000.
func sized(answer bool, n int) api.Head {
	h := of(answer)
	left := n - len("GET / HTTP/1.1\r\n\r\n")
	if answer {
		left = n - len("HTTP/1.1 200 OK\r\n\r\n")
	}
	for left > 0 {
		// A field of 200 bytes, or what is left where that would leave too little for another one.
		length := min(left, 200)
		if rest := left - length; 0 < rest && rest < 5 {
			length -= 5
		}
		h.Fields = append(h.Fields, api.Field{Name: "a", Value: many(length - len("a: \r\n"))})
		left -= length
	}
	return h
}

func TestF2Lengths(t *testing.T) {
	for _, answer := range []bool{false, true} {
		for n := 600; n <= 3000; n++ {
			h := sized(answer, n)
			s, e := head.Print(h, answer)
			if n <= 2004 && (len(s) != n || e != api.OK) || n > 2004 && (s != "" || e != api.ErrLong) {
				t.Fatalf("%v: a text of %d bytes: %d bytes, %d", answer, n, len(s), e)
			}
			want, wantE := printed(h, answer)
			wantPrint(t, h, answer, want, wantE)
			if n <= 2004 && !checkTextOf(t, h, answer) {
				t.Fatalf("%v: a text of %d bytes is parsed", answer, n)
			}
		}
	}
}

func TestF2Longest(t *testing.T) {
	for _, answer := range []bool{false, true} {
		h := of(answer)
		for range 20 {
			h.Fields = append(h.Fields, api.Field{Name: many(40), Value: many(200)})
		}
		wantRight(t, h, answer, true)
		wantPrint(t, h, answer, "", api.ErrLong)
	}
}

func TestF3Lengths(t *testing.T) {
	// Blanks around a value are not part of it, so the text may be as long as it likes.
	for _, answer := range []bool{false, true} {
		first, want := "GET / HTTP/1.1", request()
		if answer {
			first, want = "HTTP/1.1 200 OK", response()
		}
		want.Fields = []api.Field{{Name: "a", Value: "b"}}
		for _, n := range []int{100, 1999, 2000, 2001, 2002, 2004, 2005, 4096, 100000} {
			start := first + "\r\na:"
			s := start + strings.Repeat(" ", n-len(start)-1) + "b"
			if len(s) != n {
				t.Fatal("a test that does not say what it means")
			}
			if n <= 2000 {
				wantParse(t, s, answer, want, api.OK)
			} else {
				wantError(t, s, answer, api.ErrLong)
			}
		}
		// The length goes ahead of every other error.
		for _, s := range []string{"", " ", "\r\n", "GET / HTTP/2.0 ", "HTTP/2.0 200 ", "x", "\x00"} {
			wantError(t, s+many(2001-len(s)), answer, api.ErrLong)
			wantError(t, s+strings.Repeat("\r\n", 1001), answer, api.ErrLong)
		}
		wantError(t, many(2000), answer, api.ErrLine)
		wantError(t, many(2001), answer, api.ErrLong)
	}
}

func TestF3Request(t *testing.T) {
	for s, want := range map[string]api.Head{
		"GET / HTTP/1.1":                                    {Method: "GET", Target: "/", Minor: 1},
		"GET / HTTP/1.0":                                    {Method: "GET", Target: "/"},
		"get * HTTP/1.1":                                    {Method: "get", Target: "*", Minor: 1},
		"!#$%&'*+-.^_`|~0 ~! HTTP/1.0":                      {Method: "!#$%&'*+-.^_`|~0", Target: "~!"},
		"A HTTP/1.0 HTTP/1.1":                               {Method: "A", Target: "HTTP/1.0", Minor: 1},
		many(40) + " " + many(200) + " HTTP/1.1":            {Method: many(40), Target: many(200), Minor: 1},
		"GET / HTTP/1.1\r\na:":                              {Method: "GET", Target: "/", Minor: 1, Fields: []api.Field{{Name: "a"}}},
		"GET / HTTP/1.1\r\na: b\r\nA:\tc ":                  {Method: "GET", Target: "/", Minor: 1, Fields: []api.Field{{Name: "a", Value: "b"}, {Name: "A", Value: "c"}}},
		"GET / HTTP/1.0\r\na: b c:d\t,e\r\nf:g\r\na: b c:d": {Method: "GET", Target: "/", Fields: []api.Field{{Name: "a", Value: "b c:d\t,e"}, {Name: "f", Value: "g"}, {Name: "a", Value: "b c:d"}}},
	} {
		wantParse(t, s, false, want, api.OK)
		wantError(t, s, true, api.ErrLine)
	}
}

func TestF3Response(t *testing.T) {
	for s, want := range map[string]api.Head{
		"HTTP/1.1 200 OK":                              {Status: 200, Reason: "OK", Minor: 1},
		"HTTP/1.0 200 OK":                              {Status: 200, Reason: "OK"},
		"HTTP/1.1 100 ":                                {Status: 100, Minor: 1},
		"HTTP/1.1 599  ":                               {Status: 599, Reason: " ", Minor: 1},
		"HTTP/1.1 599 \t":                              {Status: 599, Reason: "\t", Minor: 1},
		"HTTP/1.0 404 Not  Found ":                     {Status: 404, Reason: "Not  Found "},
		"HTTP/1.0 404 Not\tFound: ~!":                  {Status: 404, Reason: "Not\tFound: ~!"},
		"HTTP/1.1 200 " + many(200):                    {Status: 200, Reason: many(200), Minor: 1},
		"HTTP/1.1 200 " + strings.Repeat(" ", 200):     {Status: 200, Reason: strings.Repeat(" ", 200), Minor: 1},
		"HTTP/1.1 200 OK\r\na:b":                       {Status: 200, Reason: "OK", Minor: 1, Fields: []api.Field{{Name: "a", Value: "b"}}},
		"HTTP/1.1 200 \r\nA:\r\nb: c \t\r\nb:c:":       {Status: 200, Minor: 1, Fields: []api.Field{{Name: "A"}, {Name: "b", Value: "c"}, {Name: "b", Value: "c:"}}},
		"HTTP/1.1 204 HTTP/1.0 200\r\nHTTP: /1.1 200 ": {Status: 204, Reason: "HTTP/1.0 200", Minor: 1, Fields: []api.Field{{Name: "HTTP", Value: "/1.1 200"}}},
	} {
		wantParse(t, s, true, want, api.OK)
		wantError(t, s, false, api.ErrLine)
	}
}

func TestF3Spaces(t *testing.T) {
	for _, s := range []string{"", "GET", "GET/HTTP/1.1", "GET /", "GET /HTTP/1.1", "GET/ HTTP/1.1", "GET\t/\tHTTP/1.1", "GET /\tHTTP/1.1", " ", "  ", "   ", " GET / HTTP/1.1", "GET  / HTTP/1.1", "GET /  HTTP/1.1", "GET / HTTP/1.1 ", "GET / a HTTP/1.1", "GET / ", "GET  HTTP/1.1", " / HTTP/1.1", "GET\u00a0/\u00a0HTTP/1.1"} {
		wantError(t, s, false, api.ErrLine)
		wantError(t, s+"\r\na: b", false, api.ErrLine)
	}
	for _, s := range []string{"", "HTTP/1.1", "HTTP/1.1 200", "HTTP/1.1 200\tOK", "HTTP/1.1\t200 OK", "HTTP/1.1200 OK", " ", "  ", " HTTP/1.1 200 OK", "HTTP/1.1  200 OK", "HTTP/1.1  OK", " 200 OK", "HTTP/1.1 ", "200 OK", "HTTP/1.1 OK 200"} {
		wantError(t, s, true, api.ErrLine)
		wantError(t, s+"\r\na: b", true, api.ErrLine)
	}
}

func TestF3RequestParts(t *testing.T) {
	for _, method := range []string{"", many(41), "G\tT", "GET:", "(GET)", "GÉT", "\x00", "G\rT", "G\nT", "\xff"} {
		wantError(t, method+" / HTTP/1.1", false, api.ErrLine)
	}
	for _, target := range []string{"", many(201), "/\t", "\t/", "/\x1f", "/\x7f", "/é", "\x80", "/\r", "/\n", "\x00"} {
		wantError(t, "GET "+target+" HTTP/1.1", false, api.ErrLine)
	}
	for c := range 256 {
		checkParse(t, "G"+one(c)+"T / HTTP/1.1")
		checkParse(t, "GET /"+one(c)+"a HTTP/1.1")
		checkParse(t, "GET / HTTP/1."+one(c))
		checkParse(t, "GET / HTTP/1.1"+one(c))
		checkParse(t, one(c)+"GET / HTTP/1.1")
	}
}

func TestF3ResponseParts(t *testing.T) {
	for _, status := range []string{"", "2", "20", "2000", "0200", "00200", "2x0", "x00", "20x", "0x1", "1f0", "+20", "-20", "2.0", "2e2", "1_0", "\t20", "20\t", "2\r0", "٢", "\xff00", "\x0000"} {
		wantError(t, "HTTP/1.1 "+status+" OK", true, api.ErrLine)
	}
	for _, reason := range []string{many(201), strings.Repeat(" ", 201), "\x00", "a\x1f", "\x7fb", "é", "a\rb", "a\nb", "a\r", "\n", "\xff"} {
		wantError(t, "HTTP/1.1 200 "+reason, true, api.ErrLine)
	}
	for c := range 256 {
		checkParse(t, "HTTP/1.1 2"+one(c)+"0 OK")
		checkParse(t, "HTTP/1.1 200 O"+one(c)+"K")
		checkParse(t, "HTTP/1.1 200 "+one(c))
		checkParse(t, "HTTP/1."+one(c)+" 200 OK")
		checkParse(t, one(c)+"HTTP/1.1 200 OK")
	}
}

func TestF3Status(t *testing.T) {
	for n := range 1000 {
		s := fmt.Sprintf("HTTP/1.1 %03d OK", n)
		if 100 <= n && n <= 599 {
			wantParse(t, s, true, api.Head{Status: n, Reason: "OK", Minor: 1}, api.OK)
		} else {
			wantError(t, s, true, api.ErrLine)
		}
	}
}

// versions is texts that stand where a version stands, and the error that each of them is.
func versions() map[string]api.Errno {
	m := map[string]api.Errno{}
	for _, v := range []string{"", "H", "HTTP", "HTTP/", "HTTP/1", "HTTP/1.", "HTTP/.1", "HTTP/11", "HTTP/1.11", "HTTP/11.1", "HTTP/1.1.", "HTTP/1.1a", "HTTP/01.1", "HTTP/1.01", "HTTP/1,1", "HTTP/1:1", "HTTP/1/1", "HTTP/1-1", "HTTP\\1.1", "http/1.1", "Http/1.1", "HTTp/1.1", "XTTP/1.1", "HXTP/1.1", "HTXP/1.1", "HTTX/1.1", "HTTPS/1.1", "XHTTP/1.1", "/1.1", "1.1", "HTTP/a.1", "HTTP/1.a", "HTTP/A.1", "HTTP/1.f", "HTTP/x.x", "HTTP/+.1", "HTTP/1.-", "HTTP/-1.1", "HTTP/..1", "HTTP/1..", "HTTP/...", "HTTP/1.1\t", "\tHTTP/1.1", "HTTP/\t.1", "HTTP/1.\x00", "HTTP/1.1\r", "HTTP/1.\n", "HTTP/١.١", "HTTP/1.é"} {
		m[v] = api.ErrLine
	}
	for major := range 10 {
		for minor := range 10 {
			m[fmt.Sprintf("HTTP/%d.%d", major, minor)] = api.ErrVersion
		}
	}
	m["HTTP/1.0"], m["HTTP/1.1"] = api.OK, api.OK
	return m
}

func TestF3Versions(t *testing.T) {
	for v, want := range versions() {
		minor := 0
		if v == "HTTP/1.1" {
			minor = 1
		}
		h, answered := api.Head{Method: "GET", Target: "/", Minor: minor}, api.Head{Status: 200, Reason: "OK", Minor: minor}
		if want != api.OK {
			h, answered = api.Head{}, api.Head{}
		}
		wantParse(t, "GET / "+v, false, h, want)
		wantParse(t, v+" 200 OK", true, answered, want)
	}
	// More spaces belong to the third part: of a request that is the version.
	for _, v := range []string{"HTTP/2.0 ", " HTTP/2.0", "HTTP/2.0 HTTP/2.0", "HTTP/ 2.0"} {
		wantError(t, "GET / "+v, false, api.ErrLine)
	}
	for c := range 256 {
		for at := range len("HTTP/1.1") {
			v := "HTTP/1.1"[:at] + one(c) + "HTTP/1.1"[at+1:]
			checkParse(t, "GET / "+v)
			checkParse(t, v+" 200 OK")
		}
	}
}

func TestF3WhichErrorOfALine(t *testing.T) {
	for s, want := range map[string]api.Errno{
		"G(T / HTTP/2.0":                   api.ErrLine,
		"GET /\x01 HTTP/2.0":               api.ErrLine,
		"GET  HTTP/2.0":                    api.ErrLine,
		" / HTTP/2.0":                      api.ErrLine,
		"GET " + many(201) + " HTTP/1.2":   api.ErrLine,
		many(41) + " / HTTP/1.2":           api.ErrLine,
		"GET / HTTP/2.0":                   api.ErrVersion,
		"GET / HTTP/1.2":                   api.ErrVersion,
		"GET / HTTP/0.9":                   api.ErrVersion,
		"GET / HTTP/2.x":                   api.ErrLine,
		"GET / HTTP/x.2":                   api.ErrLine,
		"GET HTTP/2.0":                     api.ErrLine,
		many(40) + " " + "/" + " HTTP/2.0": api.ErrVersion,
	} {
		wantError(t, s, false, want)
	}
	for s, want := range map[string]api.Errno{
		"HTTP/2.0 200 \x01":            api.ErrLine,
		"HTTP/2.0 200 " + many(201):    api.ErrLine,
		"HTTP/2.0 20 OK":               api.ErrLine,
		"HTTP/2.0 2000 OK":             api.ErrLine,
		"HTTP/2.0 20x OK":              api.ErrLine,
		"HTTP/2.0 200":                 api.ErrLine,
		"HTTP/2.0  OK":                 api.ErrLine,
		"HTTP/2.0 099 \x01":            api.ErrLine,
		"HTTP/2.0 200 OK":              api.ErrVersion,
		"HTTP/1.2 200 OK":              api.ErrVersion,
		"HTTP/1.2 200 ":                api.ErrVersion,
		"HTTP/2.0 099 OK":              api.ErrVersion,
		"HTTP/2.0 000 OK":              api.ErrVersion,
		"HTTP/1.9 600 OK":              api.ErrVersion,
		"HTTP/1.2 999 ":                api.ErrVersion,
		"HTTP/x.0 099 OK":              api.ErrLine,
		"HTTP/1.1 099 OK":              api.ErrLine,
		"HTTP/1.1 600 OK":              api.ErrLine,
		"HTTP/2.0 600 " + many(200):    api.ErrVersion,
		"HTTP/1.1 600 " + many(200):    api.ErrLine,
		"HTTP/2.0 600 " + many(201):    api.ErrLine,
		"HTTP/0.0 100 Go on\r\n: \x00": api.ErrVersion,
	} {
		wantError(t, s, true, want)
	}
}

func TestF3WhichErrorOfSeveralLines(t *testing.T) {
	tooMany := strings.Repeat("\r\na: b", 21)
	for _, rest := range []string{"\r\n", "\r\nx", "\r\n\r\n", "\r\na: b\r\n", "\r\n: b\r\na: b", tooMany, "\r\nx" + tooMany, "\r\na: " + many(201)} {
		wantError(t, "GET /"+rest, false, api.ErrLine)
		wantError(t, "GET / HTTP/1.1 "+rest, false, api.ErrLine)
		wantError(t, rest, false, api.ErrLine)
		wantError(t, "GET / HTTP/1.2"+rest, false, api.ErrVersion)
		wantError(t, "HTTP/1.1 600 OK"+rest, true, api.ErrLine)
		wantError(t, "HTTP/1.1 200 OK\x00"+rest, true, api.ErrLine)
		wantError(t, rest, true, api.ErrLine)
		wantError(t, "HTTP/3.0 600 OK"+rest, true, api.ErrVersion)
	}
	for _, first := range []string{"GET / HTTP/1.1", "HTTP/1.0 200 OK"} {
		answer := strings.HasPrefix(first, "HTTP")
		for rest, want := range map[string]api.Errno{
			"\r\nx" + strings.Repeat("\r\na: b", 30):                             api.ErrField,
			strings.Repeat("\r\na: b", 10) + "\r\n" + tooMany:                    api.ErrField,
			strings.Repeat("\r\na: b", 19) + "\r\nx\r\na: b":                     api.ErrField,
			strings.Repeat("\r\na: b", 20) + "\r\nx":                             api.ErrLong,
			strings.Repeat("\r\na: b", 20) + "\r\n":                              api.ErrLong,
			strings.Repeat("\r\na: b", 20) + "\r\n: ":                            api.ErrLong,
			strings.Repeat("\r\na: b", 20) + "\r\na: b\r\nx":                     api.ErrLong,
			strings.Repeat("\r\na: b", 20) + "\r\na: b" + strings.Repeat(" ", 5): api.ErrLong,
		} {
			wantError(t, first+rest, answer, want)
		}
	}
}

func TestF3LineEnds(t *testing.T) {
	for _, first := range []string{"GET / HTTP/1.1", "HTTP/1.1 200 OK"} {
		answer := strings.HasPrefix(first, "HTTP")
		h := of(answer)
		h.Fields = []api.Field{{Name: "a", Value: "b"}, {Name: "c", Value: "d"}}
		wantParse(t, first+"\r\na: b\r\nc: d", answer, h, api.OK)
		// Other bytes end no line: they are bytes of it, where they are not valid.
		for _, end := range []string{"\r", "\n", "\n\r", "\r\r", "\n\n", "\v", "\f", "\x85", "\u2028", "\x00"} {
			wantError(t, first+end+"a: b", answer, api.ErrLine)
			wantError(t, first+end, answer, api.ErrLine)
			wantError(t, end+first, answer, api.ErrLine)
			wantError(t, first+end+"\r\na: b", answer, api.ErrLine)
			wantError(t, first+"\r\na: b"+end+"c: d", answer, api.ErrField)
			wantError(t, first+"\r\na: b"+end, answer, api.ErrField)
			wantError(t, first+"\r\n"+end+"a: b", answer, api.ErrField)
			wantError(t, first+"\r\na: b"+end+"\r\nc: d", answer, api.ErrField)
		}
		wantError(t, first+"\r\r\na: b", answer, api.ErrLine)
		wantError(t, first+"\r\n\na: b", answer, api.ErrField)
		wantError(t, first+"\r\na: b\r\r\nc: d", answer, api.ErrField)
		wantError(t, first+"\r\na: b\r\n\nc: d", answer, api.ErrField)
		wantError(t, "\r\n"+first, answer, api.ErrLine)
	}
}

func TestF3EmptyLines(t *testing.T) {
	for _, first := range []string{"GET / HTTP/1.1", "HTTP/1.1 200 OK", "HTTP/1.1 200 "} {
		answer := strings.HasPrefix(first, "HTTP")
		for _, rest := range []string{"\r\n", "\r\n\r\n", "\r\n\r\na: b", "\r\na: b\r\n", "\r\na: b\r\n\r\n", "\r\na: b\r\n\r\nc: d", "\r\n ", "\r\n\t", "\r\na: b\r\n \r\nc: d"} {
			wantError(t, first+rest, answer, api.ErrField)
		}
	}
	for _, s := range []string{"", "\r\n", "\r\n\r\n", "\r\na: b"} {
		wantError(t, s, false, api.ErrLine)
		wantError(t, s, true, api.ErrLine)
	}
}

func TestF3Fields(t *testing.T) {
	for _, first := range []string{"GET / HTTP/1.1", "HTTP/1.1 200 OK"} {
		answer := strings.HasPrefix(first, "HTTP")
		for n := range 25 {
			h, s := of(answer), first
			h.Fields = fields(n)
			for _, f := range h.Fields {
				s += "\r\n" + f.Name + ":" + f.Value
			}
			if n <= 20 {
				wantParse(t, s, answer, h, api.OK)
			} else {
				wantError(t, s, answer, api.ErrLong)
			}
		}
	}
}

func TestF3FieldsNotValid(t *testing.T) {
	for _, first := range []string{"GET / HTTP/1.1", "HTTP/1.1 200 OK"} {
		answer := strings.HasPrefix(first, "HTTP")
		for _, line := range []string{"x", "a b", ":", ": b", " a: b", "\ta: b", "a : b", "a\t: b", " more of the line before", "a b: c", "é: b", "(a): b", "a: \x00", "a: b\x7f", "a: é", "a: b\rc", "a: b\nc", "a: " + many(201), many(41) + ": b", "a=b", "GET / HTTP/1.1", "HTTP/1.1 200 OK"} {
			wantError(t, first+"\r\n"+line, answer, api.ErrField)
			wantError(t, first+"\r\na: b\r\n"+line, answer, api.ErrField)
			wantError(t, first+"\r\n"+line+"\r\na: b", answer, api.ErrField)
			wantError(t, first+strings.Repeat("\r\na: b", 19)+"\r\n"+line, answer, api.ErrField)
			wantError(t, first+strings.Repeat("\r\na: b", 20)+"\r\n"+line, answer, api.ErrLong)
		}
		h := of(answer)
		h.Fields = []api.Field{{Name: many(40), Value: many(200)}}
		wantParse(t, first+"\r\n"+many(40)+":\t "+many(200)+" \t", answer, h, api.OK)
		for c := range 256 {
			checkParse(t, first+"\r\na"+one(c)+": b")
			checkParse(t, first+"\r\na: b"+one(c)+"c")
			checkParse(t, first+"\r\na: b"+one(c))
			checkParse(t, first+"\r\n"+one(c)+"\r\na: b")
		}
	}
}

// words calls do with every row of at most most of those pieces.
func words(most int, pieces []string, do func(string)) {
	var grow func(s string, left int)
	grow = func(s string, left int) {
		do(s)
		if left == 0 {
			return
		}
		for _, x := range pieces {
			grow(s+x, left-1)
		}
	}
	grow("", most)
}

func TestF3SmallTexts(t *testing.T) {
	words(5, []string{"GET", " ", "HTTP/1.1", "200", "\r\n", "\n", "a:"}, func(s string) { checkParse(t, s) })
	words(4, []string{"HTTP/1.0", "HTTP/1.2", "600", " ", "\r", "\n", ":", "\t"}, func(s string) {
		checkParse(t, "A B "+s)
		checkParse(t, "HTTP/1.1 100 "+s)
		checkParse(t, "A B HTTP/1.1\r\nx"+s)
		checkParse(t, s+" 100 C\r\nD:")
	})
}

// Each byte of a head is left out, written twice, and replaced by each other byte.
func TestF3OneByteOff(t *testing.T) {
	for _, s := range []string{"GET / HTTP/1.1\r\nA: b\r\nC:", "HTTP/1.0 404 Not Found\r\nA:b c"} {
		for i := range len(s) {
			checkParse(t, s[:i]+s[i+1:])
			checkParse(t, s[:i]+s[i:i+1]+s[i:])
			checkParse(t, s[:i])
			checkParse(t, s[i:])
			for c := range 256 {
				checkParse(t, s[:i]+one(c)+s[i+1:])
				checkParse(t, s[:i]+one(c)+s[i:])
			}
		}
	}
}

// some returns up to most bytes, each of them of those given but for one in a hundred.
func some(r *rand.Rand, most int, of string) string {
	b := make([]byte, r.IntN(most+1))
	for i := range b {
		b[i] = of[r.IntN(len(of))]
		if r.IntN(100) == 0 {
			b[i] = byte(r.IntN(256))
		}
	}
	return string(b)
}

// randomHead returns a head that is often valid, and whether it was made for a response.
func randomHead(r *rand.Rand) (api.Head, bool) {
	answer := r.IntN(2) == 0
	h := api.Head{Minor: r.IntN(2)}
	if answer {
		h.Status, h.Reason = 100+r.IntN(500), some(r, 12, "aB \t:~")
	} else {
		h.Method, h.Target = "G"+some(r, 5, "aZ-~0"), "/"+some(r, 12, "aB:%?!~")
	}
	for range r.IntN(4) {
		h.Fields = append(h.Fields, api.Field{Name: "n" + some(r, 4, "aZ-~0"), Value: strings.Trim(some(r, 9, "aB \t:~"), " \t")})
	}
	switch r.IntN(30) {
	case 0:
		h.Minor = r.IntN(5) - 2
	case 1:
		h.Status = r.IntN(700)
	case 2:
		h.Reason, h.Method = h.Method, h.Reason
	case 3:
		h.Fields = fields(r.IntN(24))
	case 4:
		h.Target += many(r.IntN(300))
	}
	return h, answer
}

func TestF4(t *testing.T) {
	r := rand.New(rand.NewPCG(6, 1))
	texts, heads, wrong := 0, 0, 0
	for range 20000 {
		h, answer := randomHead(r)
		for _, as := range []bool{answer, !answer} {
			wantRight(t, h, as, valid(h, as))
			s, e := printed(h, as)
			wantPrint(t, h, as, s, e)
			if checkTextOf(t, h, as) {
				texts++
				s = s[:len(s)-4]
				// A text that is a little off is often parsed too, and to another head.
				at := r.IntN(len(s))
				s = s[:at] + some(r, 2, " \t\r\n:a1") + s[at+r.IntN(2):]
				checkParse(t, s)
				if checkHeadOf(t, s, as) {
					heads++
				} else {
					wrong++
				}
			}
		}
	}
	if texts < 10000 || heads < 5000 || wrong < 2000 {
		t.Errorf("only %d texts, %d heads and %d that are none", texts, heads, wrong)
	}
}

func TestF4Edges(t *testing.T) {
	for _, answer := range []bool{false, true} {
		for _, change := range []func(h *api.Head){
			func(h *api.Head) {},
			func(h *api.Head) { h.Minor = 0 },
			func(h *api.Head) { h.Fields = fields(20) },
			func(h *api.Head) { h.Fields = []api.Field{{Name: "a"}, {Name: "a"}, {Name: "A", Value: ":"}} },
			func(h *api.Head) { h.Fields = []api.Field{{Name: many(40), Value: many(200)}} },
			func(h *api.Head) { *h = sized(answer, 2004) },
			func(h *api.Head) { h.Method = strings.Repeat(h.Method, 13) },
			func(h *api.Head) { h.Target = strings.Repeat(h.Target, 200) },
			func(h *api.Head) { h.Reason = strings.Repeat(h.Reason, 100) },
			func(h *api.Head) { h.Reason = h.Reason[:0] },
			func(h *api.Head) { h.Reason = strings.Repeat(" ", 100*len(h.Reason)) },
			func(h *api.Head) { h.Reason = strings.Repeat("\t", len(h.Reason)) + h.Reason },
		} {
			h := of(answer)
			change(&h)
			if !checkTextOf(t, h, answer) {
				t.Errorf("%#v has a text", h)
			}
		}
	}
}

func TestExample1(t *testing.T) {
	want := api.Head{Method: "GET", Target: "/a", Minor: 1, Fields: []api.Field{{Name: "Host", Value: "x"}}}
	wantParse(t, "GET /a HTTP/1.1\r\nHost: x", false, want, api.OK)
	wantPrint(t, want, false, "GET /a HTTP/1.1\r\nHost: x\r\n\r\n", api.OK)
	wantRight(t, want, false, true)
	wantRight(t, want, true, false)
}

// guarded returns a head with two fields and two more in the memory behind them, and all four.
func guarded(answer bool) (h api.Head, all []api.Field) {
	all = []api.Field{{Name: "a", Value: "1"}, {Name: "B", Value: "2"}, {Name: "not valid", Value: "\x00"}, {Name: "c", Value: "4"}}
	h = of(answer)
	h.Fields = all[:2]
	return h, all
}

func TestMemoryOfArguments(t *testing.T) {
	for _, answer := range []bool{false, true} {
		for _, as := range []bool{false, true} {
			h, all := guarded(answer)
			before, allBefore := guarded(answer)
			if got := head.Right(h, as); got != (answer == as) {
				t.Errorf("%v as %v: Right is %v", answer, as, got)
			}
			s, e := head.Print(h, as)
			if strings.Contains(s, "c: 4") || (e == api.OK) != (answer == as) {
				t.Errorf("%v as %v: %q %d", answer, as, s, e)
			}
			if !same(h, before) || !slices.Equal(all, allBefore) {
				t.Errorf("%v as %v: now %#v and %q", answer, as, h, all)
			}
		}
	}
}

// What is written into a result, within it or behind it, changes no other result, of an earlier call or a later one.
func TestMemoryOfResults(t *testing.T) {
	for _, s := range []string{"GET / HTTP/1.1\r\na: b\r\nc: d\r\ne: f", "HTTP/1.1 200 OK\r\na: b"} {
		answer := strings.HasPrefix(s, "HTTP")
		want, _ := parsed(s, answer)
		first, _ := head.Parse(s, answer)
		second, _ := head.Parse(s, answer)
		for i := range first.Fields[:cap(first.Fields)] {
			first.Fields[:cap(first.Fields)][i] = api.Field{Name: "spoilt", Value: "spoilt"}
		}
		if !same(second, want) {
			t.Errorf("now %#v", second)
		}
		wantParse(t, s, answer, want, api.OK)
	}
}

// What is written into an argument after the call changes no result.
func TestMemoryKeptNowhere(t *testing.T) {
	h := request()
	h.Fields = fields(3)
	s, e := head.Print(h, false)
	want, _ := printed(h, false)
	for i := range h.Fields {
		h.Fields[i] = api.Field{Name: "spoilt", Value: "spoilt"}
	}
	if s != want || e != api.OK {
		t.Errorf("%q %d, want %q", s, e, want)
	}
}

// Any bytes at all: each call ends without a panic, and answers what the promises say, each time.
func TestSameCallsSameResults(t *testing.T) {
	r := rand.New(rand.NewPCG(6, 2))
	var texts []string
	for range 2000 {
		texts = append(texts, some(r, 60, "GET /HTTP1.02:\r\n"), "GET / HTTP/1.1\r\n"+some(r, 60, "a: \r\n"))
	}
	for range 30 {
		texts = append(texts, some(r, 3000, "a: \r\n"), "HTTP/1.1 200 "+some(r, 300, "a \t"), strings.Repeat(one(r.IntN(256)), r.IntN(3000)))
	}
	for range 2 {
		for i, s := range texts {
			checkParse(t, s)
			other := texts[len(texts)-1-i]
			h := api.Head{Method: s, Target: other, Status: r.IntN(700), Reason: other, Minor: r.IntN(3), Fields: []api.Field{{Name: s, Value: other}}}
			for _, answer := range []bool{false, true} {
				wantRight(t, h, answer, valid(h, answer))
			}
		}
	}
}
