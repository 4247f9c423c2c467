package batch_test

import (
	"fmt"
	"slices"
	"strings"
	"testing"

	"lockage/api"
	"lockage/batch"
)

// ok returns an answer with that body and those names and values of fields.
func ok(body string, members ...string) api.Message {
	m := api.Message{Head: api.Head{Status: 200, Reason: "OK", Minor: 1}, Body: body}
	for i := 0; i < len(members); i += 2 {
		m.Head.Fields = append(m.Head.Fields, api.Field{Name: members[i], Value: members[i+1]})
	}
	return m
}

// fitting returns so many answers, whose text has that many bytes.
func fitting(many, length int) []api.Message {
	l := slices.Repeat([]api.Message{ok("")}, many)
	l[many-1].Body = strings.Repeat("x", length-len(repeated(many, bare)))
	return l
}

// bare is the text of an answer that has nothing but its status.
const bare = `{"status":200,"headers":{},"body":""}`

// manyFields returns an answer with n fields, no two of them alike.
func manyFields(n int) api.Message {
	m := ok("")
	for i := range n {
		m.Head.Fields = append(m.Head.Fields, api.Field{Name: fmt.Sprintf("X-%d", i), Value: "v"})
	}
	return m
}

// notAnswers is messages whose Heads are not valid responses.
func notAnswers() []api.Message {
	var l []api.Message
	add := func(change func(h *api.Head)) {
		m := ok("x", "A", "b")
		change(&m.Head)
		l = append(l, m)
	}
	for _, status := range []int{-1 << 63, -200, -1, 0, 1, 20, 99, 600, 601, 1000, 2000, 1 << 53, 1<<53 + 1, 1<<63 - 1} {
		add(func(h *api.Head) { h.Status = status })
	}
	for _, minor := range []int{-1 << 63, -1, 2, 3, 10, 1<<63 - 1} {
		add(func(h *api.Head) { h.Minor = minor })
	}
	for _, reason := range []string{"a\nb", "\r\n", "\x00", "\x7f", "\u00e4", "\xff", strings.Repeat("r", 201)} {
		add(func(h *api.Head) { h.Reason = reason })
	}
	for _, name := range []string{"", " ", "A b", "A:", "\u00e4", "\xff", "\x00", strings.Repeat("n", 41)} {
		add(func(h *api.Head) { h.Fields[0].Name = name })
		add(func(h *api.Head) { h.Fields = append(h.Fields, api.Field{Name: name, Value: "v"}) })
	}
	for _, value := range []string{" ", " v", "v\t", "a\nb", "\x00", "\x7f", "\u00e4", "\xff", strings.Repeat("v", 201)} {
		add(func(h *api.Head) { h.Fields[0].Value = value })
		// Also where it is left out, since there is a field with the same name ahead of it.
		add(func(h *api.Head) { h.Fields = append(h.Fields, api.Field{Name: "a", Value: value}) })
	}
	add(func(h *api.Head) { h.Method = "GET" })
	add(func(h *api.Head) { h.Target = "/" })
	// Requests, also valid ones.
	add(func(h *api.Head) { *h = api.Head{Method: "GET", Target: "/", Minor: 1} })
	add(func(h *api.Head) { *h = api.Head{Method: "GET", Target: "/", Minor: 1, Fields: h.Fields} })
	add(func(h *api.Head) { h.Method, h.Target = "GET", "/" })
	// Nothing at all.
	add(func(h *api.Head) { *h = api.Head{} })
	add(func(h *api.Head) { *h = api.Head{Minor: 1} })
	return append(l, manyFields(21), manyFields(100), api.Message{}, ok(strings.Repeat("x", 4001)))
}

func TestM3NoAnswers(t *testing.T) {
	for _, m := range notAnswers() {
		for _, n := range []int{1, 2, 10, 11} {
			for at := range n {
				l := slices.Repeat([]api.Message{ok("")}, n)
				l[at] = m
				wantNoText(t, l, 1)
			}
		}
		// Ahead of every other error: in another message, or in the same one.
		wantNoText(t, []api.Message{ok("\xff"), m}, 1)
		wantNoText(t, []api.Message{m, ok("\xff")}, 1)
		wantNoText(t, []api.Message{ok(strings.Repeat("x", 4000)), m}, 1)
		wantNoText(t, append(slices.Repeat([]api.Message{ok("\xff")}, 20), m), 1)
		m.Body += "\xff"
		wantNoText(t, []api.Message{m}, 1)
	}
}

// Bodies of 4000 and of 4001 bytes, in each message: the former are too long only for the text.
func TestM3LongBodies(t *testing.T) {
	for _, n := range []int{1, 2, 10} {
		for at := range n {
			for _, piece := range []string{"x", "\n", "\x00"} {
				l := slices.Repeat([]api.Message{ok("")}, n)
				l[at].Body = strings.Repeat(piece, 4000)
				wantNoText(t, l, 2)
				l[at].Body += piece
				wantNoText(t, l, 1)
			}
			// In bytes, not in characters.
			l := slices.Repeat([]api.Message{ok("")}, n)
			l[at].Body = strings.Repeat("\u00e4", 2000)
			wantNoText(t, l, 2)
			l[at].Body += "x"
			wantNoText(t, l, 1)
			// What is not valid goes ahead of a text that is too long, but not of a body that is.
			l[at].Body = strings.Repeat("\xff", 4000)
			wantNoText(t, l, 30)
			l[at].Body = strings.Repeat("\xff", 4001)
			wantNoText(t, l, 1)
		}
	}
}

func TestM3Many(t *testing.T) {
	wantText(t, nil, "[]", 0)
	wantText(t, []api.Message{}, "[]", 0)
	for n := 1; n <= 10; n++ {
		wantText(t, slices.Repeat([]api.Message{ok("")}, n), repeated(n, bare), 0)
	}
	for n := 11; n < 40; n++ {
		wantNoText(t, slices.Repeat([]api.Message{ok("")}, n), 2)
		// Ahead of a body that is not valid, in each place.
		for at := range n {
			l := slices.Repeat([]api.Message{ok("")}, n)
			l[at].Body = "\xff"
			wantNoText(t, l, 2)
		}
	}
	wantNoText(t, slices.Repeat([]api.Message{ok("")}, 10000), 2)
}

func TestM3NotValidBodies(t *testing.T) {
	for _, body := range []string{"\xff", "\x80", "\xc0\x80", "\xc3", "\xe2\x82", "\xed\xa0\x80", "\xf4\x90\x80\x80", "a\xff", "\xffa", strings.Repeat("x", 3999) + "\xff", strings.Repeat("\n", 3990) + "\xff"} {
		for _, n := range []int{1, 2, 10} {
			for at := range n {
				l := slices.Repeat([]api.Message{ok("\u00e4")}, n)
				l[at].Body = body
				wantNoText(t, l, 30)
				// Ahead of a text that is too long for another reason.
				l[(at+1)%n].Head.Fields = manyFields(20).Head.Fields
				wantNoText(t, l, 30)
			}
		}
		wantNoText(t, []api.Message{ok(body), ok(strings.Repeat("x", 4000))}, 30)
		wantNoText(t, []api.Message{ok(strings.Repeat("x", 4000)), ok(body)}, 30)
	}
}

// The text has 4000 bytes, one less, or one more.
func TestM3Length(t *testing.T) {
	for n := 1; n <= 10; n++ {
		for _, length := range []int{3999, 4000} {
			l := fitting(n, length)
			s, e := batch.Encode(l)
			if len(s) != length || e != 0 {
				t.Errorf("%d: %d bytes, error %d", n, len(s), e)
			}
			checkText(t, l)
		}
		wantNoText(t, fitting(n, 4001), 2)
		wantNoText(t, fitting(n, 4002), 2)
	}
	// What an escape takes in the text, not what it stands for.
	for piece, size := range map[string]int{"\n": 2, "\"": 2, "\\": 2, "\x01": 6, "\x7f": 1, "\u20ac": 3} {
		room := 4000 - len(bare) - 2
		l := []api.Message{ok(strings.Repeat(piece, room/size) + strings.Repeat("x", room%size))}
		if s, _ := batch.Encode(l); len(s) != 4000 {
			t.Errorf("%q: %d bytes", piece, len(s))
		}
		checkText(t, l)
		l[0].Body += "x"
		wantNoText(t, l, 2)
	}
	// Fields alone.
	var members []string
	for i := range 20 {
		members = append(members, fmt.Sprintf("n-%d", i), strings.Repeat("v", 180))
	}
	l := []api.Message{ok("", members...)}
	if e := checkText(t, l); e != 0 {
		t.Error(e)
	}
	l = append(l, l[0])
	wantNoText(t, l, 2)
	// Fields that are left out take no room.
	for i := range l[1].Head.Fields {
		l[1].Head.Fields[i].Name = "n"
	}
	l = l[1:]
	if s, e := batch.Encode(l); len(s) > 300 || e != 0 {
		t.Errorf("%d bytes, error %d", len(s), e)
	}
}

func TestM3Statuses(t *testing.T) {
	for n := range 1000 {
		m := ok("")
		m.Head.Status = n
		if n < 100 || n > 599 {
			wantNoText(t, []api.Message{m}, 1)
			continue
		}
		wantText(t, []api.Message{m}, fmt.Sprintf(`[{"status":%d,"headers":{},"body":""}]`, n), 0)
	}
}

// Reason and Minor are not in the text.
func TestM3ReasonAndMinor(t *testing.T) {
	for _, reason := range []string{"", "OK", "Not \"Found\"", " ", "\t", strings.Repeat("r", 200)} {
		for minor := range 2 {
			m := ok("")
			m.Head.Reason, m.Head.Minor = reason, minor
			wantText(t, []api.Message{m}, listOf(bare), 0)
		}
	}
}

func TestM3Headers(t *testing.T) {
	for _, c := range []struct {
		want    string
		members []string
	}{
		{`{}`, nil},
		{`{"a":"b"}`, []string{"a", "b"}},
		{`{"a":"b"}`, []string{"A", "b"}},
		{`{"content-type":"Text/HTML"}`, []string{"CONTENT-Type", "Text/HTML"}},
		{`{"abcdefghijklmnopqrstuvwxyz":"ABCDEFGHIJKLMNOPQRSTUVWXYZ"}`, []string{"ABCDEFGHIJKLMNOPQRSTUVWXYZ", "ABCDEFGHIJKLMNOPQRSTUVWXYZ"}},
		{`{"!#$%&'*+-.^_` + "`" + `|~09":""}`, []string{"!#$%&'*+-.^_`|~09", ""}},
		{`{"b":"1","a":"2","c":"3"}`, []string{"b", "1", "a", "2", "c", "3"}},
		// The first of several, wherever they stand.
		{`{"a":"1"}`, []string{"a", "1", "a", "2"}},
		{`{"a":"1"}`, []string{"A", "1", "a", "2"}},
		{`{"a":"1"}`, []string{"a", "1", "A", "2"}},
		{`{"a":"1"}`, []string{"a", "1", "a", "1"}},
		{`{"a":""}`, []string{"a", "", "a", "1"}},
		{`{"ab":"1"}`, []string{"aB", "1", "Ab", "2", "AB", "3", "ab", "4"}},
		{`{"a":"1","b":"2"}`, []string{"a", "1", "b", "2", "a", "3"}},
		{`{"a":"1","b":"2","c":"5"}`, []string{"A", "1", "B", "2", "a", "3", "b", "4", "C", "5"}},
		{`{"set-cookie":"x=1"}`, []string{"Set-Cookie", "x=1", "Set-Cookie", "y=2", "set-cookie", "z=3"}},
		// Names that are alike and not the same, also where a fold of letters beyond A to Z would make them so.
		{`{"a":"1","ab":"2","b":"3","a-":"4","-a":"5"}`, []string{"a", "1", "ab", "2", "b", "3", "a-", "4", "-a", "5"}},
		{`{"^":"1","~":"2","` + "`" + `":"3","_":"4"}`, []string{"^", "1", "~", "2", "`", "3", "_", "4"}},
		// The names of the other keys.
		{`{"status":"404","headers":"x","body":"y"}`, []string{"Status", "404", "headers", "x", "Body", "y"}},
		{`{"a":"\"q\" \\ \t z/"}`, []string{"a", "\"q\" \\ \t z/"}},
	} {
		wantText(t, []api.Message{ok("", c.members...)}, `[{"status":200,"headers":`+c.want+`,"body":""}]`, 0)
		// What one answer has is not left out of another one.
		one := ok("", c.members...)
		wantText(t, []api.Message{one, one}, repeated(2, `{"status":200,"headers":`+c.want+`,"body":""}`), 0)
	}
	for n := range 21 {
		if e := checkText(t, []api.Message{manyFields(n)}); e != 0 {
			t.Errorf("%d: %d", n, e)
		}
	}
}

// Each byte that a name, or a value, may have.
func TestM3Bytes(t *testing.T) {
	for c := range 256 {
		s := one(c)
		checkText(t, []api.Message{ok("", s, "v")})
		checkText(t, []api.Message{ok("", "A"+s+"B", "v", "a"+s+"b", "w")})
		checkText(t, []api.Message{ok("", "n", "a"+s+"b")})
		checkText(t, []api.Message{ok("", "n", s)})
		checkText(t, []api.Message{ok(s)})
		checkText(t, []api.Message{ok("a" + s + "b")})
		checkText(t, []api.Message{ok(string(rune(c)))})
	}
}

func TestM3Bodies(t *testing.T) {
	for body, want := range map[string]string{
		"": `""`, "x": `"x"`, " ": `" "`, "\"": `"\""`, "\\": `"\\"`, "/": `"/"`, "\n\r\t": `"\n\r\t"`, "\x00\x1f": `"\u0000\u001f"`, "\b\f": `"\u0008\u000c"`, "\x7f": "\"\x7f\"",
		"\u00e4\u20ac\U0001f600": "\"\u00e4\u20ac\U0001f600\"", "\u2028": "\"\u2028\"", "<&>": `"<&>"`, `{"a":1}`: `"{\"a\":1}"`, "\ufffd": "\"\ufffd\"", "\\u0041": `"\\u0041"`,
	} {
		wantText(t, []api.Message{ok(body)}, `[{"status":200,"headers":{},"body":`+want+`}]`, 0)
		wantText(t, []api.Message{ok("a"), ok(body), ok("b")}, `[{"status":200,"headers":{},"body":"a"},{"status":200,"headers":{},"body":`+want+`},{"status":200,"headers":{},"body":"b"}]`, 0)
	}
}

// The answers are in order, each one with what is its own.
func TestM3Order(t *testing.T) {
	var l []api.Message
	var texts []string
	for i := range 10 {
		c := string(rune('a' + i))
		m := ok("body of "+c, "N-"+strings.ToUpper(c), "V "+c)
		m.Head.Status = 590 - i
		l = append(l, m)
		texts = append(texts, fmt.Sprintf(`{"status":%d,"headers":{"n-%s":"V %s"},"body":"body of %s"}`, 590-i, c, c, c))
	}
	for n := range 11 {
		wantText(t, l[:n], listOf(texts[:n]...), 0)
	}
	slices.Reverse(l)
	slices.Reverse(texts)
	wantText(t, l, listOf(texts...), 0)
}
