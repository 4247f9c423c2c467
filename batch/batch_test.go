package batch_test

import (
	"fmt"
	"math/rand/v2"
	"reflect"
	"regexp"
	"slices"
	"strconv"
	"strings"
	"testing"
	"unicode/utf8"

	"lockage/api"
	"lockage/batch"
	"lockage/json"
	"lockage/quote"
)

// What the chapters say of each part, once more, as patterns.
var (
	aName   = regexp.MustCompile("^[a-zA-Z0-9!#$%&'*+.^_`|~-]{1,40}$")
	aValue  = regexp.MustCompile(`^([!-~]([\t -~]{0,198}[!-~])?)?$`)
	aPath   = regexp.MustCompile(`^/[!-~]{0,199}$`)
	aStatus = regexp.MustCompile(`^[1-5][0-9][0-9]$`)
	aReason = regexp.MustCompile(`^[\t -~]{0,200}$`)
)

// one returns the string of that byte alone, whatever it is in UTF-8.
func one(c int) string { return string([]byte{byte(c)}) }

// short returns s, or its length and its ends if it is long.
func short(s string) string {
	if len(s) <= 300 {
		return strconv.Quote(s)
	}
	return fmt.Sprintf("%d bytes %q..%q", len(s), s[:100], s[len(s)-100:])
}

// told tells the messages l, or their beginning and their end.
func told(l []api.Message) string { return short(fmt.Sprintf("%+v", l)) }

// lit returns the literal that stands for s, or s itself between marks where none does.
func lit(s string) string {
	literal, e := quote.Quote(s)
	if e != api.OK {
		return `"` + s + `"`
	}
	return literal
}

// object returns the text of an object with those members: a key, the text of its value, and so on.
func object(members ...string) string {
	var l []string
	for i := 0; i < len(members); i += 2 {
		l = append(l, lit(members[i])+":"+members[i+1])
	}
	return "{" + strings.Join(l, ",") + "}"
}

// listOf returns the text of a list of those values.
func listOf(values ...string) string { return "[" + strings.Join(values, ",") + "]" }

// repeated returns the text of a list of n values that are all s.
func repeated(n int, s string) string { return listOf(slices.Repeat([]string{s}, n)...) }

// fields returns the text of an object with those names and values of fields.
func fields(members ...string) string {
	var l []string
	for i, m := range members {
		if i%2 == 1 {
			m = lit(m)
		}
		l = append(l, m)
	}
	return object(l...)
}

// numbered returns the text of n fields, no two of them alike.
func numbered(n int) string {
	var l []string
	for i := range n {
		l = append(l, fmt.Sprintf("X-%d", i), fmt.Sprintf("v %d", i))
	}
	return fields(l...)
}

// The values that are valid and have nothing that may be missing.
const (
	get  = `{"method":"GET","path":"/"}`
	okay = `{"status":200}`
)

// least returns the value that is valid and has nothing that may be missing.
func least(answers bool) string {
	if answers {
		return okay
	}
	return get
}

// leastMembers returns the members of that value.
func leastMembers(answers bool) []string {
	if answers {
		return []string{"status", "200"}
	}
	return []string{"method", `"GET"`, "path", `"/"`}
}

// call calls Answers, or Requests.
func call(s string, answers bool) ([]api.Message, api.Errno) {
	if answers {
		return batch.Answers(s)
	}
	return batch.Requests(s)
}

// same reports whether two lists of messages are equal: by R2 it does not matter whether a list without elements is nil.
func same(a, b []api.Message) bool {
	return slices.EqualFunc(a, b, func(m, n api.Message) bool {
		equal := slices.Equal(m.Head.Fields, n.Head.Fields)
		m.Head.Fields, n.Head.Fields = nil, nil
		return equal && reflect.DeepEqual(m, n)
	})
}

// decoded says M1 and M2 once more. What layer 11 says of texts is asked of it.
func decoded(s string, answers bool) ([]api.Message, api.Errno) {
	v, e, _ := json.Parse(s)
	switch {
	case e != 0:
		return nil, e
	case v.Kind != 6:
		return nil, 33
	case len(v.Kids) > 10:
		return nil, 2
	}
	var l []api.Message
	for _, kid := range v.Kids {
		m, is := decodedOne(kid, answers)
		if !is {
			return nil, 33
		}
		l = append(l, m)
	}
	return l, 0
}

// decodedOne says what the chapter's words say of one value: first what must be there, then that nothing else is.
func decodedOne(v api.Value, answers bool) (api.Message, bool) {
	if v.Kind != 7 {
		return api.Message{}, false
	}
	members := map[string]api.Value{}
	for i, key := range v.Keys {
		members[key] = v.Kids[i]
	}
	m := api.Message{Head: api.Head{Minor: 1}}
	if answers {
		status, is := members["status"]
		if !is || status.Kind != 4 || !aStatus.MatchString(status.Text) {
			return api.Message{}, false
		}
		fmt.Sscan(status.Text, &m.Head.Status)
		delete(members, "status")
	} else {
		method, is := members["method"]
		path, too := members["path"]
		if !is || !too || method.Kind != 5 || path.Kind != 5 || !aName.MatchString(method.Text) || !aPath.MatchString(path.Text) {
			return api.Message{}, false
		}
		m.Head.Method, m.Head.Target = method.Text, path.Text
		delete(members, "method")
		delete(members, "path")
	}
	if body, is := members["body"]; is {
		m.Body = body.Text
		if body.Kind != 5 {
			return api.Message{}, false
		}
		delete(members, "body")
	}
	if headers, is := members["headers"]; is {
		if headers.Kind != 7 || len(headers.Kids) > 20 {
			return api.Message{}, false
		}
		for i, value := range headers.Kids {
			if value.Kind != 5 || !aName.MatchString(headers.Keys[i]) || !aValue.MatchString(value.Text) {
				return api.Message{}, false
			}
			m.Head.Fields = append(m.Head.Fields, api.Field{Name: headers.Keys[i], Value: value.Text})
		}
		delete(members, "headers")
	}
	return m, len(members) == 0
}

// rightAnswer says of a message what M3 says first.
func rightAnswer(m api.Message) bool {
	h := m.Head
	for _, f := range h.Fields {
		if !aName.MatchString(f.Name) || !aValue.MatchString(f.Value) {
			return false
		}
	}
	return len(h.Fields) <= 20 && (h.Minor == 0 || h.Minor == 1) && aStatus.MatchString(strconv.Itoa(h.Status)) && aReason.MatchString(h.Reason) && h.Method+h.Target == "" && len(m.Body) <= 4000
}

// encoded says M3 once more. What layer 10 says of strings is asked of it.
func encoded(l []api.Message) (string, api.Errno) {
	var texts []string
	broken := false
	for _, m := range l {
		if !rightAnswer(m) {
			return "", 1
		}
		broken = broken || !utf8.ValidString(m.Body)
		var members []string
		known := map[string]int{}
		for _, f := range m.Head.Fields {
			name := strings.ToLower(f.Name)
			known[name]++
			if known[name] == 1 {
				members = append(members, name, f.Value)
			}
		}
		texts = append(texts, fmt.Sprintf(`{"status":%d,"headers":%s,"body":%s}`, m.Head.Status, fields(members...), lit(m.Body)))
	}
	text := listOf(texts...)
	switch {
	case len(l) > 10:
		return "", 2
	case broken:
		return "", 30
	case len(text) > 4000:
		return "", 2
	}
	return text, 0
}

// wantMessages holds Requests, or Answers, against messages, or an error, with which there are none.
func wantMessages(t *testing.T, s string, answers bool, want []api.Message, wantE api.Errno) {
	t.Helper()
	if l, e := call(s, answers); e != wantE || !same(l, want) {
		t.Errorf("%s, answers %v: %s %d, want %s %d", short(s), answers, told(l), e, told(want), wantE)
	}
	// What the promise says once more says the same, else it would be of no use.
	if l, e := decoded(s, answers); e != wantE || !same(l, want) {
		t.Errorf("%s, answers %v: %s %d is said once more, want %s %d", short(s), answers, told(l), e, told(want), wantE)
	}
}

// wantRefused holds both Requests and Answers against an error.
func wantRefused(t *testing.T, s string, want api.Errno) {
	t.Helper()
	wantMessages(t, s, false, nil, want)
	wantMessages(t, s, true, nil, want)
}

// check holds Requests and Answers of s against M1 and M2, and returns the error of one of them.
func check(t *testing.T, s string, answers bool) api.Errno {
	t.Helper()
	want, e := decoded(s, answers)
	wantMessages(t, s, answers, want, e)
	other, f := decoded(s, !answers)
	wantMessages(t, s, !answers, other, f)
	return e
}

// wantValid holds Requests, or Answers, of a list of that value against whether the value is valid.
func wantValid(t *testing.T, value string, answers, want bool) {
	t.Helper()
	e := check(t, listOf(value), answers)
	if want && e != 0 || !want && e != 33 {
		t.Errorf("%s, answers %v: %d", short(value), answers, e)
	}
	// Also where another one goes ahead of it, or follows it.
	if e != check(t, listOf(least(answers), value), answers) || e != check(t, listOf(value, least(answers)), answers) {
		t.Errorf("%s, answers %v: not everywhere %d", short(value), answers, e)
	}
}

// wantText holds Encode against a text, or an error, with which there is none.
func wantText(t *testing.T, l []api.Message, want string, wantE api.Errno) {
	t.Helper()
	if s, e := batch.Encode(l); s != want || e != wantE {
		t.Errorf("%s: %s %d, want %s %d", told(l), short(s), e, short(want), wantE)
	}
	if s, e := encoded(l); s != want || e != wantE {
		t.Errorf("%s: %s %d is said once more, want %s %d", told(l), short(s), e, short(want), wantE)
	}
}

// wantNoText holds Encode against an error.
func wantNoText(t *testing.T, l []api.Message, want api.Errno) {
	t.Helper()
	wantText(t, l, "", want)
}

// checkText holds Encode of l against M3, and returns the error.
func checkText(t *testing.T, l []api.Message) api.Errno {
	t.Helper()
	want, e := encoded(l)
	wantText(t, l, want, e)
	return e
}

// values is the texts of values of each kind, some of them empty.
func values() []string {
	return []string{"null", "false", "true", "0", "1", "-1", "200", "2e2", "200.0", `""`, `"a"`, `"/"`, `"200"`, "[]", "[1]", `["a"]`, `["A","b"]`, "{}", `{"a":1}`, `{"A":"b"}`, get, okay}
}

func TestErrors(t *testing.T) {
	if api.OK != 0 || api.ErrArg != 1 || api.ErrLong != 2 || api.ErrText != 30 || api.ErrJson != 31 || api.ErrDeep != 32 || api.ErrShape != 33 {
		t.Error("the errors' numbers are those of the chapters")
	}
	if api.Number != 4 || api.Text != 5 || api.List != 6 || api.Object != 7 {
		t.Error("the kinds are those of package api")
	}
}

func TestExample(t *testing.T) {
	wantMessages(t, `[{"method":"GET","path":"/a"}]`, false, []api.Message{{Head: api.Head{Method: "GET", Target: "/a", Minor: 1}}}, 0)
	wantMessages(t, `[{"method":"GET","path":"/a"}]`, true, nil, 33)
}

// anyString returns a string of pieces that matter in names, values and bodies.
func anyString(r *rand.Rand, most int) string {
	pieces := []string{"a", "B", "c-D", "0", "/", " ", "\t", ":", ",", "\"", "\\", "\n", "\r", "\x00", "\x7f", "\u00e4", "\u20ac", "\U0001f600"}
	s := ""
	for range r.IntN(most + 1) {
		s += pieces[r.IntN(len(pieces))]
	}
	return s
}

// pick returns one of those.
func pick(r *rand.Rand, l ...string) string { return l[r.IntN(len(l))] }

// anyName returns the name of a field, which is seldom not valid.
func anyName(r *rand.Rand) string {
	if r.IntN(40) == 0 {
		return anyString(r, 3)
	}
	return pick(r, "A", "a", "B", "b", "Host", "HOST", "X-1", "x-1", "!", "~")
}

// anyFieldValue returns the value of a field, which is seldom not valid.
func anyFieldValue(r *rand.Rand) string {
	if r.IntN(40) == 0 {
		return anyString(r, 3)
	}
	return pick(r, "", "v", "V", "a b", "a\tb", "\"q\"", "\\")
}

// anyMembers returns the members of a value that is often valid, in any order.
func anyMembers(r *rand.Rand, answers bool) [][2]string {
	l := [][2]string{}
	add := func(key, value string) {
		if r.IntN(40) == 0 {
			value = pick(r, values()...)
		}
		if r.IntN(60) > 0 {
			l = append(l, [2]string{key, value})
		}
	}
	if answers != (r.IntN(60) == 0) {
		add("status", pick(r, "100", "200", "404", "599", strconv.Itoa(100+r.IntN(510))))
	} else {
		add("method", lit(pick(r, "GET", "POST", "x", anyName(r))))
		add("path", lit(pick(r, "/", "/a", "/a?b", "/"+anyName(r))))
	}
	if r.IntN(2) == 0 {
		add("body", lit(anyString(r, 4)))
	}
	if r.IntN(2) == 0 {
		var members []string
		for range r.IntN(4) {
			if name := anyName(r); !slices.Contains(members, name) {
				members = append(members, name, anyFieldValue(r))
			}
		}
		add("headers", fields(members...))
	}
	if r.IntN(40) == 0 {
		add(pick(r, "", "Method", "path ", "status", "method", "header", "Body", anyString(r, 2)), pick(r, values()...))
	}
	r.Shuffle(len(l), func(i, j int) { l[i], l[j] = l[j], l[i] })
	return l
}

// anyBatch returns the text of a list of values that are often valid.
func anyBatch(r *rand.Rand, answers bool) string {
	var l []string
	for range r.IntN(5) {
		var members []string
		for _, m := range anyMembers(r, answers) {
			members = append(members, m[0], m[1])
		}
		l = append(l, object(members...))
	}
	if r.IntN(40) == 0 {
		l = append(l, pick(r, values()...))
	}
	return listOf(l...)
}

func TestRandomBatches(t *testing.T) {
	r := rand.New(rand.NewPCG(12, 1))
	seen := map[api.Errno]int{}
	for i := range 40000 {
		s := anyBatch(r, i%2 == 0)
		if r.IntN(10) == 0 && len(s) > 2 {
			at := r.IntN(len(s))
			s = s[:at] + pick(r, "", "x", "\"", "]", "}", "\xff", "\\", " ") + s[at+1:]
		}
		seen[check(t, s, i%2 == 0)]++
	}
	// Else the test would not say what it means.
	if seen[0] < 8000 || seen[33] < 4000 || seen[31] < 1000 || seen[30] < 100 {
		t.Error(seen)
	}
}

// anyAnswer returns a message that is seldom not a valid answer.
func anyAnswer(r *rand.Rand) api.Message {
	m := api.Message{Head: api.Head{Status: 100 + r.IntN(500), Minor: r.IntN(2), Reason: pick(r, "", "OK", "Not Found", " ", "\t")}, Body: anyString(r, 5)}
	for range r.IntN(5) {
		m.Head.Fields = append(m.Head.Fields, api.Field{Name: anyName(r), Value: anyFieldValue(r)})
	}
	switch r.IntN(120) {
	case 0:
		m.Head.Status = []int{-200, -1, 0, 1, 99, 600, 1000, 1 << 53, -1 << 63}[r.IntN(9)]
	case 1:
		m.Head.Minor = r.IntN(6) - 3
	case 2:
		m.Head.Method = pick(r, "GET", "x")
	case 3:
		m.Head.Target = "/"
	case 4:
		m.Head.Reason = anyString(r, 3)
	case 5:
		m.Body += "\xff"
	case 6:
		m.Body = strings.Repeat(pick(r, "x", "\n", "\x00", "\u20ac"), 3000+r.IntN(2000))
	case 7:
		for len(m.Head.Fields) < 19+r.IntN(4) {
			m.Head.Fields = append(m.Head.Fields, api.Field{Name: anyName(r), Value: anyFieldValue(r)})
		}
	}
	return m
}

func TestRandomAnswers(t *testing.T) {
	r := rand.New(rand.NewPCG(12, 2))
	seen := map[api.Errno]int{}
	for range 40000 {
		var l []api.Message
		for range r.IntN(6) * (1 + r.IntN(3)) {
			l = append(l, anyAnswer(r))
		}
		seen[checkText(t, l)]++
	}
	// Else the test would not say what it means.
	if seen[0] < 8000 || seen[1] < 4000 || seen[2] < 1000 || seen[30] < 400 {
		t.Error(seen)
	}
}

// clone returns l in memory of its own, with room behind each list.
func clone(l []api.Message) []api.Message {
	c := append(make([]api.Message, 0, len(l)+2), l...)
	for i, m := range l {
		c[i].Head.Fields = append(make([]api.Field, 0, len(m.Head.Fields)+2), m.Head.Fields...)
	}
	return c
}

// whole tells l and what is behind its lists.
func whole(l []api.Message) string {
	s := fmt.Sprintf("%#v", l[:cap(l)])
	for _, m := range l {
		s += fmt.Sprintf("%q", m.Head.Fields[:cap(m.Head.Fields)])
	}
	return s
}

// Arguments are not modified, also beyond the lengths of their lists.
func TestArgumentsStay(t *testing.T) {
	r := rand.New(rand.NewPCG(12, 3))
	for range 20000 {
		var l []api.Message
		for range r.IntN(4) {
			l = append(l, anyAnswer(r))
		}
		l = clone(l)
		before := whole(l)
		batch.Encode(l)
		if whole(l) != before {
			t.Fatalf("%s became %s", before, whole(l))
		}
	}
}

// The result of a call does not depend on earlier calls, nor on what was done with their results.
func TestNoState(t *testing.T) {
	r := rand.New(rand.NewPCG(12, 4))
	for i := range 20000 {
		answers := i%2 == 0
		s := anyBatch(r, answers)
		want, wantE := decoded(s, answers)
		first, _ := call(s, answers)
		for j := range first[:cap(first)] {
			m := &first[:cap(first)][j]
			m.Head.Minor, m.Body = 7, "spoilt"
			spoil(m.Head.Fields)
		}
		wantMessages(t, s, answers, want, wantE)
	}
}

// spoil changes all that is in the list and behind it.
func spoil(l []api.Field) {
	for k := range l[:cap(l)] {
		l[:cap(l)][k] = api.Field{Name: "spoilt", Value: "spoilt"}
	}
}

// No two lists of one result share memory.
func TestMemoryOfItsOwn(t *testing.T) {
	for _, answers := range []bool{false, true} {
		var values []string
		for i := range 10 {
			members := append(leastMembers(answers), "headers", numbered(i))
			values = append(values, object(members...))
		}
		s := listOf(values...)
		want, _ := decoded(s, answers)
		for i := range want {
			l, _ := call(s, answers)
			spoil(l[i].Head.Fields)
			l[i].Head.Fields = want[i].Head.Fields
			if !same(l, want) {
				t.Errorf("%d: %s", i, told(l))
			}
		}
	}
}
