package batch_test

import (
	"slices"
	"strings"
	"testing"

	"lockage/api"
	"lockage/batch"
)

// Texts that layer 11 refuses, with each of its errors: also where what is read by then is no batch either.
func TestM1M2Texts(t *testing.T) {
	for s, want := range map[string]api.Errno{
		"": 31, " ": 31, "x": 31, "[": 31, "]": 31, "[,]": 31, "[1,]": 31, "[1 2]": 31, "nul": 31, "01": 31, "{": 31, `{"a"}`: 31, `{"a":1,}`: 31, `{"a":1,"a":2}`: 31,
		"[]]": 31, "[] []": 31, "{}x": 31, "1 1": 31, "'x'": 31, "\xef\xbb\xbf[]": 31, "[1.]": 31,
		`"`: 30, `["`: 30, `["\x"]`: 30, "[\"\xff\"]": 30, "[\"\n\"]": 30, `{"\ud800":1}`: 30, "{\"\x00\":1}": 30,
		strings.Repeat("[", 17): 32, strings.Repeat("[", 16) + "1": 32, strings.Repeat(`{"a":`, 16) + "1": 32,
		repeated(500, "1"): 2, repeated(499, "1") + "x": 31, "[" + strings.Repeat(" ", 3999) + "]": 2, "{" + strings.Repeat(" ", 3999) + "}": 2, strings.Repeat("x", 4001): 2, strings.Repeat("\"", 4001): 2,
	} {
		wantRefused(t, s, want)
	}
	for _, answers := range []bool{false, true} {
		v, members := least(answers), leastMembers(answers)
		// What is not valid in the one value, or behind it.
		for s, want := range map[string]api.Errno{
			"[" + v: 31, "[" + v + ",]": 31, "[" + v + "]]": 31, "[" + v + "],": 31, v + "]": 31, "[" + v + " " + v + "]": 31, "[" + v[:len(v)-1] + "]": 31,
			listOf(object(append(slices.Clone(members), members...)...)):                            31,
			listOf(object(append(slices.Clone(members), "body", `""`, "body", `""`)...)):            31,
			listOf(object(append(slices.Clone(members), "headers", "{}", "headers", "{}")...)):      31,
			listOf(object(append(slices.Clone(members), "headers", fields("A", "b", "A", "b"))...)): 31,
			listOf(object(append(slices.Clone(members), "body", "\"\xff\"")...)):                    30,
			listOf(object(append(slices.Clone(members), "body", `"\ud800"`)...)):                    30,
			listOf(object(append(slices.Clone(members), "body", strings.Repeat("[", 14))...)):       32,
			// An error of the text goes ahead of one of the shape, or of the length.
			repeated(11, v) + "x": 31, repeated(11, "1") + "x": 31, "[1," + v + ",x]": 31, `[{"a":1},"\x"]`: 30, `{"a":"\x"}`: 30,
		} {
			wantMessages(t, s, answers, nil, want)
		}
	}
}

// Values of each kind that are no List.
func TestM1M2NoList(t *testing.T) {
	for _, s := range values() {
		if !strings.HasPrefix(s, "[") {
			wantRefused(t, s, 33)
			wantRefused(t, " "+s+"\n", 33)
		}
	}
	// Objects with more than ten values, too.
	var members []string
	for _, key := range strings.Split("abcdefghijkl", "") {
		members = append(members, key, get)
	}
	wantRefused(t, object(members...), 33)
	wantRefused(t, object("values", repeated(11, get)), 33)
	wantRefused(t, lit(listOf(get)), 33)
}

func TestM1M2Empty(t *testing.T) {
	for _, s := range []string{"[]", " []", "[ ]", "\t[\r\n]\n", "[" + strings.Repeat(" ", 3998) + "]"} {
		wantMessages(t, s, false, nil, 0)
		wantMessages(t, s, true, nil, 0)
	}
}

// leastMessage returns the message of the value that has nothing that may be missing.
func leastMessage(answers bool) api.Message {
	if answers {
		return api.Message{Head: api.Head{Status: 200, Minor: 1}}
	}
	return api.Message{Head: api.Head{Method: "GET", Target: "/", Minor: 1}}
}

func TestM1M2Many(t *testing.T) {
	for _, answers := range []bool{false, true} {
		for n := range 11 {
			wantMessages(t, repeated(n, least(answers)), answers, slices.Repeat([]api.Message{leastMessage(answers)}, n), 0)
		}
		for n := 11; n < 30; n++ {
			wantMessages(t, repeated(n, least(answers)), answers, nil, 2)
			wantRefused(t, repeated(n, "1"), 2)
			wantRefused(t, repeated(n, "{}"), 2)
		}
		wantRefused(t, repeated(499, "1"), 2)
	}
}

// One value that is not valid, among as many as may be, and among one more.
func TestM1M2OneWrong(t *testing.T) {
	for _, answers := range []bool{false, true} {
		for _, wrong := range append(values(), least(!answers), object(), object("status", "99"), object("method", `"GET"`)) {
			if wrong == least(answers) {
				continue
			}
			for _, n := range []int{1, 2, 10, 11} {
				for at := range n {
					l := slices.Repeat([]string{least(answers)}, n)
					l[at] = wrong
					want := api.Errno(33)
					if n == 11 {
						want = 2
					}
					wantMessages(t, listOf(l...), answers, nil, want)
				}
			}
		}
	}
}

// The messages are in the order of the values, each one with what is its own.
func TestM1M2Order(t *testing.T) {
	var requests, answers []string
	var asked, told []api.Message
	for i, c := range strings.Split("abcdefghij", "") {
		m := api.Message{Head: api.Head{Minor: 1}}
		var members []string
		if i%3 > 0 {
			m.Body = "body of " + c
			members = append(members, "body", lit(m.Body))
		}
		if i%2 > 0 {
			m.Head.Fields = []api.Field{{Name: "N-" + c, Value: "v " + c}}
			members = append(members, "headers", fields("N-"+c, "v "+c))
		}
		request, answer := m, m
		request.Head.Method, request.Head.Target = c, "/"+c
		answer.Head.Status = 200 + i
		asked, told = append(asked, request), append(told, answer)
		requests = append(requests, object(append(slices.Clone(members), "path", lit("/"+c), "method", lit(c))...))
		answers = append(answers, object(append(slices.Clone(members), "status", "20"+string(rune('0'+i)))...))
	}
	for n := range 11 {
		wantMessages(t, listOf(requests[:n]...), false, asked[:n], 0)
		wantMessages(t, listOf(answers[:n]...), true, told[:n], 0)
	}
	slices.Reverse(requests)
	slices.Reverse(asked)
	wantMessages(t, listOf(requests...), false, asked, 0)
}

// Blanks, and other spellings of the same text.
func TestM1M2Spellings(t *testing.T) {
	m := api.Message{Head: api.Head{Method: "GET", Target: "/a", Minor: 1, Fields: []api.Field{{Name: "A", Value: "b"}}}, Body: "x\n\u00e4\U0001f600"}
	for _, s := range []string{
		`[{"method":"GET","path":"/a","headers":{"A":"b"},"body":"x\n` + "\u00e4\U0001f600" + `"}]`,
		"\n[ { \"method\" : \"GET\" ,\t\"path\":\r\n\"/a\" , \"headers\" : { \"A\" : \"b\" } , \"body\" : \"x\\n\\u00e4\\ud83d\\ude00\" } ]\n",
		`[{"\u006dethod":"\u0047ET","pat\u0068":"\/\u0061","\u0068eaders":{"\u0041":"\u0062"},"bod\u0079":"\u0078\u000A\u00E4\uD83D\uDE00"}]`,
	} {
		wantMessages(t, s, false, []api.Message{m}, 0)
	}
	wantMessages(t, "[\t{ \"\\u0073tatus\" : 200 } ] ", true, []api.Message{leastMessage(true)}, 0)
}

// A text of 4000 bytes is read, and one of 4001 is not.
func TestM1M2Length(t *testing.T) {
	for _, answers := range []bool{false, true} {
		bare := listOf(object(append(leastMembers(answers), "body", `""`)...))
		for _, more := range []int{-1, 0, 1} {
			m := leastMessage(answers)
			m.Body = strings.Repeat("x", 4000-len(bare)+more)
			s := listOf(object(append(leastMembers(answers), "body", lit(m.Body))...))
			if more > 0 {
				wantMessages(t, s, answers, nil, 2)
			} else {
				wantMessages(t, s, answers, []api.Message{m}, 0)
			}
		}
		wantMessages(t, listOf(least(answers))+strings.Repeat(" ", 4000-len(least(answers))-2), answers, []api.Message{leastMessage(answers)}, 0)
		wantMessages(t, listOf(least(answers))+strings.Repeat(" ", 4001-len(least(answers))-2), answers, nil, 2)
	}
}

// What one of the calls takes, the other one does not, but for no values at all.
func TestM1M2NotTheOther(t *testing.T) {
	for n := range 10 {
		wantMessages(t, repeated(n+1, get), true, nil, 33)
		wantMessages(t, repeated(n+1, okay), false, nil, 33)
	}
	if _, e := batch.Requests(listOf(get, okay)); e != 33 {
		t.Error(e)
	}
	if _, e := batch.Answers(listOf(okay, get)); e != 33 {
		t.Error(e)
	}
}
