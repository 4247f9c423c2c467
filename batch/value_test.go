package batch_test

import (
	"fmt"
	"slices"
	"strings"
	"testing"

	"lockage/api"
)

// with returns the text of the valid value that has nothing that may be missing, and those members too.
func with(answers bool, members ...string) string {
	return object(append(leastMembers(answers), members...)...)
}

// both calls do for the values of requests and those of answers.
func both(do func(answers bool)) {
	do(false)
	do(true)
}

// permutations calls do with the members, two strings each, in each order.
func permutations(members []string, do func(members []string)) {
	var grow func(done, left []string)
	grow = func(done, left []string) {
		if len(left) == 0 {
			do(done)
		}
		for i := 0; i < len(left); i += 2 {
			rest := slices.Delete(slices.Clone(left), i, i+2)
			grow(append(slices.Clone(done), left[i], left[i+1]), rest)
		}
	}
	grow(nil, members)
}

// Each of method and path absent, empty, of each kind, and valid.
func TestM1MethodAndPath(t *testing.T) {
	texts := append(values(), "", `"GET"`, `"/a"`, `"a"`, `"a/"`, `" /"`, `"//"`, `"*"`, `"\u002fa"`, `"\/a"`, `"\\/"`)
	valid := 0
	for _, method := range texts {
		for _, path := range texts {
			var members []string
			if method != "" {
				members = append(members, "method", method)
			}
			if path != "" {
				members = append(members, "path", path)
			}
			want := slices.Contains([]string{`"GET"`, `"a"`, `"200"`, `"*"`}, method) && slices.Contains([]string{`"/"`, `"/a"`, `"//"`, `"\u002fa"`, `"\/a"`}, path)
			wantValid(t, object(members...), false, want)
			if want {
				valid++
			}
		}
	}
	// Else the test would not say what it means.
	if valid < 20 {
		t.Errorf("%d valid ones", valid)
	}
}

func TestM1Methods(t *testing.T) {
	for s, want := range map[string]bool{
		"GET": true, "get": true, "POST": true, "x": true, "x-y": true, "0": true, "!#$%&'*+-.^_`|~": true, strings.Repeat("M", 40): true,
		"": false, " ": false, "G T": false, " GET": false, "GET ": false, "GET\n": false, "G/T": false, "G:T": false, "G,T": false, `"GET"`: false, "\u00e4": false, strings.Repeat("M", 41): false, strings.Repeat("M", 3000): false,
	} {
		wantValid(t, object("method", lit(s), "path", `"/"`), false, want)
	}
}

func TestM1Paths(t *testing.T) {
	for s, want := range map[string]bool{
		"/": true, "/a": true, "//": true, "/a/b": true, "/a?b=c&d": true, "/?": true, "/..": true, "/%41": true, "/%": true, "/#": true, "/:": true, "/*": true, "/~": true, "/!": true, "/\"": true, "/\\": true, "/{}": true,
		"/" + strings.Repeat("p", 199): true, "/" + strings.Repeat("p", 200): false, "/" + strings.Repeat("p", 3000): false,
		"": false, "a": false, "a/": false, "?": false, "*": false, "\\": false, ".": false, "./": false, "..": false, " /": false, "\t/": false, "\n/": false, "http://h/": false, "h:80": false, "%2f": false,
		"/ ": false, "/a b": false, "/\t": false, "/\n": false, "/\x00": false, "/\x7f": false, "/\u00e4": false, "/\U0001f600": false, "\u2215": false, strings.Repeat("p", 200): false,
	} {
		wantValid(t, object("path", lit(s), "method", `"GET"`), false, want)
	}
}

// Each byte, in the method, in the path, in a name, in a value, and in the body.
func TestM1M2Bytes(t *testing.T) {
	for c := range 256 {
		for _, s := range []string{one(c), "a" + one(c), one(c) + "a", "a" + one(c) + "a", string(rune(c)), "a" + string(rune(c)) + "a"} {
			literal := lit(s)
			check(t, listOf(object("method", literal, "path", `"/"`)), false)
			check(t, listOf(object("method", `"a"`, "path", literal)), false)
			check(t, listOf(object("method", `"a"`, "path", lit("/"+s))), false)
			both(func(answers bool) {
				check(t, listOf(with(answers, "headers", fields(s, "v"))), answers)
				check(t, listOf(with(answers, "headers", fields("N", s))), answers)
				check(t, listOf(with(answers, "body", literal)), answers)
				check(t, listOf(with(answers, s, `"a"`)), answers)
			})
			check(t, listOf(object("status", s)), true)
			check(t, listOf(object("status", "2"+s+"0")), true)
			check(t, listOf(object("status", literal)), true)
		}
	}
}

// The status absent, of each kind, and in each way in which a number may be written.
func TestM2Status(t *testing.T) {
	for s, want := range map[string]bool{
		"100": true, "101": true, "199": true, "200": true, "204": true, "304": true, "404": true, "500": true, "599": true,
		"99": false, "600": false, "999": false, "0": false, "1": false, "9": false, "10": false, "20": false, "1000": false, "2000": false, "5990": false, "20000": false,
		"-200": false, "-0": false, "-1": false, "200.0": false, "200.5": false, "20.0": false, "0.2e3": false, "2e2": false, "2E2": false, "2e+2": false, "200e0": false, "200E0": false, "200e-0": false, "200e+0": false, "20000e-2": false, "2.0e2": false, "-200e0": false,
		"9007199254740992": false, "9007199254740993": false, "9223372036854775807": false, "18446744073709551616": false, "18446744073709551816": false, "340282366920938463463374607431768211656": false, strings.Repeat("2", 3000): false,
		`"200"`: false, `"OK"`: false, `""`: false, "null": false, "true": false, "false": false, "[]": false, "[200]": false, "{}": false, `{"200":200}`: false,
	} {
		wantValid(t, object("status", s), true, want)
		wantValid(t, object("body", `"x"`, "status", s, "headers", "{}"), true, want)
	}
	for s, want := range map[string]api.Errno{"0200": 31, "00": 31, "+200": 31, "200.": 31, "0xc8": 31, "200e": 31, "2 00": 31, "2_00": 31, "": 31, ".2e3": 31, "\u0662\u0660\u0660": 31, "-": 31} {
		wantRefused(t, listOf(object("status", s)), want)
	}
	for n := range 2000 {
		s := fmt.Sprint(n)
		want := api.Errno(33)
		var messages []api.Message
		if n >= 100 && n <= 599 {
			want, messages = 0, []api.Message{{Head: api.Head{Status: n, Minor: 1}}}
		}
		wantMessages(t, listOf(object("status", s)), true, messages, want)
	}
}

// What has to be there is not there, whatever else is.
func TestM1M2Missing(t *testing.T) {
	for _, members := range [][]string{{}, {"headers", "{}"}, {"body", `"x"`}, {"headers", fields("A", "b"), "body", `"x"`}} {
		wantValid(t, object(members...), false, false)
		wantValid(t, object(members...), true, false)
		wantValid(t, object(append([]string{"method", `"GET"`}, members...)...), false, false)
		wantValid(t, object(append([]string{"path", `"/"`}, members...)...), false, false)
		wantValid(t, object(append([]string{"method", `"GET"`, "path", `"/"`}, members...)...), false, true)
		wantValid(t, object(append([]string{"status", "200"}, members...)...), true, true)
	}
}

// Each key that is not allowed, also where the value under it is empty.
func TestM1M2OtherKeys(t *testing.T) {
	both(func(answers bool) {
		known := []string{"method", "path", "headers", "body"}
		others := []string{"status"}
		if answers {
			known, others = []string{"status", "headers", "body"}, []string{"method", "path"}
		}
		others = append(others, "", " ", "other", "Method", "METHOD", "target", "url", "reason", "minor", "header", "Headers", "HEADERS", "Body", "bodY", "bodies", "Status", "statu", "id", "\u00e4", "\x00", "null", "__proto__")
		for _, key := range known {
			others = append(others, key+" ", " "+key, key+"s", key+"\x00", key[1:], key[:len(key)-1], strings.ToUpper(key), strings.ToUpper(key[:1])+key[1:], key+key, `"`+key+`"`)
		}
		for _, key := range others {
			if slices.Contains(known, key) {
				continue
			}
			for _, value := range values() {
				wantValid(t, with(answers, key, value), answers, false)
				wantValid(t, object(append([]string{key, value}, leastMembers(answers)...)...), answers, false)
			}
			// In place of a key that is allowed.
			for _, place := range known {
				s := strings.Replace(with(answers, "headers", "{}", "body", `""`), lit(place)+":", lit(key)+":", 1)
				wantValid(t, s, answers, false)
			}
		}
	})
}

// The members in each order, with nothing and with something in them.
func TestM1M2KeyOrders(t *testing.T) {
	both(func(answers bool) {
		m := leastMessage(answers)
		m.Head.Fields = []api.Field{{Name: "B", Value: "1"}, {Name: "A", Value: "2"}}
		m.Body = "x"
		orders := 0
		permutations(append(leastMembers(answers), "headers", fields("B", "1", "A", "2"), "body", `"x"`), func(members []string) {
			wantMessages(t, listOf(object(members...)), answers, []api.Message{m}, 0)
			wantValid(t, object(append(slices.Clone(members), "more", "1")...), answers, false)
			orders++
		})
		if orders != 24 && orders != 6 {
			t.Errorf("%d orders", orders)
		}
	})
}

func TestM1M2Headers(t *testing.T) {
	both(func(answers bool) {
		for _, s := range values() {
			wantValid(t, with(answers, "headers", s), answers, s == "{}" || s == `{"A":"b"}` || s == get)
			// As one of the values in it, in each place.
			want := strings.HasPrefix(s, `"`)
			wantValid(t, with(answers, "headers", object("A", s)), answers, want)
			wantValid(t, with(answers, "headers", object("A", s, "B", `"b"`)), answers, want)
			wantValid(t, with(answers, "headers", object("A", `"a"`, "B", s)), answers, want)
		}
		want := leastMessage(answers)
		wantMessages(t, listOf(with(answers, "headers", "{}")), answers, []api.Message{want}, 0)
		want.Head.Fields = []api.Field{{Name: "Z", Value: "1"}, {Name: "a", Value: ""}, {Name: "A", Value: "2"}, {Name: "Content-Length", Value: "x"}, {Name: "b", Value: "1"}, {Name: "method", Value: "POST"}}
		wantMessages(t, listOf(with(answers, "headers", fields("Z", "1", "a", "", "A", "2", "Content-Length", "x", "b", "1", "method", "POST"))), answers, []api.Message{want}, 0)
	})
}

// Fields that layer 6 refuses, and those at its limits.
func TestM1M2Fields(t *testing.T) {
	both(func(answers bool) {
		for name, want := range map[string]bool{"A": true, "a": true, "0": true, "~": true, strings.Repeat("n", 40): true, strings.Repeat("n", 41): false, "": false, " ": false, "A b": false, " A": false, "A ": false, "A:": false, ":": false, "A\n": false, "A\r\nB": false, "\u00e4": false, "\x00": false, "\x7f": false, "(": false, "/": false} {
			wantValid(t, with(answers, "headers", fields(name, "v")), answers, want)
			wantValid(t, with(answers, "headers", fields("Ok", "v", name, "v")), answers, want)
			wantValid(t, with(answers, "headers", fields(name, "v", "Ok", "v")), answers, want)
		}
		for value, want := range map[string]bool{"": true, "v": true, "a b": true, "a\tb": true, "\"": true, "\\": true, "~": true, strings.Repeat("v", 200): true, strings.Repeat("v", 201): false, " ": false, "\t": false, " v": false, "v ": false, "\tv": false, "v\t": false, "a\nb": false, "a\r\nB: c": false, "\u00e4": false, "\x00": false, "\x7f": false, "\x1f": false, "\U0001f600": false} {
			wantValid(t, with(answers, "headers", fields("N", value)), answers, want)
			wantValid(t, with(answers, "headers", fields("Ok", "v", "N", value)), answers, want)
			wantValid(t, with(answers, "headers", fields("N", value, "Ok", "v")), answers, want)
		}
		for n := range 40 {
			wantValid(t, with(answers, "headers", numbered(n)), answers, n <= 20)
		}
	})
}

// A head is valid although its text would be longer than layer 6 prints it.
func TestM1M2LongHeads(t *testing.T) {
	both(func(answers bool) {
		var members []string
		want := leastMessage(answers)
		for _, c := range strings.Split("abcdefghijklmnop", "") {
			members = append(members, c, strings.Repeat(c, 200))
			want.Head.Fields = append(want.Head.Fields, api.Field{Name: c, Value: strings.Repeat(c, 200)})
		}
		wantMessages(t, listOf(with(answers, "headers", fields(members...))), answers, []api.Message{want}, 0)
	})
}

func TestM1M2Bodies(t *testing.T) {
	both(func(answers bool) {
		for _, s := range values() {
			wantValid(t, with(answers, "body", s), answers, strings.HasPrefix(s, `"`))
		}
		for _, body := range []string{"", "x", " ", "\x00", "\n\r\t", "\"\\/", "\u00e4\u20ac\U0001f600\ufffd", `{"method":"GET"}`, listOf(get), strings.Repeat("x", 3900), strings.Repeat("\n", 1900), strings.Repeat("\U0001f600", 900)} {
			want := leastMessage(answers)
			want.Body = body
			wantMessages(t, listOf(with(answers, "body", lit(body))), answers, []api.Message{want}, 0)
		}
		// A body does not follow from the fields, nor they from it.
		want := leastMessage(answers)
		want.Head.Fields = []api.Field{{Name: "Content-Length", Value: "5"}, {Name: "Transfer-Encoding", Value: "chunked"}}
		wantMessages(t, listOf(with(answers, "headers", fields("Content-Length", "5", "Transfer-Encoding", "chunked"))), answers, []api.Message{want}, 0)
		// Nor from the body of the value ahead of it.
		first := leastMessage(answers)
		first.Head.Fields, first.Body = []api.Field{{Name: "A", Value: "b"}}, "x"
		wantMessages(t, listOf(with(answers, "headers", fields("A", "b"), "body", `"x"`), least(answers)), answers, []api.Message{first, leastMessage(answers)}, 0)
	})
}
