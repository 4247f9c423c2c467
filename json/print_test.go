package json_test

import (
	"strings"
	"testing"

	"lockage/api"
	"lockage/json"
)

func wantPrint(t *testing.T, v api.Value, want string) {
	t.Helper()
	if s, e := json.Print(v); s != want || e != api.OK {
		t.Errorf("Print(%s): %s %d, want %s", short(shown(v)), short(s), e, short(want))
	}
	checkValue(t, v, true)
}

func TestL2NotValid(t *testing.T) {
	for _, v := range []api.Value{{}, {Kind: 8}, {Kind: -1}, {Text: "null"}, {Kids: flat(1).Kids}, {Kind: kNull, Text: "null"}, num(""), num("01"), num("null"), text("\xff"), list(api.Value{}), object("a"), object("a a", num("1"), num("1")), object("a \xff", num("1"), num("1")), nested(num("1"), 16, "lists"), flat(500)} {
		if s, e := json.Print(v); s != "" || e != 1 {
			t.Errorf("Print(%s): %s %d", short(shown(v)), short(s), e)
		}
		checkValue(t, v, false)
	}
}

func TestL2Kinds(t *testing.T) {
	wantPrint(t, word(kNull), "null")
	wantPrint(t, word(kFalse), "false")
	wantPrint(t, word(kTrue), "true")
	for _, s := range numbers() {
		wantPrint(t, num(s), s)
	}
	wantPrint(t, text(""), `""`)
	wantPrint(t, text("a"), `"a"`)
	wantPrint(t, list(), "[]")
	wantPrint(t, api.Value{Kind: kList, Keys: []string{}, Kids: []api.Value{}}, "[]")
	wantPrint(t, object(""), "{}")
	wantPrint(t, api.Value{Kind: kObject, Keys: []string{}, Kids: []api.Value{}}, "{}")
	wantPrint(t, list(num("1")), "[1]")
	wantPrint(t, list(num("1"), num("2")), "[1,2]")
	wantPrint(t, list(num("2"), num("1"), num("2")), "[2,1,2]")
	wantPrint(t, list(word(kNull), word(kFalse), word(kTrue), num("-0.5e+07"), text("x"), list(), object("")), `[null,false,true,-0.5e+07,"x",[],{}]`)
	wantPrint(t, object("a", num("1")), `{"a":1}`)
	wantPrint(t, object("b a c", num("1"), num("2"), num("1")), `{"b":1,"a":2,"c":1}`)
	wantPrint(t, object("a b c d e f g", word(kNull), word(kFalse), word(kTrue), num("0"), text(""), list(), object("")), `{"a":null,"b":false,"c":true,"d":0,"e":"","f":[],"g":{}}`)
	wantPrint(t, api.Value{Kind: kObject, Keys: []string{""}, Kids: []api.Value{text("")}}, `{"":""}`)
}

func TestL2Inside(t *testing.T) {
	wantPrint(t, list(list()), "[[]]")
	wantPrint(t, list(list(), list()), "[[],[]]")
	wantPrint(t, list(list(num("1")), num("2"), list(num("3"), num("4"))), "[[1],2,[3,4]]")
	wantPrint(t, object("a", object("a", object("a", list()))), `{"a":{"a":{"a":[]}}}`)
	wantPrint(t, list(object("a", list(object("")))), `[{"a":[{}]}]`)
	wantPrint(t, object("a b", list(num("1"), object("c", word(kNull))), object("b a", list(list(word(kTrue))), text("x"))), `{"a":[1,{"c":null}],"b":{"b":[[true]],"a":"x"}}`)
	wantPrint(t, nested(num("7"), 15, "lists"), strings.Repeat("[", 15)+"7"+strings.Repeat("]", 15))
	wantPrint(t, nested(num("7"), 15, "objects"), strings.Repeat(`{"k":`, 15)+"7"+strings.Repeat("}", 15))
	wantPrint(t, flat(499), "["+strings.Repeat("null,", 498)+"null]")
}

func TestL2Escapes(t *testing.T) {
	for s, want := range map[string]string{
		`"`: `"\""`, `\`: `"\\"`, `\"`: `"\\\""`, "\n": `"\n"`, "\r": `"\r"`, "\t": `"\t"`, "\b": `"\u0008"`, "\f": `"\u000c"`, "\x00": `"\u0000"`, "\x1f": `"\u001f"`,
		"/": `"/"`, " ": `" "`, "\x7f": "\"\x7f\"", "<&>": `"<&>"`, "\u2028": "\"\u2028\"", "a\u00e4\n": "\"a\u00e4\\n\"", "\U0001f600": "\"\U0001f600\"", `\n`: `"\\n"`, `{"a":[1,2]}`: `"{\"a\":[1,2]}"`,
	} {
		wantPrint(t, text(s), want)
		wantPrint(t, list(text(s), text(s)), "["+want+","+want+"]")
		wantPrint(t, api.Value{Kind: kObject, Keys: []string{s}, Kids: []api.Value{text(s)}}, "{"+want+":"+want+"}")
		wantPrint(t, api.Value{Kind: kObject, Keys: []string{"k", s}, Kids: []api.Value{num("1"), num("2")}}, `{"k":1,`+want+`:2}`)
	}
}

// Longer than what Parse takes.
func TestL2Long(t *testing.T) {
	for _, n := range []int{3998, 3999, 100000} {
		wantPrint(t, text(strings.Repeat("x", n)), `"`+strings.Repeat("x", n)+`"`)
	}
	wantPrint(t, num(strings.Repeat("1", 4001)), strings.Repeat("1", 4001))
	v := object("a", list(text(strings.Repeat("\x01", 4000)), text("b")))
	wantPrint(t, v, `{"a":["`+strings.Repeat(`\u0001`, 4000)+`","b"]}`)
}
