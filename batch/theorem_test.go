package batch_test

import (
	"math/rand/v2"
	"slices"
	"strings"
	"testing"

	"lockage/api"
	"lockage/batch"
	"lockage/json"
)

// left returns what is left of the answers when they were encoded: no reasons, Minors of 1, small letters, and the first
// ones of the fields with the same name.
func left(l []api.Message) []api.Message {
	var out []api.Message
	for _, m := range l {
		n := api.Message{Head: api.Head{Status: m.Head.Status, Minor: 1}, Body: m.Body}
		for _, f := range m.Head.Fields {
			f.Name = strings.ToLower(f.Name)
			if !slices.ContainsFunc(n.Head.Fields, func(g api.Field) bool { return g.Name == f.Name }) {
				n.Head.Fields = append(n.Head.Fields, f)
			}
		}
		out = append(out, n)
	}
	return out
}

// checkUndone holds Answers of what Encode returns for l against M4. It reports whether Encode returns a text.
func checkUndone(t *testing.T, l []api.Message) bool {
	t.Helper()
	s, e := batch.Encode(l)
	if e != api.OK {
		return false
	}
	wantMessages(t, s, true, left(l), api.OK)
	v, _, _ := json.Parse(s)
	if v.Kind != api.List || len(v.Kids) != len(l) {
		t.Errorf("%s has %d values, want %d", short(s), len(v.Kids), len(l))
	}
	// What was read is encoded to the same text again.
	again, _ := batch.Answers(s)
	wantText(t, again, s, api.OK)
	return true
}

func TestM4(t *testing.T) {
	long := ok(strings.Repeat("\n", 1900))
	for n := range 11 {
		for _, l := range [][]api.Message{
			slices.Repeat([]api.Message{ok("")}, n),
			slices.Repeat([]api.Message{ok("\u00e4\"\n\x00\U0001f600")}, n),
			slices.Repeat([]api.Message{ok("x", "A", "b", "a", "c", "B", "")}, n),
			append(slices.Repeat([]api.Message{ok("")}, min(n, 2)), long),
		} {
			if !checkUndone(t, l) {
				t.Errorf("%d: no text", n)
			}
		}
	}
	for n := 1; n <= 10; n++ {
		if !checkUndone(t, fitting(n, 4000)) || checkUndone(t, fitting(n, 4001)) {
			t.Errorf("%d: what fits has a text, and else nothing", n)
		}
	}
	for n := range 21 {
		if !checkUndone(t, []api.Message{manyFields(n)}) {
			t.Errorf("%d: no text", n)
		}
	}
}

// Each status, each byte in a body, and each one that a name or a value may have.
func TestM4Each(t *testing.T) {
	for n := range 700 {
		m := ok("x")
		m.Head.Status = n
		if checkUndone(t, []api.Message{m}) != (n >= 100 && n <= 599) {
			t.Errorf("status %d", n)
		}
	}
	undone := 0
	for c := range 256 {
		for _, m := range []api.Message{ok(one(c)), ok("a" + one(c) + "b"), ok(string(rune(c))), ok("", one(c), "v"), ok("", "N", "a"+one(c)+"b"), ok("", "N"+one(c), "v", "n"+one(c), "w")} {
			if checkUndone(t, []api.Message{m}) {
				undone++
			}
		}
	}
	// 128 and 128 and 256 bodies, 77 names twice, and 96 values.
	if undone != 128+128+256+77+96+77 {
		t.Errorf("%d texts", undone)
	}
}

func TestM4Random(t *testing.T) {
	r := rand.New(rand.NewPCG(12, 5))
	undone := 0
	for range 40000 {
		var l []api.Message
		for range r.IntN(5) {
			l = append(l, anyAnswer(r))
		}
		if checkUndone(t, l) {
			undone++
		}
	}
	// Else the test would not say what it means.
	if undone < 10000 {
		t.Errorf("%d texts", undone)
	}
}
