package ring_test

import (
	"bytes"
	"fmt"
	"math"
	"strings"
	"testing"

	"lockage/api"
	"lockage/ring"
)

// wrong is rings that are not valid, one for each bound that a valid ring keeps, and one far beyond each.
func wrong() map[string]api.Ring {
	return map[string]api.Ring{
		"the zero ring":          {},
		"an empty buffer":        {Buf: []byte{}},
		"no buffer, but content": {Many: 1},
		"a buffer too long":      {Buf: make([]byte, 4097)},
		"too long, with content": {Buf: bytes.Repeat([]byte("x"), 4097), From: 1, Many: 2},
		"From at the end":        {Buf: []byte("ab"), From: 2},
		"From far beyond":        {Buf: []byte("ab"), From: math.MaxInt, Many: 1},
		"From below 0":           {Buf: []byte("ab"), From: -1, Many: 1},
		"From far below 0":       {Buf: []byte("ab"), From: math.MinInt, Many: 2},
		"Many over the capacity": {Buf: []byte("ab"), Many: 3},
		"Many far over":          {Buf: []byte("ab"), From: 1, Many: math.MaxInt},
		"Many below 0":           {Buf: []byte("ab"), Many: -1},
		"Many far below 0":       {Buf: []byte("ab"), From: 1, Many: math.MinInt},
	}
}

// small calls do with every valid ring of the capacities 1 to 5: every From and every Many.
func small(do func(r api.Ring)) {
	for room := 1; room <= 5; room++ {
		for from := range room {
			for many := 0; many <= room; many++ {
				do(api.Ring{Buf: []byte("abcde")[:room:room], From: from, Many: many})
			}
		}
	}
}

// content is what the chapter's section 'Words' says: byte by byte, modulo the capacity.
func content(r api.Ring) string {
	var out []byte
	for i := range r.Many {
		out = append(out, r.Buf[(r.From+i)%len(r.Buf)])
	}
	return string(out)
}

func same(a, b api.Ring) bool {
	return bytes.Equal(a.Buf, b.Buf) && a.From == b.From && a.Many == b.Many
}

func clone(r api.Ring) api.Ring {
	r.Buf = append([]byte(nil), r.Buf...)
	return r
}

func show(r api.Ring) string {
	return fmt.Sprintf("{%.20q of %d, From %d, Many %d}", r.Buf, len(r.Buf), r.From, r.Many)
}

func TestA1New(t *testing.T) {
	for _, room := range []int{1, 2, 3, 100, 4095, 4096} {
		r := ring.New(room)
		if !same(r, api.Ring{Buf: make([]byte, room)}) || !ring.Right(r) {
			t.Errorf("New(%d) = %s", room, show(r))
		}
	}
	for _, room := range []int{0, -1, 4097, 4098, math.MaxInt, math.MinInt} {
		if r := ring.New(room); !same(r, api.Ring{}) || ring.Right(r) {
			t.Errorf("New(%d) = %s", room, show(r))
		}
	}
}

func TestA1NewIsNewEachTime(t *testing.T) {
	a, b := ring.New(2), ring.New(2)
	a.Buf[0] = 'x'
	if b.Buf[0] != 0 || ring.New(2).Buf[0] != 0 {
		t.Error("two rings share memory")
	}
}

func TestA1Right(t *testing.T) {
	small(func(r api.Ring) {
		if !ring.Right(r) {
			t.Errorf("%s is valid", show(r))
		}
	})
	for _, r := range []api.Ring{
		{Buf: make([]byte, 4096)},
		{Buf: make([]byte, 4096), From: 4095, Many: 4096},
		{Buf: make([]byte, 4095), From: 4094, Many: 4095},
	} {
		if !ring.Right(r) {
			t.Errorf("%s is valid", show(r))
		}
	}
	for name, r := range wrong() {
		if ring.Right(r) {
			t.Errorf("%s: is not valid", name)
		}
	}
}

func TestA2Data(t *testing.T) {
	small(func(r api.Ring) {
		if got := ring.Data(r); got != content(r) {
			t.Errorf("Data(%s) = %q, want %q", show(r), got, content(r))
		}
	})
	for _, c := range []struct {
		r    api.Ring
		want string
	}{
		{api.Ring{Buf: []byte("abcd"), From: 1, Many: 2}, "bc"},
		{api.Ring{Buf: []byte("abcd"), From: 2, Many: 2}, "cd"},
		{api.Ring{Buf: []byte("abcd"), From: 3, Many: 3}, "dab"},
		{api.Ring{Buf: []byte("abcd"), From: 3, Many: 4}, "dabc"},
		{api.Ring{Buf: []byte("abcd"), From: 3}, ""},
		{api.Ring{Buf: []byte("\x00\xff\x80"), From: 1, Many: 3}, "\xff\x80\x00"},
	} {
		if got := ring.Data(c.r); got != c.want {
			t.Errorf("Data(%s) = %q, want %q", show(c.r), got, c.want)
		}
	}
	for name, r := range wrong() {
		if got := ring.Data(r); got != "" {
			t.Errorf("%s: Data = %q", name, got)
		}
	}
}

func TestA2DataOfAFullLargeRing(t *testing.T) {
	buf := []byte(strings.Repeat("0123456789abcdef", 256))
	r := api.Ring{Buf: buf, From: 4095, Many: 4096}
	if want := string(buf[4095:]) + string(buf[:4095]); ring.Data(r) != want {
		t.Error("the content of a full ring of capacity 4096")
	}
}

func TestA3Push(t *testing.T) {
	small(func(r api.Ring) {
		for n := range len(r.Buf) + 3 {
			s := "STUVWXYZ"[:n]
			took := min(n, len(r.Buf)-r.Many)
			want := clone(r)
			for i := range took {
				want.Buf[(r.From+r.Many+i)%len(r.Buf)] = s[i]
			}
			want.Many += took
			got, m := ring.Push(r, s)
			if m != took || !same(got, want) {
				t.Errorf("Push(%s, %q) = %s, %d, want %s, %d", show(r), s, show(got), m, show(want), took)
			}
			if got := ring.Data(got); got != content(r)+s[:took] {
				t.Errorf("Push(%s, %q): the content is %q", show(r), s, got)
			}
		}
	})
}

func TestA3PushOfMoreThanFits(t *testing.T) {
	s := strings.Repeat("0123456789", 500)
	r, n := ring.Push(ring.New(4096), s)
	if n != 4096 || ring.Data(r) != s[:4096] || r.From != 0 || r.Many != 4096 {
		t.Errorf("into an empty ring: %d, %s", n, show(r))
	}
	q, n := ring.Push(r, s)
	if n != 0 || !same(q, r) {
		t.Errorf("into a full ring: %d, %s", n, show(q))
	}
	r, n = ring.Push(api.Ring{Buf: make([]byte, 4096), From: 4000, Many: 1}, s)
	if n != 4095 || ring.Data(r) != "\x00"+s[:4095] || r.From != 4000 {
		t.Errorf("round the end: %d, %s", n, show(r))
	}
	r, n = ring.Push(ring.New(1), "xy")
	if n != 1 || ring.Data(r) != "x" {
		t.Errorf("with the capacity 1: %d, %s", n, show(r))
	}
}

func TestA3PushToAWrongRing(t *testing.T) {
	for name, r := range wrong() {
		for _, s := range []string{"", "x", "xyz"} {
			if got, n := ring.Push(r, s); n != 0 || !same(got, r) {
				t.Errorf("%s: Push %q = %s, %d", name, s, show(got), n)
			}
		}
	}
}

func TestA4Pop(t *testing.T) {
	small(func(r api.Ring) {
		for n := range len(r.Buf) + 3 {
			took := min(n, r.Many)
			want := api.Ring{Buf: r.Buf, From: (r.From + took) % len(r.Buf), Many: r.Many - took}
			got, s := ring.Pop(r, n)
			if s != content(r)[:took] || !same(got, want) {
				t.Errorf("Pop(%s, %d) = %s, %q, want %s, %q", show(r), n, show(got), s, show(want), content(r)[:took])
			}
			if got := ring.Data(got); got != content(r)[took:] {
				t.Errorf("Pop(%s, %d): the content is %q", show(r), n, got)
			}
		}
	})
}

func TestA4PopOfMoreThanThereIs(t *testing.T) {
	r := api.Ring{Buf: []byte("abcd"), From: 3, Many: 3}
	for _, n := range []int{3, 4, 5, math.MaxInt} {
		if got, s := ring.Pop(r, n); s != "dab" || !same(got, api.Ring{Buf: []byte("abcd"), From: 2}) {
			t.Errorf("Pop(%s, %d) = %s, %q", show(r), n, show(got), s)
		}
	}
	buf := []byte(strings.Repeat("0123456789abcdef", 256))
	got, s := ring.Pop(api.Ring{Buf: buf, From: 4095, Many: 4096}, 4097)
	if s != string(buf[4095:])+string(buf[:4095]) || !same(got, api.Ring{Buf: buf, From: 4095}) {
		t.Errorf("of a full ring of capacity 4096: %s, %d bytes", show(got), len(s))
	}
}

func TestA4PopOfWrongInputs(t *testing.T) {
	small(func(r api.Ring) {
		for _, n := range []int{-1, -2, math.MinInt} {
			if got, s := ring.Pop(r, n); s != "" || !same(got, r) {
				t.Errorf("Pop(%s, %d) = %s, %q", show(r), n, show(got), s)
			}
		}
	})
	for name, r := range wrong() {
		for _, n := range []int{0, 1, 2, math.MaxInt, -1, math.MinInt} {
			if got, s := ring.Pop(r, n); s != "" || !same(got, r) {
				t.Errorf("%s: Pop %d = %s, %q", name, n, show(got), s)
			}
		}
	}
}

func TestA5Find(t *testing.T) {
	r := api.Ring{Buf: []byte("cabab"), From: 3, Many: 5} // abcab
	for s, want := range map[string]int{
		"": 0, "a": 0, "b": 1, "c": 2, "ab": 0, "bc": 1, "bca": 1, "cab": 2, "abcab": 0,
		"ba": -1, "aba": -1, "abcaba": -1, "x": -1, "\x00": -1,
	} {
		if got := ring.Find(r, s); got != want {
			t.Errorf("Find(abcab, %q) = %d, want %d", s, got, want)
		}
	}
}

func TestA5FindEverywhere(t *testing.T) {
	small(func(r api.Ring) {
		r = api.Ring{Buf: []byte("aabab")[:len(r.Buf)], From: r.From, Many: r.Many}
		for _, s := range []string{"", "a", "b", "aa", "ab", "ba", "aab", "aba", "bab", "baa", "aabab", "abaab", "aababa"} {
			want := -1
			for i := len(content(r)) - len(s); i >= 0; i-- {
				if content(r)[i:i+len(s)] == s {
					want = i
				}
			}
			if got := ring.Find(r, s); got != want {
				t.Errorf("Find(%s, %q) = %d, want %d", show(r), s, got, want)
			}
		}
	})
}

func TestA5FindOutsideTheContent(t *testing.T) {
	r := api.Ring{Buf: []byte("abcd"), From: 3, Many: 2} // da
	for _, s := range []string{"b", "c", "dab", "ab", "cd"} {
		if got := ring.Find(r, s); got != -1 {
			t.Errorf("Find(da, %q) = %d", s, got)
		}
	}
	large, _ := ring.Push(api.Ring{Buf: make([]byte, 4096), From: 2000}, strings.Repeat("a", 4095)+"b")
	for s, want := range map[string]int{"b": 4095, "ab": 4094, "ba": -1, strings.Repeat("a", 4095): 0, strings.Repeat("a", 4096): -1} {
		if got := ring.Find(large, s); got != want {
			t.Errorf("Find of %d bytes in a large ring = %d, want %d", len(s), got, want)
		}
	}
}

func TestA5FindInAWrongRing(t *testing.T) {
	for name, r := range wrong() {
		if got := ring.Find(r, ""); got != 0 {
			t.Errorf("%s: the empty text occurs at %d", name, got)
		}
		for _, s := range []string{"a", "ab", "\x00"} {
			if got := ring.Find(r, s); got != -1 {
				t.Errorf("%s: %q occurs at %d", name, s, got)
			}
		}
	}
}

// TestA6Order plays every sequence of six pushes and pops of up to four bytes, at the capacities 1 to 4.
func TestA6Order(t *testing.T) {
	const text = "abcdefghijklmnopqrstuvwxyz"
	for room := 1; room <= 4; room++ {
		var play func(r api.Ring, pushed, popped, left int)
		play = func(r api.Ring, pushed, popped, left int) {
			if got := ring.Data(r); got != text[popped:pushed] {
				t.Fatalf("%s: the content is %q, want %q", show(r), got, text[popped:pushed])
			}
			if left == 0 {
				return
			}
			for n := 1; n <= 4; n++ {
				q, m := ring.Push(r, text[pushed:][:n])
				play(q, pushed+m, popped, left-1)
				q, s := ring.Pop(r, n)
				if s != text[popped:popped+len(s)] || len(s) != min(n, pushed-popped) {
					t.Fatalf("Pop(%s, %d) = %q after %q", show(r), n, s, text[:popped])
				}
				play(q, pushed, popped+len(s), left-1)
			}
		}
		play(ring.New(room), 0, 0, 6)
	}
}

// TestA6OrderInLargeRings sends one long text through rings in pieces whose sizes go out of step with the capacity.
func TestA6OrderInLargeRings(t *testing.T) {
	var text strings.Builder
	for i := 0; text.Len() < 50000; i++ {
		fmt.Fprintf(&text, "%d,", i)
	}
	rest := text.String()
	for _, room := range []int{1, 7, 1000, 4095, 4096} {
		left, out := rest, strings.Builder{}
		r := ring.New(room)
		for i := 0; out.Len() < len(rest) && i < 200000; i++ { // bounded, so that a broken ring fails instead of hanging
			var n int
			r, n = ring.Push(r, left[:min(len(left), i*37%(room+9))])
			left = left[n:]
			var s string
			r, s = ring.Pop(r, i*53%(room+5))
			out.WriteString(s)
		}
		if out.String() != rest {
			t.Errorf("with the capacity %d the text came out otherwise", room)
		}
	}
}

func TestExample1(t *testing.T) {
	r, _ := ring.Push(ring.New(3), "ab")
	r, _ = ring.Pop(r, 1)
	r, n := ring.Push(r, "cde")
	if n != 2 || ring.Data(r) != "bcd" {
		t.Errorf("%d, %q", n, ring.Data(r))
	}
}

// TestMemory: arguments and the memory beyond their length stay as they were, and a write into a result reaches no argument.
func TestMemory(t *testing.T) {
	rings := wrong()
	small(func(r api.Ring) { rings[show(r)] = r })
	for name, r := range rings {
		whole := append(append([]byte(nil), r.Buf...), "beyond"...)
		old := string(whole)
		r.Buf = whole[:len(r.Buf)]
		ring.Right(r)
		ring.Data(r)
		ring.Find(r, "b")
		pushed, _ := ring.Push(r, "XYZ")
		none, _ := ring.Push(r, "")
		popped, _ := ring.Pop(r, 1)
		below, _ := ring.Pop(r, -1)
		if string(whole) != old {
			t.Errorf("%s: the argument became %.20q", name, whole)
		}
		for _, q := range []api.Ring{pushed, none, popped, below} {
			for i := range q.Buf {
				q.Buf[i] = '!'
			}
			_ = append(q.Buf, "!!!"...)
		}
		if string(whole) != old {
			t.Errorf("%s: a result shares memory with the argument", name)
		}
	}
}

func TestSameCallsSameResults(t *testing.T) {
	small(func(r api.Ring) {
		a, m := ring.Push(r, "xy")
		b, n := ring.Push(r, "xy")
		c, s := ring.Pop(r, 2)
		d, u := ring.Pop(r, 2)
		if m != n || s != u || !same(a, b) || !same(c, d) {
			t.Errorf("%s: two equal calls differ", show(r))
		}
	})
}
