package ring

import (
	"slices"
	"testing"
)

func TestParts(t *testing.T) {
	buf := []byte("abcd")
	for _, c := range []struct {
		from, n int
		want    []string
	}{
		{0, 0, []string{"", ""}},
		{0, 4, []string{"abcd", ""}},
		{1, 2, []string{"bc", ""}},
		{3, 1, []string{"d", ""}},
		{3, 2, []string{"d", "a"}},
		{2, 4, []string{"cd", "ab"}},
	} {
		var got []string
		for part := range parts(buf, c.from, c.n) {
			got = append(got, string(part))
		}
		if !slices.Equal(got, c.want) {
			t.Errorf("%d bytes from %d on: %q, want %q", c.n, c.from, got, c.want)
		}
	}
}

func TestPartsCanBeLeftEarly(t *testing.T) {
	count := 0
	for range parts([]byte("abcd"), 3, 3) {
		count++
		break
	}
	if count != 1 {
		t.Errorf("%d parts", count)
	}
}
