package field

import (
	"slices"
	"testing"
)

func TestParts(t *testing.T) {
	for _, c := range []struct {
		s    string
		want []string
	}{
		{"", []string{""}},
		{"a", []string{"a"}},
		{",", []string{"", ""}},
		{"a,", []string{"a", ""}},
		{",a", []string{"", "a"}},
		{" A,,b c ", []string{" A", "", "b c "}},
	} {
		seq := parts(c.s)
		// Twice, since what a first loop went over must not be missing from a second one.
		for range 2 {
			if got := slices.Collect(seq); !slices.Equal(got, c.want) {
				t.Errorf("%q: %q, want %q", c.s, got, c.want)
			}
		}
	}
}

func TestPartsCanBeLeftEarly(t *testing.T) {
	for _, stop := range []int{1, 2, 3} {
		count := 0
		for range parts("a,b,c,d") {
			count++
			if count == stop {
				break
			}
		}
		if count != stop {
			t.Errorf("%d parts, want %d", count, stop)
		}
	}
}
