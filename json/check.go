package json

import (
	"lockage/api"
	"lockage/quote"
)

// check is how many values were looked at.
type check struct{ values int }

// right reports whether v is valid where it is nested in so many others. It goes no deeper and no further than a valid
// value does, since a list may contain itself.
func (c *check) right(v api.Value, outer int) bool {
	c.values++
	if outer == api.MaxDeep || c.values > api.MaxNodes || !rightAlone(v) {
		return false
	}
	for _, kid := range v.Kids {
		if !c.right(kid, outer+1) {
			return false
		}
	}
	return true
}

// rightAlone reports whether v is as its kind asks, but for the values in it.
func rightAlone(v api.Value) bool {
	switch v.Kind {
	case api.Null, api.False, api.True:
		return v.Text == "" && single(v)
	case api.Number:
		return isNumber(v.Text) && single(v)
	case api.Text:
		return quote.Valid(v.Text) && single(v)
	case api.List:
		return v.Text == "" && len(v.Keys) == 0
	case api.Object:
		return v.Text == "" && len(v.Keys) == len(v.Kids) && rightKeys(v.Keys)
	}
	return false
}

// single reports whether v has no keys and no values in it.
func single(v api.Value) bool {
	return len(v.Keys) == 0 && len(v.Kids) == 0
}

// rightKeys reports whether the keys are valid strings, no two of them equal.
func rightKeys(keys []string) bool {
	known := map[string]struct{}{}
	for _, key := range keys {
		_, twice := known[key]
		if twice || !quote.Valid(key) {
			return false
		}
		known[key] = struct{}{}
	}
	return true
}
