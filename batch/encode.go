package batch

import (
	"slices"

	"lockage/api"
	"lockage/field"
	"lockage/num"
)

// list returns the value that lists the answers l.
func list(l []api.Message) api.Value {
	v := api.Value{Kind: api.List}
	for _, m := range l {
		v.Kids = append(v.Kids, answer(m))
	}
	return v
}

// answer returns the value of the answer m.
func answer(m api.Message) api.Value {
	return api.Value{
		Kind: api.Object,
		Keys: []string{statusKey, headersKey, bodyKey},
		Kids: []api.Value{
			{Kind: api.Number, Text: num.Text(m.Head.Status, base)},
			headers(m.Head.Fields),
			{Kind: api.Text, Text: m.Body},
		},
	}
}

// headers returns the value of the fields l.
func headers(l []api.Field) api.Value {
	v := api.Value{Kind: api.Object}
	for _, f := range l {
		name := field.Lower(f.Name)
		// An object has no key twice, so the later fields of a name are left out.
		if slices.Contains(v.Keys, name) {
			continue
		}
		v.Keys = append(v.Keys, name)
		v.Kids = append(v.Kids, api.Value{Kind: api.Text, Text: f.Value})
	}
	return v
}
