package batch

import (
	"strings"

	"lockage/api"
	"lockage/head"
	"lockage/json"
	"lockage/num"
)

// requirements is what is asked of a value, and of the message that it is read to.
type requirements struct {
	// take puts what stands under the key into the message. It reports whether that may stand there.
	take func(m *api.Message, key string, v api.Value) bool
	// right reports whether the message may have the head.
	right func(h api.Head) bool
}

// ofRequest returns what is asked of the value of a request.
func ofRequest() requirements {
	return requirements{
		take:  takeRequest,
		right: func(h api.Head) bool { return head.Right(h, false) },
	}
}

// ofAnswer returns what is asked of the value of an answer.
func ofAnswer() requirements {
	return requirements{
		take:  takeAnswer,
		right: func(h api.Head) bool { return head.Right(h, true) },
	}
}

// decode returns the messages of the list whose text s is, if its values are as asked.
func decode(s string, asked requirements) ([]api.Message, api.Errno) {
	v, e, _ := json.Parse(s)
	if e != api.OK {
		return nil, e
	}
	if v.Kind != api.List {
		return nil, api.ErrShape
	}
	if len(v.Kids) > api.MaxItems {
		return nil, api.ErrLong
	}
	var messages []api.Message
	for _, kid := range v.Kids {
		m, ok := asked.message(kid)
		if !ok {
			return nil, api.ErrShape
		}
		messages = append(messages, m)
	}
	return messages, api.OK
}

// message returns the message of v, and whether v is as asked.
func (asked requirements) message(v api.Value) (api.Message, bool) {
	if v.Kind != api.Object {
		return api.Message{}, false
	}
	m := api.Message{Head: api.Head{Minor: minor}}
	for i, key := range v.Keys {
		if !asked.take(&m, key, v.Kids[i]) {
			return api.Message{}, false
		}
	}
	// A key that has to be there is not asked for: without it the head lacks a part, and is not valid.
	return m, asked.right(m.Head)
}

// takeRequest takes what the value of a request may have.
func takeRequest(m *api.Message, key string, v api.Value) bool {
	switch key {
	case methodKey:
		m.Head.Method = v.Text
		return v.Kind == api.Text
	case pathKey:
		m.Head.Target = v.Text
		return v.Kind == api.Text && strings.HasPrefix(v.Text, "/")
	}
	return takeShared(m, key, v)
}

// takeAnswer takes what the value of an answer may have.
func takeAnswer(m *api.Message, key string, v api.Value) bool {
	if key != statusKey {
		return takeShared(m, key, v)
	}
	status, e := num.Parse(v.Text, base)
	m.Head.Status = status
	return v.Kind == api.Number && e == api.OK
}

// takeShared takes what each value may have.
func takeShared(m *api.Message, key string, v api.Value) bool {
	switch key {
	case headersKey:
		return takeFields(m, v)
	case bodyKey:
		m.Body = v.Text
		return v.Kind == api.Text
	}
	return false
}

// takeFields takes the fields that v is.
func takeFields(m *api.Message, v api.Value) bool {
	for i, name := range v.Keys {
		value := v.Kids[i]
		if value.Kind != api.Text {
			return false
		}
		m.Head.Fields = append(m.Head.Fields, api.Field{Name: name, Value: value.Text})
	}
	return v.Kind == api.Object
}
