package json

import (
	"slices"
	"strings"

	"lockage/api"
	"lockage/quote"
)

// blanks may stand around the marks of lists and objects, and around the whole value.
const blanks = " \t\n\r"

// literalStart is what a key begins with: what begins otherwise is none, and no wrong literal either.
const literalStart = `"`

// reader is how far a text is read.
type reader struct {
	whole  string
	rest   string
	values int                       // that were read or begun
	outer  int                       // lists and objects that are not at their end
	kinds  map[byte]func() api.Value // what reads a value, by its first byte
}

// fault is what ends the reading of a text that is not valid: the error, and its position.
type fault struct {
	e  api.Errno
	at int
}

// Parse returns the value whose text s is. If s is no such text, it returns the first error and its position.
func Parse(s string) (v api.Value, e api.Errno, at int) {
	if len(s) > api.MaxBody {
		return api.Value{}, api.ErrLong, 0
	}
	defer func() {
		thrown := recover()
		if thrown == nil {
			return
		}
		f, is := thrown.(fault)
		if !is {
			panic(thrown)
		}
		v, e, at = api.Value{}, f.e, f.at
	}()
	return newReader(s).all(), api.OK, 0
}

// newReader returns a reader that has read nothing of s.
func newReader(s string) *reader {
	r := &reader{whole: s, rest: s}
	r.kinds = map[byte]func() api.Value{
		'n': r.null,
		'f': r.no,
		't': r.yes,
		'-': r.number,
		'"': r.text,
		'[': r.list,
		'{': r.object,
	}
	for _, digit := range []byte(digits) {
		r.kinds[digit] = r.number
	}
	return r
}

// all reads the one value that the whole text is to be.
func (r *reader) all() api.Value {
	v := r.value()
	r.skip()
	if r.rest != "" {
		r.fail(api.ErrJson)
	}
	return v
}

// value reads a value.
func (r *reader) value() api.Value {
	r.skip()
	if r.outer == api.MaxDeep {
		r.fail(api.ErrDeep)
	}
	if r.values == api.MaxNodes {
		r.fail(api.ErrLong)
	}
	if r.rest == "" {
		r.fail(api.ErrJson)
	}
	read, found := r.kinds[r.rest[0]]
	if !found {
		r.fail(api.ErrJson)
	}
	r.values++
	return read()
}

func (r *reader) null() api.Value {
	r.pass(nullWord)
	return api.Value{Kind: api.Null}
}

func (r *reader) no() api.Value {
	r.pass(falseWord)
	return api.Value{Kind: api.False}
}

func (r *reader) yes() api.Value {
	r.pass(trueWord)
	return api.Value{Kind: api.True}
}

func (r *reader) number() api.Value {
	rest, found := cutNumber(r.rest)
	if !found {
		r.fail(api.ErrJson)
	}
	text := r.rest[:len(r.rest)-len(rest)]
	r.rest = rest
	return api.Value{Kind: api.Number, Text: text}
}

func (r *reader) text() api.Value {
	return api.Value{Kind: api.Text, Text: r.literal()}
}

func (r *reader) list() api.Value {
	v := api.Value{Kind: api.List}
	r.pass(listStart)
	r.each(listEnd, func() {
		v.Kids = append(v.Kids, r.value())
	})
	return v
}

func (r *reader) object() api.Value {
	v := api.Value{Kind: api.Object}
	r.pass(objectStart)
	r.each(objectEnd, func() {
		v.Keys = append(v.Keys, r.key(v.Keys))
		r.pass(valueMark)
		v.Kids = append(v.Kids, r.value())
	})
	return v
}

// each calls one for each value or member up to the mark end, which reads it.
func (r *reader) each(end string, one func()) {
	r.outer++
	for ended := r.passes(end); !ended; ended = r.ended(end) {
		one()
	}
	r.outer--
}

// ended passes what stands behind a value or a member, and reports whether it is the mark end.
func (r *reader) ended(end string) bool {
	if r.passes(end) {
		return true
	}
	r.pass(separator)
	return false
}

// key reads a key that is none of those.
func (r *reader) key(known []string) string {
	r.skip()
	at := r.at()
	if !strings.HasPrefix(r.rest, literalStart) {
		r.fail(api.ErrJson)
	}
	key := r.literal()
	if slices.Contains(known, key) {
		panic(fault{api.ErrJson, at})
	}
	return key
}

// literal reads the literal of a string.
func (r *reader) literal() string {
	s, n, e := quote.Unquote(r.rest)
	if e != api.OK {
		panic(fault{e, r.at() + n})
	}
	r.rest = r.rest[n:]
	return s
}

// skip passes blanks.
func (r *reader) skip() {
	r.rest = strings.TrimLeft(r.rest, blanks)
}

// passes passes blanks and the mark, and reports whether the mark is there.
func (r *reader) passes(mark string) bool {
	r.skip()
	rest, found := strings.CutPrefix(r.rest, mark)
	r.rest = rest
	return found
}

// pass passes blanks and the mark, which is to be there.
func (r *reader) pass(mark string) {
	if !r.passes(mark) {
		r.fail(api.ErrJson)
	}
}

// at returns the position up to which the text is read.
func (r *reader) at() int {
	return len(r.whole) - len(r.rest)
}

// fail ends the reading with the error e at the position up to which the text is read.
func (r *reader) fail(e api.Errno) {
	panic(fault{e, r.at()})
}
