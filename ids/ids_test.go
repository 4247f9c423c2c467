package ids_test

import (
	"fmt"
	"math"
	"slices"
	"testing"

	"lockage/api"
	"lockage/ids"
)

const maxGen = 1 << 53

// full returns a table of n slots, all of them busy, with the Gen g.
func full(n, g int) api.Table {
	return api.Table{Gens: slices.Repeat([]int{g}, n), Busy: slices.Repeat([]bool{true}, n)}
}

// upTo returns 0 to n-1.
func upTo(n int) []int {
	out := make([]int, n)
	for i := range out {
		out[i] = i
	}
	return out
}

// wrong is tables that are not valid: each is a valid one with one thing wrong.
func wrong() map[string]api.Table {
	return map[string]api.Table{
		"the zero table":               {},
		"no Gens, empty lists":         {Gens: []int{}, Busy: []bool{}, Free: []int{}},
		"no Gens, but a free slot":     {Free: []int{0}},
		"no Gens, but a busy slot":     {Busy: []bool{true}},
		"65 slots, busy":               full(65, 0),
		"65 slots, free":               {Gens: make([]int, 65), Busy: make([]bool, 65), Free: upTo(65)},
		"a Gen of -1, busy":            full(1, -1),
		"a Gen of -1, free":            {Gens: []int{0, -1}, Busy: []bool{false, false}, Free: []int{0, 1}},
		"the first Gen of -1":          {Gens: []int{-1, 0}, Busy: []bool{true, true}},
		"a Gen far below 0":            full(1, math.MinInt),
		"a Gen above 2^53, busy":       full(1, maxGen+1),
		"a Gen above 2^53, free":       {Gens: []int{0, maxGen + 1}, Busy: []bool{false, false}, Free: []int{0, 1}},
		"a Gen far above 2^53":         full(2, math.MaxInt),
		"no Busy":                      {Gens: []int{0}, Free: []int{0}},
		"fewer Busy than Gens":         {Gens: []int{0, 0}, Busy: []bool{false}, Free: []int{0, 1}},
		"fewer Busy, fewer free":       {Gens: []int{0, 0}, Busy: []bool{false}, Free: []int{0}},
		"more Busy than Gens":          {Gens: []int{0}, Busy: []bool{false, false}, Free: []int{0}},
		"more Busy, more free":         {Gens: []int{0}, Busy: []bool{false, false}, Free: []int{0, 1}},
		"more Busy, busy":              {Gens: []int{0}, Busy: []bool{true, true}},
		"a free slot is missing":       {Gens: []int{0, 0}, Busy: []bool{false, false}, Free: []int{0}},
		"the first one is missing":     {Gens: []int{0, 0}, Busy: []bool{false, false}, Free: []int{1}},
		"the only one is missing":      {Gens: []int{0}, Busy: []bool{false}},
		"a free slot is there twice":   {Gens: []int{0, 0}, Busy: []bool{false, true}, Free: []int{0, 0}},
		"twice, and one missing":       {Gens: []int{0, 0}, Busy: []bool{false, false}, Free: []int{0, 0}},
		"twice, and all there":         {Gens: []int{0, 0}, Busy: []bool{false, false}, Free: []int{0, 1, 0}},
		"a free slot is busy":          {Gens: []int{0}, Busy: []bool{true}, Free: []int{0}},
		"one of them is busy":          {Gens: []int{0, 0}, Busy: []bool{false, true}, Free: []int{0, 1}},
		"busy for free":                {Gens: []int{0, 0}, Busy: []bool{false, true}, Free: []int{1}},
		"a free slot is no slot":       {Gens: []int{0}, Busy: []bool{false}, Free: []int{1}},
		"no slot, among busy ones":     {Gens: []int{0, 0}, Busy: []bool{true, true}, Free: []int{2}},
		"no slot, beside the free one": {Gens: []int{0, 0}, Busy: []bool{false, true}, Free: []int{0, 2}},
		"a slot below 0":               {Gens: []int{0, 0}, Busy: []bool{false, true}, Free: []int{-1, 0}},
		"a slot far beyond":            {Gens: []int{0, 0}, Busy: []bool{false, true}, Free: []int{math.MaxInt, 0}},
		"a slot far below 0":           {Gens: []int{0}, Busy: []bool{false}, Free: []int{math.MinInt}},
	}
}

// orders calls do with every list of some of the slots 0 to n-1, each at most once, in every order.
func orders(n int, do func(free []int)) {
	var grow func(free []int)
	grow = func(free []int) {
		do(slices.Clone(free))
		for slot := range n {
			if !slices.Contains(free, slot) {
				grow(append(slices.Clone(free), slot))
			}
		}
	}
	grow(nil)
}

// small calls do with every valid table of 1 to 3 slots whose Gens are 0, 1, 2 or 2^53.
func small(do func(x api.Table)) {
	for n := 1; n <= 3; n++ {
		orders(n, func(free []int) {
			for code := range 1 << (2 * n) {
				x := api.Table{Gens: make([]int, n), Busy: make([]bool, n), Free: free}
				for slot := range n {
					x.Gens[slot] = []int{0, 1, 2, maxGen}[code>>(2*slot)&3]
					x.Busy[slot] = !slices.Contains(free, slot)
				}
				do(x)
			}
		})
	}
}

func same(a, b api.Table) bool {
	return slices.Equal(a.Gens, b.Gens) && slices.Equal(a.Busy, b.Busy) && slices.Equal(a.Free, b.Free)
}

func clone(x api.Table) api.Table {
	return api.Table{Gens: slices.Clone(x.Gens), Busy: slices.Clone(x.Busy), Free: slices.Clone(x.Free)}
}

// busyIds is what the chapter's section 'Words' says: the id of each busy slot, and its slot.
func busyIds(x api.Table) map[int]int {
	out := map[int]int{}
	for slot, busy := range x.Busy {
		if busy {
			out[x.Gens[slot]*len(x.Gens)+slot] = slot
		}
	}
	return out
}

// someIds is ids to ask a table for: small ones, those of its slots with this, the next and the last Gen, and those far off.
func someIds(x api.Table) []int {
	out := []int{math.MinInt, math.MinInt + 1, -64, -4, -3, -2, -1, math.MaxInt, math.MaxInt - 1, 1 << 53, 1 << 59}
	out = append(out, upTo(12)...)
	for slot, g := range x.Gens {
		for d := -1; d <= 1; d++ {
			out = append(out, (g+d)*len(x.Gens)+slot)
		}
	}
	return out
}

func TestB1New(t *testing.T) {
	for _, room := range []int{1, 2, 3, 63, 64} {
		want := api.Table{Gens: make([]int, room), Busy: make([]bool, room), Free: upTo(room)}
		if x := ids.New(room); !same(x, want) || !ids.Right(x) {
			t.Errorf("New(%d) = %v", room, x)
		}
	}
	for _, room := range []int{0, -1, -64, 65, 66, 128, math.MaxInt, math.MinInt} {
		if x := ids.New(room); !same(x, api.Table{}) || ids.Right(x) {
			t.Errorf("New(%d) = %v", room, x)
		}
	}
}

func TestB2RightOfValidTables(t *testing.T) {
	small(func(x api.Table) {
		if !ids.Right(x) {
			t.Errorf("%v is valid", x)
		}
	})
	backwards := ids.New(64)
	slices.Reverse(backwards.Free)
	for name, x := range map[string]api.Table{
		"64 free slots":              ids.New(64),
		"64 free slots backwards":    backwards,
		"64 busy slots":              full(64, 0),
		"64 busy slots of 2^53":      full(64, maxGen),
		"a free slot of 2^53":        {Gens: []int{maxGen}, Busy: []bool{false}, Free: []int{0}},
		"an empty Free that's there": {Gens: []int{1}, Busy: []bool{true}, Free: []int{}},
	} {
		if !ids.Right(x) {
			t.Errorf("%s: is valid", name)
		}
	}
}

func TestB2RightOfWrongTables(t *testing.T) {
	for name, x := range wrong() {
		if ids.Right(x) {
			t.Errorf("%s: is not valid", name)
		}
	}
}

// TestB2RightOfEveryFree holds Right against the words of B2 for every Free of up to four numbers from -1 to 3, with two slots.
func TestB2RightOfEveryFree(t *testing.T) {
	var grow func(free []int)
	grow = func(free []int) {
		for code := range 4 {
			x := api.Table{Gens: []int{7, 0}, Busy: []bool{code&1 != 0, code&2 != 0}, Free: free}
			sorted := slices.Sorted(slices.Values(free))
			want := slices.Equal(sorted, slices.DeleteFunc(upTo(2), func(slot int) bool { return x.Busy[slot] }))
			if ids.Right(x) != want {
				t.Errorf("Right(%v) = %v", x, !want)
			}
		}
		if len(free) < 4 {
			for n := -1; n <= 3; n++ {
				grow(append(slices.Clone(free), n))
			}
		}
	}
	grow(nil)
}

func TestB3Has(t *testing.T) {
	small(func(x api.Table) {
		busy := busyIds(x)
		for _, id := range someIds(x) {
			if _, want := busy[id]; ids.Has(x, id) != want {
				t.Errorf("Has(%v, %d) = %v", x, id, !want)
			}
		}
	})
}

func TestB3HasOfCertainIds(t *testing.T) {
	x := api.Table{Gens: []int{2, 0, 1}, Busy: []bool{true, false, true}, Free: []int{1}}
	for id := -10; id <= 20; id++ {
		if want := id == 6 || id == 5; ids.Has(x, id) != want {
			t.Errorf("Has(%v, %d) = %v", x, id, !want)
		}
	}
	for slot := range 64 {
		if id := maxGen*64 + slot; !ids.Has(full(64, maxGen), id) || ids.Has(full(64, maxGen), id-64) || ids.Has(full(64, maxGen), id+64) {
			t.Errorf("the id %d of the slot %d", id, slot)
		}
	}
	if ids.Has(full(64, maxGen), -1) || ids.Has(full(64, 0), -1) || ids.Has(full(1, 0), -1) || ids.Has(full(1, 0), math.MinInt) {
		t.Error("an id below 0 is there")
	}
}

func TestB3HasInAWrongTable(t *testing.T) {
	for name, x := range wrong() {
		for _, id := range someIds(x) {
			if ids.Has(x, id) {
				t.Errorf("%s: has %d", name, id)
			}
		}
	}
}

func TestB4Take(t *testing.T) {
	small(func(x api.Table) {
		got, id, e := ids.Take(x)
		if len(x.Free) == 0 {
			if e != api.ErrFull || id != 0 || !same(got, x) {
				t.Errorf("Take(%v) = %v, %d, %d", x, got, id, e)
			}
			return
		}
		slot := x.Free[0]
		want := clone(x)
		want.Busy[slot] = true
		want.Free = want.Free[1:]
		if e != api.OK || id != x.Gens[slot]*len(x.Gens)+slot || !same(got, want) {
			t.Errorf("Take(%v) = %v, %d, %d", x, got, id, e)
		}
		if !ids.Right(got) || !ids.Has(got, id) || ids.Has(x, id) {
			t.Errorf("Take(%v): %d is not there, or was there", x, id)
		}
	})
}

func TestB4TakeOfAllSlots(t *testing.T) {
	x := ids.New(64)
	for want := range 64 {
		var id int
		var e api.Errno
		if x, id, e = ids.Take(x); id != want || e != api.OK {
			t.Fatalf("take %d: %d, %d", want, id, e)
		}
	}
	if got, id, e := ids.Take(x); e != api.ErrFull || id != 0 || !same(got, full(64, 0)) {
		t.Errorf("with no slot free: %v, %d, %d", got, id, e)
	}
	x = api.Table{Gens: []int{maxGen, maxGen}, Busy: []bool{false, false}, Free: []int{1, 0}}
	if got, id, e := ids.Take(x); e != api.OK || id != 2*maxGen+1 || !ids.Has(got, id) {
		t.Errorf("a slot of the last Gen: %v, %d, %d", got, id, e)
	}
}

func TestB4TakeOfAWrongTable(t *testing.T) {
	for name, x := range wrong() {
		if got, id, e := ids.Take(x); e != api.ErrArg || id != 0 || !same(got, x) {
			t.Errorf("%s: Take = %v, %d, %d", name, got, id, e)
		}
	}
}

func TestB5Give(t *testing.T) {
	small(func(x api.Table) {
		busy := busyIds(x)
		for _, id := range someIds(x) {
			got, e := ids.Give(x, id)
			slot, there := busy[id]
			want, wantE := clone(x), api.OK
			switch {
			case !there:
				wantE = api.ErrNone
			case x.Gens[slot] == maxGen:
				wantE = api.ErrBig
			default:
				want.Busy[slot] = false
				want.Gens[slot]++
				want.Free = append(want.Free, slot)
			}
			if e != wantE || !same(got, want) {
				t.Errorf("Give(%v, %d) = %v, %d, want %v, %d", x, id, got, e, want, wantE)
			}
			if !ids.Right(got) || e == api.OK && ids.Has(got, id) {
				t.Errorf("Give(%v, %d): the table is not valid, or the id is still there", x, id)
			}
		}
	})
}

func TestB5GiveAtTheLastGen(t *testing.T) {
	x := full(2, maxGen-1)
	id := (maxGen-1)*2 + 1
	x, e := ids.Give(x, id)
	if e != api.OK || !same(x, api.Table{Gens: []int{maxGen - 1, maxGen}, Busy: []bool{true, false}, Free: []int{1}}) {
		t.Fatalf("from 2^53 - 1: %v, %d", x, e)
	}
	x, id, e = ids.Take(x)
	if e != api.OK || id != maxGen*2+1 {
		t.Fatalf("the last id: %d, %d", id, e)
	}
	if got, e := ids.Give(x, id); e != api.ErrBig || !same(got, x) {
		t.Errorf("from 2^53: %v, %d", got, e)
	}
	if got, e := ids.Give(x, id-2); e != api.ErrNone || !same(got, x) {
		t.Errorf("an earlier id of a slot of the last Gen: %v, %d", got, e)
	}
}

// TestB5OrderOfErrors: a table that is not valid comes ahead of an id that is not there, and that ahead of the last Gen.
func TestB5OrderOfErrors(t *testing.T) {
	for name, x := range wrong() {
		for _, id := range someIds(x) {
			if got, e := ids.Give(x, id); e != api.ErrArg || !same(got, x) {
				t.Errorf("%s: Give %d = %v, %d", name, id, got, e)
			}
		}
	}
	free := api.Table{Gens: []int{maxGen}, Busy: []bool{false}, Free: []int{0}}
	for _, id := range []int{maxGen, 0, -1, maxGen - 1, maxGen + 1} {
		if got, e := ids.Give(free, id); e != api.ErrNone || !same(got, free) {
			t.Errorf("a free slot of the last Gen: Give %d = %v, %d", id, got, e)
		}
	}
	spoilt := api.Table{Gens: []int{maxGen, -1}, Busy: []bool{true, true}}
	if got, e := ids.Give(spoilt, 2*maxGen); e != api.ErrArg || !same(got, spoilt) {
		t.Errorf("the last Gen in a table that is not valid: %v, %d", got, e)
	}
}

// TestB6 plays every sequence of eight takes and gives with 1 to 3 slots: no id is issued twice.
func TestB6(t *testing.T) {
	for room := 1; room <= 3; room++ {
		var play func(x api.Table, issued []int, left int)
		play = func(x api.Table, issued []int, left int) {
			if !ids.Right(x) {
				t.Fatalf("%v is not valid", x)
			}
			if left == 0 {
				return
			}
			if y, id, e := ids.Take(x); e == api.OK {
				if slices.Contains(issued, id) {
					t.Fatalf("%d is issued twice, by %v", id, x)
				}
				play(y, append(slices.Clone(issued), id), left-1)
			}
			for _, id := range issued {
				if y, e := ids.Give(x, id); e == api.OK {
					play(y, issued, left-1)
				}
			}
		}
		play(ids.New(room), nil, 8)
	}
}

// TestB6OverManyTakes gives back now the oldest id, now the newest, now one between, so that all slots are taken again and again.
func TestB6OverManyTakes(t *testing.T) {
	for _, room := range []int{1, 2, 7, 63, 64} {
		x, issued, held := ids.New(room), map[int]bool{}, []int(nil)
		for i := range 5000 {
			if len(held) < room && i%3 != 2 {
				y, id, e := ids.Take(x)
				if e != api.OK || issued[id] || id < 0 {
					t.Fatalf("%d slots, step %d: took %d, %d", room, i, id, e)
				}
				x, issued[id], held = y, true, append(held, id)
				continue
			}
			if len(held) == 0 {
				continue
			}
			at := i * 31 % len(held)
			y, e := ids.Give(x, held[at])
			if e != api.OK {
				t.Fatalf("%d slots, step %d: gave %d, %d", room, i, held[at], e)
			}
			if _, e := ids.Give(y, held[at]); e != api.ErrNone {
				t.Fatalf("%d slots, step %d: gave %d twice, %d", room, i, held[at], e)
			}
			x, held = y, slices.Delete(held, at, at+1)
		}
		for id := range issued {
			if ids.Has(x, id) != slices.Contains(held, id) {
				t.Errorf("%d slots: Has %d = %v", room, id, ids.Has(x, id))
			}
		}
		if len(issued) < 1000 {
			t.Errorf("%d slots: only %d ids were issued", room, len(issued))
		}
	}
}

func TestExample1(t *testing.T) {
	x, a, e := ids.Take(ids.New(2))
	x, b, f := ids.Take(x)
	x, g := ids.Give(x, 0)
	_, c, h := ids.Take(x)
	if a != 0 || b != 1 || c != 2 || e != api.OK || f != api.OK || g != api.OK || h != api.OK {
		t.Errorf("%d %d %d", a, b, c)
	}
}

// room is a table whose slices have memory beyond their length, so that a write there can be seen.
type room struct {
	gens []int
	busy []bool
	free []int
}

func roomFor(x api.Table) room {
	return room{append(slices.Clone(x.Gens), 7, 7), append(slices.Clone(x.Busy), true, true), append(slices.Clone(x.Free), 7, 7)}
}

func (r room) table(x api.Table) api.Table {
	return api.Table{Gens: r.gens[:len(x.Gens)], Busy: r.busy[:len(x.Busy)], Free: r.free[:len(x.Free)]}
}

// scribble writes into all that a result reaches, and behind it.
func scribble(x api.Table) {
	for i := range x.Gens {
		x.Gens[i] = 99
	}
	for i := range x.Busy {
		x.Busy[i] = !x.Busy[i]
	}
	for i := range x.Free {
		x.Free[i] = 99
	}
	_, _, _ = append(x.Gens, 99, 99), append(x.Busy, false, false), append(x.Free, 99, 99)
}

// TestMemory: arguments and the memory beyond their length stay as they were, and a write into a result reaches no argument.
func TestMemory(t *testing.T) {
	tables := wrong()
	small(func(x api.Table) { tables[fmt.Sprint(x)] = x })
	for name, x := range tables {
		r := roomFor(x)
		arg, old := r.table(x), fmt.Sprint(r)
		ids.Right(arg)
		var results []api.Table
		took, _, _ := ids.Take(arg)
		results = append(results, took)
		for _, id := range someIds(x) {
			ids.Has(arg, id)
			gave, _ := ids.Give(arg, id)
			results = append(results, gave)
		}
		if fmt.Sprint(r) != old {
			t.Errorf("%s: the argument became %v", name, r)
		}
		for _, result := range results {
			scribble(result)
		}
		if fmt.Sprint(r) != old {
			t.Errorf("%s: a result shares memory with the argument", name)
		}
	}
	a, b := ids.New(2), ids.New(2)
	scribble(a)
	if !same(b, ids.New(2)) || !ids.Right(b) {
		t.Error("two new tables share memory")
	}
}

func TestSameCallsSameResults(t *testing.T) {
	small(func(x api.Table) {
		for _, id := range []int{0, 1, 2, 3} {
			a, i, e := ids.Take(x)
			b, j, f := ids.Take(x)
			c, g := ids.Give(x, id)
			d, h := ids.Give(x, id)
			if i != j || e != f || g != h || !same(a, b) || !same(c, d) || ids.Has(x, id) != ids.Has(x, id) {
				t.Errorf("%v: two equal calls differ", x)
			}
		}
	})
}
