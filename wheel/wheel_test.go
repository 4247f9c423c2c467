package wheel_test

import (
	"fmt"
	"math"
	"math/rand/v2"
	"slices"
	"testing"

	"lockage/api"
	"lockage/wheel"
)

const last = 1 << 53

// with returns a wheel at that time with those timers, each appended to the slot that its time belongs to.
func with(now int, timers ...api.Timer) api.Wheel {
	w := api.Wheel{Now: now}
	for _, x := range timers {
		w.Slots[x.At%8] = append(w.Slots[x.At%8], x)
	}
	return w
}

// in returns a wheel at that time with those timers in that slot, whether they belong there or not.
func in(now, slot int, timers ...api.Timer) api.Wheel {
	w := api.Wheel{Now: now}
	w.Slots[slot] = timers
	return w
}

// many returns n timers with the ids 0 to n-1, the first at the time from, each one so much later than the one before.
func many(n, from, step int) []api.Timer {
	var out []api.Timer
	for i := range n {
		out = append(out, api.Timer{Id: i, At: from + i*step})
	}
	return out
}

// wrong is wheels that are not valid: for each thing that D1 asks, some that break it, most of them in nothing else.
func wrong() map[string]api.Wheel {
	return map[string]api.Wheel{
		"Now of -1":                       {Now: -1},
		"Now of -1, with a timer":         in(-1, 1, api.Timer{Id: 1, At: 1}),
		"Now of -1, a timer at 0":         in(-1, 0, api.Timer{Id: 1, At: 0}),
		"Now far below 0":                 {Now: math.MinInt},
		"Now far below, a timer below 0":  in(-20, 0, api.Timer{Id: 1, At: -8}),
		"Now above 2^53":                  {Now: last + 1},
		"Now above, with a timer":         in(last+1, 2, api.Timer{Id: 1, At: last + 2}),
		"Now far above":                   {Now: math.MaxInt},
		"65 timers":                       with(0, many(65, 1, 1)...),
		"65 timers in one slot":           with(0, many(65, 8, 8)...),
		"65 timers at one time":           with(0, many(65, 3, 0)...),
		"1000 timers":                     with(7, many(1000, 8, 1)...),
		"an Id twice in one slot":         with(0, api.Timer{Id: 3, At: 2}, api.Timer{Id: 3, At: 10}),
		"an Id twice at one time":         with(0, api.Timer{Id: 3, At: 2}, api.Timer{Id: 3, At: 2}),
		"an Id twice, another between":    with(0, api.Timer{Id: 3, At: 2}, api.Timer{Id: 4, At: 2}, api.Timer{Id: 3, At: 10}),
		"an Id twice, in two slots":       with(0, api.Timer{Id: 3, At: 2}, api.Timer{Id: 3, At: 3}),
		"twice, in the first and last":    with(0, api.Timer{Id: 0, At: 8}, api.Timer{Id: 5, At: 4}, api.Timer{Id: 0, At: 7}),
		"twice among 64":                  with(0, append(many(63, 1, 1), api.Timer{Id: 31, At: 64})...),
		"an Id of -1":                     with(0, api.Timer{Id: -1, At: 1}),
		"an Id of -1 behind others":       with(0, api.Timer{Id: 0, At: 1}, api.Timer{Id: 1, At: 9}, api.Timer{Id: -1, At: 1}),
		"an Id far below 0":               with(0, api.Timer{Id: math.MinInt, At: 7}),
		"an At of Now, 0":                 in(0, 0, api.Timer{Id: 1, At: 0}),
		"an At of Now, 21":                in(21, 5, api.Timer{Id: 1, At: 21}),
		"an At of Now, 2^53":              in(last, 0, api.Timer{Id: 1, At: last}),
		"an At of Now behind others":      in(21, 5, api.Timer{Id: 1, At: 29}, api.Timer{Id: 2, At: 37}, api.Timer{Id: 3, At: 21}),
		"an At before Now":                in(21, 4, api.Timer{Id: 1, At: 20}),
		"an At of Now - 8":                in(21, 5, api.Timer{Id: 1, At: 13}),
		"an At below 0":                   in(0, 0, api.Timer{Id: 1, At: -8}),
		"an At below 0, modulo 8 below 0": in(0, 7, api.Timer{Id: 1, At: -1}),
		"an At far below 0":               in(0, 0, api.Timer{Id: 1, At: math.MinInt}),
		"an At of 2^53 + 1":               in(0, 1, api.Timer{Id: 1, At: last + 1}),
		"an At of 2^53 + 8":               in(0, 0, api.Timer{Id: 1, At: last + 8}),
		"an At of 2^53 + 1, at 2^53":      in(last, 1, api.Timer{Id: 1, At: last + 1}),
		"an At far above 2^53":            in(0, 7, api.Timer{Id: 1, At: math.MaxInt}),
		"an At of the slot ahead":         in(0, 2, api.Timer{Id: 1, At: 1}),
		"an At of the slot behind":        in(0, 2, api.Timer{Id: 1, At: 3}),
		"an At of slot 0 in slot 7":       in(0, 7, api.Timer{Id: 1, At: 8}),
		"an At of slot 7 in slot 0":       in(0, 0, api.Timer{Id: 1, At: 7}),
		"of another slot behind others":   in(0, 2, api.Timer{Id: 1, At: 2}, api.Timer{Id: 2, At: 10}, api.Timer{Id: 3, At: 11}),
		"all timers in one slot":          in(0, 0, many(8, 1, 1)...),
	}
}

// small calls do with every valid wheel that has one of some times, and up to three timers with the ids 0 to 2, in every order, 1, 2, 9 or 17 ticks ahead.
func small(do func(w api.Wheel)) {
	for _, now := range []int{0, 6, 15, last - 10, last - 1, last} {
		var grow func(w api.Wheel, timers []api.Timer)
		grow = func(w api.Wheel, timers []api.Timer) {
			do(w)
			for id := range 3 {
				if slices.ContainsFunc(timers, func(x api.Timer) bool { return x.Id == id }) {
					continue
				}
				for _, ticks := range []int{1, 2, 9, 17} {
					if at := now + ticks; at <= last {
						more := append(slices.Clone(timers), api.Timer{Id: id, At: at})
						grow(with(now, more...), more)
					}
				}
			}
		}
		grow(api.Wheel{Now: now}, nil)
	}
}

// full returns a valid wheel at that time with 64 timers, the ids 0 to 63.
func full(now int) api.Wheel {
	return with(now, many(64, now+1, 1)...)
}

// someIds is ids to ask a wheel for: those near 0 and near 64, and those far off.
func someIds() []int {
	return []int{math.MinInt, math.MinInt + 1, -8, -1, 0, 1, 2, 3, 63, 64, 65, last, last + 1, math.MaxInt}
}

// someTimes is times to set a timer to at that time: those about Now, about the bound, and those far off.
func someTimes(now int) []int {
	out := []int{math.MinInt, -9, -8, -1, 0, last - 1, last, last + 1, last + 8, math.MaxInt}
	for d := -9; d <= 17; d++ {
		out = append(out, now+d)
	}
	return out
}

func same(a, b api.Wheel) bool {
	for slot := range a.Slots {
		if !slices.Equal(a.Slots[slot], b.Slots[slot]) {
			return false
		}
	}
	return a.Now == b.Now
}

func clone(w api.Wheel) api.Wheel {
	for slot := range w.Slots {
		w.Slots[slot] = slices.Clone(w.Slots[slot])
	}
	return w
}

func show(w api.Wheel) string {
	return fmt.Sprintf("%.300s", fmt.Sprint(w))
}

// has tells the slot and the place in it of the timer with that id; the slot is -1 if there is none.
func has(w api.Wheel, id int) (slot, place int) {
	for slot, timers := range w.Slots {
		for place, x := range timers {
			if x.Id == id {
				return slot, place
			}
		}
	}
	return -1, 0
}

func total(w api.Wheel) int {
	n := 0
	for _, timers := range w.Slots {
		n += len(timers)
	}
	return n
}

// valid is D1, word by word.
func valid(w api.Wheel) bool {
	if w.Now < 0 || w.Now > last || total(w) > 64 {
		return false
	}
	times := map[int]int{}
	for slot, timers := range w.Slots {
		for _, x := range timers {
			times[x.Id]++
			if times[x.Id] > 1 || x.Id < 0 || x.At <= w.Now || x.At > last || x.At%8 != slot {
				return false
			}
		}
	}
	return true
}

func TestLimits(t *testing.T) {
	if api.MaxNum != last || api.MaxTimers != 64 || api.MaxWheel != 8 {
		t.Errorf("%d, %d, %d", api.MaxNum, api.MaxTimers, api.MaxWheel)
	}
}

func TestD1RightOfValidWheels(t *testing.T) {
	small(func(w api.Wheel) {
		if !wheel.Right(w) {
			t.Errorf("%s is valid", show(w))
		}
	})
	for name, w := range map[string]api.Wheel{
		"the zero wheel":            {},
		"empty slots":               {Slots: [8][]api.Timer{{}, {}, {}, {}, {}, {}, {}, {}}},
		"Now of 1":                  {Now: 1},
		"Now of 2^53 - 1":           {Now: last - 1},
		"Now of 2^53":               {Now: last},
		"63 timers":                 with(0, many(63, 1, 1)...),
		"64 timers":                 with(0, many(64, 1, 1)...),
		"64 timers in one slot":     with(0, many(64, 8, 8)...),
		"64 timers at one time":     with(0, many(64, 3, 0)...),
		"64 timers up to 2^53":      with(last-64, many(64, last-63, 1)...),
		"ids of 0 and far above":    with(0, api.Timer{Id: 0, At: 1}, api.Timer{Id: math.MaxInt, At: 1}, api.Timer{Id: last + 1, At: 2}),
		"ids that go down":          with(0, api.Timer{Id: 9, At: 1}, api.Timer{Id: 5, At: 1}, api.Timer{Id: 2, At: 9}),
		"times that go down":        with(0, api.Timer{Id: 1, At: 26}, api.Timer{Id: 2, At: 10}, api.Timer{Id: 3, At: 2}),
		"an At of Now + 1":          with(21, api.Timer{Id: 1, At: 22}),
		"an At of 1, at 0":          with(0, api.Timer{Id: 1, At: 1}),
		"an At of Now + 8":          with(21, api.Timer{Id: 1, At: 29}),
		"an At of 2^53":             with(0, api.Timer{Id: 1, At: last}),
		"an At of 2^53, just ahead": with(last-1, api.Timer{Id: 1, At: last}),
		"an id that is its time":    with(3, api.Timer{Id: 8, At: 8}, api.Timer{Id: 4, At: 4}),
	} {
		if !wheel.Right(w) {
			t.Errorf("%s: is valid", name)
		}
	}
}

func TestD1RightOfWrongWheels(t *testing.T) {
	for name, w := range wrong() {
		if wheel.Right(w) {
			t.Errorf("%s: %s is not valid", name, show(w))
		}
	}
}

// TestD1RightOfEverySlot puts timers of every time near Now into every slot.
func TestD1RightOfEverySlot(t *testing.T) {
	for _, now := range []int{-1, 0, 1, 7, 8, 13, last - 9, last - 1, last, last + 1} {
		for slot := range 8 {
			for d := -17; d <= 17; d++ {
				for id := -1; id <= 1; id++ {
					w := in(now, slot, api.Timer{Id: id, At: now + d})
					if got := wheel.Right(w); got != valid(w) {
						t.Errorf("Right(%s) = %v", show(w), got)
					}
					w.Slots[5] = append(w.Slots[5], api.Timer{Id: 1, At: now - now%8 + 13})
					if got := wheel.Right(w); got != valid(w) {
						t.Errorf("Right(%s) = %v", show(w), got)
					}
				}
			}
		}
	}
}

// checkSet holds Set against D2, word by word.
func checkSet(t *testing.T, w api.Wheel, id, at int) {
	t.Helper()
	slot, _ := has(w, id)
	want, code := clone(w), api.OK
	switch {
	case !valid(w) || id < 0 || at <= w.Now || at > last:
		code = api.ErrArg
	case slot >= 0:
		code = api.ErrBusy
	case total(w) == 64:
		code = api.ErrFull
	default:
		want.Slots[at%8] = append(want.Slots[at%8], api.Timer{Id: id, At: at})
	}
	got, e := wheel.Set(w, id, at)
	if e != code || !same(got, want) {
		t.Errorf("Set(%s, %d, %d) = %s, %d, want %d", show(w), id, at, show(got), e, code)
	}
	if valid(w) && !wheel.Right(got) {
		t.Errorf("Set(%s, %d, %d) = %s, which is not valid", show(w), id, at, show(got))
	}
}

func TestD2Set(t *testing.T) {
	small(func(w api.Wheel) {
		for _, id := range []int{-1, 0, 1, 2, 3} {
			for d := -1; d <= 10; d++ {
				checkSet(t, w, id, w.Now+d)
			}
		}
	})
	for _, w := range []api.Wheel{{}, {Now: 21}, {Now: last}, with(3, many(5, 9, 8)...), with(0, many(63, 1, 1)...), full(0), full(13), full(last - 64)} {
		for _, id := range someIds() {
			for _, at := range someTimes(w.Now) {
				checkSet(t, w, id, at)
			}
		}
	}
}

func TestD2SetOfCertainTimers(t *testing.T) {
	three := with(21, api.Timer{Id: 1, At: 30}, api.Timer{Id: 2, At: 22}, api.Timer{Id: 3, At: 23})
	most := full(21)
	for _, c := range []struct {
		w      api.Wheel
		id, at int
		e      api.Errno
	}{
		{three, 4, 22, api.OK},
		{three, 0, 22, api.OK},
		{three, math.MaxInt, 38, api.OK},
		{three, 4, last, api.OK},
		{three, -1, 22, api.ErrArg},
		{three, math.MinInt, 22, api.ErrArg},
		{three, 4, 21, api.ErrArg},
		{three, 4, 20, api.ErrArg},
		{three, 4, 14, api.ErrArg},
		{three, 4, 0, api.ErrArg},
		{three, 4, -2, api.ErrArg},
		{three, 4, math.MinInt, api.ErrArg},
		{three, 4, last + 1, api.ErrArg},
		{three, 4, math.MaxInt, api.ErrArg},
		{three, 1, 30, api.ErrBusy},
		{three, 1, 22, api.ErrBusy},
		{three, 3, last, api.ErrBusy},
		{three, 1, 21, api.ErrArg},
		{three, 1, last + 1, api.ErrArg},
		{most, 64, 22, api.ErrFull},
		{most, 64, last, api.ErrFull},
		{most, 0, 22, api.ErrBusy},
		{most, 63, last, api.ErrBusy},
		{most, -1, 22, api.ErrArg},
		{most, 64, 21, api.ErrArg},
		{most, 63, last + 1, api.ErrArg},
		{api.Wheel{Now: last}, 0, last, api.ErrArg},
		{api.Wheel{Now: last}, 0, last + 1, api.ErrArg},
		{api.Wheel{Now: last - 1}, 0, last, api.OK},
		{api.Wheel{}, 0, 0, api.ErrArg},
		{api.Wheel{}, 0, 1, api.OK},
	} {
		got, e := wheel.Set(c.w, c.id, c.at)
		want := clone(c.w)
		if c.e == api.OK {
			want.Slots[c.at%8] = append(want.Slots[c.at%8], api.Timer{Id: c.id, At: c.at})
		}
		if e != c.e || !same(got, want) {
			t.Errorf("Set(%s, %d, %d) = %s, %d, want %d", show(c.w), c.id, c.at, show(got), e, c.e)
		}
	}
}

func TestD2SetUpTo64(t *testing.T) {
	var w api.Wheel
	for i := range 64 {
		v, e := wheel.Set(w, 63-i, 8+i%3*8)
		if e != api.OK || v.Slots[0][i] != (api.Timer{Id: 63 - i, At: 8 + i%3*8}) || len(v.Slots[0]) != i+1 {
			t.Fatalf("the timer %d: %s, %d", i, show(v), e)
		}
		w = v
	}
	if v, e := wheel.Set(w, 64, 1); e != api.ErrFull || !same(v, w) {
		t.Errorf("the timer after 64: %s, %d", show(v), e)
	}
	w, _ = wheel.Cancel(w, 5)
	if v, e := wheel.Set(w, 64, 1); e != api.OK || total(v) != 64 {
		t.Errorf("after a timer was cancelled: %s, %d", show(v), e)
	}
}

func TestD2SetToAWrongWheel(t *testing.T) {
	for name, w := range wrong() {
		for _, id := range someIds() {
			for _, at := range someTimes(w.Now) {
				if got, e := wheel.Set(w, id, at); e != api.ErrArg || !same(got, w) {
					t.Errorf("%s: Set %d at %d = %s, %d", name, id, at, show(got), e)
				}
			}
		}
	}
}

// checkCancel holds Cancel against D3, word by word.
func checkCancel(t *testing.T, w api.Wheel, id int) {
	t.Helper()
	slot, place := has(w, id)
	want, code := clone(w), api.OK
	switch {
	case !valid(w):
		code = api.ErrArg
	case slot < 0:
		code = api.ErrNone
	default:
		want.Slots[slot] = append(slices.Clone(w.Slots[slot][:place]), w.Slots[slot][place+1:]...)
	}
	got, e := wheel.Cancel(w, id)
	if e != code || !same(got, want) {
		t.Errorf("Cancel(%s, %d) = %s, %d, want %s, %d", show(w), id, show(got), e, show(want), code)
	}
	if valid(w) && !wheel.Right(got) {
		t.Errorf("Cancel(%s, %d) = %s, which is not valid", show(w), id, show(got))
	}
}

func TestD3Cancel(t *testing.T) {
	small(func(w api.Wheel) {
		for id := -1; id <= 4; id++ {
			checkCancel(t, w, id)
		}
	})
	for _, w := range []api.Wheel{{}, {Now: last}, with(0, many(64, 8, 8)...), full(0), full(last - 64)} {
		for id := -2; id <= 66; id++ {
			checkCancel(t, w, id)
		}
		for _, id := range someIds() {
			checkCancel(t, w, id)
		}
	}
}

func TestD3CancelByPlace(t *testing.T) {
	five := with(0, many(5, 2, 8)...)
	five.Slots[3] = []api.Timer{{Id: 9, At: 3}, {Id: 8, At: 11}}
	for id, want := range map[int]string{
		0: "[{1 10} {2 18} {3 26} {4 34}]",
		1: "[{0 2} {2 18} {3 26} {4 34}]",
		2: "[{0 2} {1 10} {3 26} {4 34}]",
		4: "[{0 2} {1 10} {2 18} {3 26}]",
	} {
		got, e := wheel.Cancel(five, id)
		if e != api.OK || fmt.Sprint(got.Slots[2]) != want || !slices.Equal(got.Slots[3], five.Slots[3]) {
			t.Errorf("Cancel of %d: %s, %d, want %s", id, show(got), e, want)
		}
		if again, e := wheel.Cancel(got, id); e != api.ErrNone || !same(again, got) {
			t.Errorf("Cancel of %d, again: %s, %d", id, show(again), e)
		}
	}
	for _, id := range []int{5, 2 * 8, 34, -1, -5, math.MinInt, math.MaxInt} {
		if got, e := wheel.Cancel(five, id); e != api.ErrNone || !same(got, five) {
			t.Errorf("Cancel of %d: %s, %d", id, show(got), e)
		}
	}
	if got, e := wheel.Cancel(with(0, api.Timer{Id: 4, At: 2}), 4); e != api.OK || !same(got, api.Wheel{}) {
		t.Errorf("Cancel of the only timer: %s, %d", show(got), e)
	}
}

func TestD3CancelInAWrongWheel(t *testing.T) {
	for name, w := range wrong() {
		for _, id := range append(someIds(), 4, 5, 31) {
			if got, e := wheel.Cancel(w, id); e != api.ErrArg || !same(got, w) {
				t.Errorf("%s: Cancel %d = %s, %d", name, id, show(got), e)
			}
		}
	}
}

// checkTick holds Tick against D4, word by word.
func checkTick(t *testing.T, w api.Wheel) {
	t.Helper()
	want, code := clone(w), api.OK
	var due []int
	switch {
	case !valid(w):
		code = api.ErrArg
	case w.Now == last:
		code = api.ErrBig
	default:
		want = api.Wheel{Now: w.Now + 1}
		for slot, timers := range w.Slots {
			for _, x := range timers {
				if x.At == want.Now {
					due = append(due, x.Id)
				} else {
					want.Slots[slot] = append(want.Slots[slot], x)
				}
			}
		}
	}
	got, ids, e := wheel.Tick(w)
	if e != code || !slices.Equal(ids, due) || !same(got, want) {
		t.Errorf("Tick(%s) = %s, %v, %d, want %s, %v, %d", show(w), show(got), ids, e, show(want), due, code)
	}
	if valid(w) && !wheel.Right(got) {
		t.Errorf("Tick(%s) = %s, which is not valid", show(w), show(got))
	}
}

func TestD4Tick(t *testing.T) {
	small(func(w api.Wheel) { checkTick(t, w) })
	for _, w := range []api.Wheel{
		{}, {Now: 7}, {Now: last - 1}, {Now: last},
		with(0, many(64, 1, 0)...), with(0, many(64, 1, 8)...), with(7, many(64, 8, 8)...), full(0), full(last - 64),
		with(last-1, many(64, last, 0)...),
	} {
		checkTick(t, w)
	}
}

func TestD4TickOfAMixedSlot(t *testing.T) {
	w := with(9, api.Timer{Id: 7, At: 18}, api.Timer{Id: 5, At: 10}, api.Timer{Id: 1, At: 26}, api.Timer{Id: 9, At: 10},
		api.Timer{Id: 0, At: 10}, api.Timer{Id: 3, At: 18}, api.Timer{Id: 2, At: 10}, api.Timer{Id: 4, At: 11}, api.Timer{Id: 6, At: 17})
	got, ids, e := wheel.Tick(w)
	if e != api.OK || got.Now != 10 || fmt.Sprint(ids) != "[5 9 0 2]" || fmt.Sprint(got.Slots) != "[[] [{6 17}] [{7 18} {1 26} {3 18}] [{4 11}] [] [] [] []]" {
		t.Errorf("%s, %v, %d", show(got), ids, e)
	}
	got, ids, e = wheel.Tick(got)
	if e != api.OK || got.Now != 11 || fmt.Sprint(ids) != "[4]" || fmt.Sprint(got.Slots) != "[[] [{6 17}] [{7 18} {1 26} {3 18}] [] [] [] [] []]" {
		t.Errorf("%s, %v, %d", show(got), ids, e)
	}
	next, ids, e := wheel.Tick(got)
	if e != api.OK || len(ids) != 0 || next.Now != 12 || next.Slots[2][0].Id != 7 || total(next) != 4 {
		t.Errorf("nothing due: %s, %v, %d", show(next), ids, e)
	}
}

func TestD4TickAtTheEnd(t *testing.T) {
	w := with(last-2, api.Timer{Id: 1, At: last}, api.Timer{Id: 2, At: last - 1}, api.Timer{Id: 0, At: last})
	w, ids, e := wheel.Tick(w)
	if e != api.OK || fmt.Sprint(ids) != "[2]" {
		t.Errorf("to 2^53 - 1: %s, %v, %d", show(w), ids, e)
	}
	w, ids, e = wheel.Tick(w)
	if e != api.OK || fmt.Sprint(ids) != "[1 0]" || !same(w, api.Wheel{Now: last}) || !wheel.Right(w) {
		t.Errorf("to 2^53: %s, %v, %d", show(w), ids, e)
	}
	w, ids, e = wheel.Tick(w)
	if e != api.ErrBig || len(ids) != 0 || !same(w, api.Wheel{Now: last}) {
		t.Errorf("beyond 2^53: %s, %v, %d", show(w), ids, e)
	}
}

func TestD4TickOfAWrongWheel(t *testing.T) {
	for name, w := range wrong() {
		if got, ids, e := wheel.Tick(w); e != api.ErrArg || len(ids) != 0 || !same(got, w) {
			t.Errorf("%s: Tick = %s, %v, %d", name, show(got), ids, e)
		}
	}
}

// run is a wheel beside what D5 says of it: the timers that were set and neither told nor cancelled, in the order in which they were set.
type run struct {
	w    api.Wheel
	open []api.Timer
}

func (r run) set(t *testing.T, id, at int) run {
	t.Helper()
	w, e := wheel.Set(r.w, id, at)
	if e != api.OK {
		t.Fatalf("Set(%s, %d, %d): %d", show(r.w), id, at, e)
	}
	return run{w, append(slices.Clone(r.open), api.Timer{Id: id, At: at})}
}

func (r run) cancel(t *testing.T, id int) run {
	t.Helper()
	w, e := wheel.Cancel(r.w, id)
	if e != api.OK {
		t.Fatalf("Cancel(%s, %d): %d", show(r.w), id, e)
	}
	return run{w, slices.DeleteFunc(slices.Clone(r.open), func(x api.Timer) bool { return x.Id == id })}
}

// tick goes on by one, and fails unless exactly the open timers of the new time are told, in the order in which they were set.
func (r run) tick(t *testing.T) run {
	t.Helper()
	w, ids, e := wheel.Tick(r.w)
	if e != api.OK || w.Now != r.w.Now+1 {
		t.Fatalf("Tick(%s): %s, %d", show(r.w), show(w), e)
	}
	var want []int
	var open []api.Timer
	for _, x := range r.open {
		if x.At == w.Now {
			want = append(want, x.Id)
		} else {
			open = append(open, x)
		}
	}
	if !slices.Equal(ids, want) || total(w) != len(open) || !wheel.Right(w) {
		t.Fatalf("Tick(%s) = %s, %v, want %v", show(r.w), show(w), ids, want)
	}
	return run{w, open}
}

// TestD5 plays every sequence of six calls: Set of two ids 1, 2, 8 or 9 ticks ahead, Cancel of what is open, and Tick; then it ticks till all are told.
func TestD5(t *testing.T) {
	for _, now := range []int{0, 6, last - 30} {
		var play func(r run, left int)
		play = func(r run, left int) {
			if left == 0 {
				for range 10 {
					r = r.tick(t)
				}
				if len(r.open) != 0 {
					t.Fatalf("%v were never told", r.open)
				}
				return
			}
			play(r.tick(t), left-1)
			for id := range 2 {
				if slot, _ := has(r.w, id); slot >= 0 {
					play(r.cancel(t, id), left-1)
					continue
				}
				for _, ticks := range []int{1, 2, 8, 9} {
					play(r.set(t, id, r.w.Now+ticks), left-1)
				}
			}
		}
		play(run{w: api.Wheel{Now: now}}, 6)
	}
}

// TestD5OverLongRuns sets timers near and far, cancels some, and reuses ids, over many turns of the wheel; each timer is told once or cancelled.
func TestD5OverLongRuns(t *testing.T) {
	for seed := range uint64(8) {
		choose := rand.New(rand.NewPCG(seed, 4))
		r := run{w: api.Wheel{Now: choose.IntN(100)}}
		set, ended := 0, 0
		for range 20000 {
			id := choose.IntN(90)
			slot, _ := has(r.w, id)
			before := len(r.open)
			switch act := choose.IntN(6); {
			case act == 0:
				r = r.tick(t)
			case act == 1 && slot >= 0:
				r = r.cancel(t, id)
			case act > 1 && slot < 0 && len(r.open) < 64:
				r = r.set(t, id, r.w.Now+1+choose.IntN([]int{1, 8, 9, 40, 200}[choose.IntN(5)]))
				set++
			}
			ended += max(0, before-len(r.open))
		}
		for range 200 {
			r = r.tick(t)
		}
		if len(r.open) != 0 || total(r.w) != 0 || set < 3000 || ended < 3000 {
			t.Errorf("run %d: %d set, %d ended, %v open", seed, set, ended, r.open)
		}
	}
}

// TestD5ToTheEnd ticks a full wheel up to the last time there is.
func TestD5ToTheEnd(t *testing.T) {
	r := run{w: api.Wheel{Now: last - 100}}
	for i := range 64 {
		r = r.set(t, i, last-i*7%100)
	}
	for range 100 {
		r = r.tick(t)
	}
	if len(r.open) != 0 || !same(r.w, api.Wheel{Now: last}) {
		t.Errorf("%s, %v open", show(r.w), r.open)
	}
}

func TestExample1(t *testing.T) {
	w, e := wheel.Set(api.Wheel{}, 7, 2)
	w, f := wheel.Set(w, 9, 10)
	w, one, g := wheel.Tick(w)
	w, two, h := wheel.Tick(w)
	if e != api.OK || f != api.OK || g != api.OK || h != api.OK || len(one) != 0 || fmt.Sprint(two) != "[7]" || w.Now != 2 {
		t.Errorf("%v, %v, %s", one, two, show(w))
	}
}

// laid returns w with its slots as parts of one memory, each with more behind its length, so that a write there can be seen.
func laid(w api.Wheel) (api.Wheel, []api.Timer) {
	var memory []api.Timer
	for _, timers := range w.Slots {
		memory = append(append(memory, timers...), api.Timer{Id: 777, At: 777})
	}
	at := 0
	for slot, timers := range w.Slots {
		w.Slots[slot] = memory[at : at+len(timers)]
		at += len(timers) + 1
	}
	return w, memory
}

// scribble writes into all that a slot of a result reaches, up to its capacity.
func scribble(timers []api.Timer) {
	timers = timers[:cap(timers)]
	for i := range timers {
		timers[i] = api.Timer{Id: 99, At: 99}
	}
}

// results calls everything that returns a wheel, with ids and times of all kinds.
func results(w api.Wheel) []api.Wheel {
	wheel.Right(w)
	ticked, _, _ := wheel.Tick(w)
	out := []api.Wheel{ticked}
	for _, id := range []int{-1, 0, 1, 2, 3, 64} {
		cancelled, _ := wheel.Cancel(w, id)
		out = append(out, cancelled)
		for _, ticks := range []int{0, 1, 2, 9} {
			set, _ := wheel.Set(w, id, w.Now+ticks)
			out = append(out, set)
		}
	}
	return out
}

// TestMemory: arguments and the memory beyond their length stay as they were, and a write into a result reaches no argument, no other result, and no other slot.
func TestMemory(t *testing.T) {
	wheels := wrong()
	small(func(w api.Wheel) { wheels[fmt.Sprint(w)] = w })
	wheels["64 timers"] = full(3)
	wheels["empty slots"] = api.Wheel{Slots: [8][]api.Timer{{}, {}, {}, {}, {}, {}, {}, {}}}
	for name, w := range wheels {
		arg, memory := laid(w)
		old := slices.Clone(memory)
		all := results(arg)
		if !slices.Equal(memory, old) || !same(arg, w) {
			t.Errorf("%s: the argument became %v", name, memory)
		}
		for i, result := range all {
			before := clone(result)
			for slot := range result.Slots {
				if !slices.Equal(result.Slots[slot], before.Slots[slot]) {
					t.Errorf("%s: two slots of result %d share memory", name, i)
				}
				scribble(result.Slots[slot])
			}
		}
		if !slices.Equal(memory, old) {
			t.Errorf("%s: a result shares memory with the argument", name)
		}
		for i, again := range results(arg) {
			if again.Now != all[i].Now || total(again) != total(all[i]) {
				t.Errorf("%s: result %d is another one when it is asked for again", name, i)
			}
		}
	}
}

// TestMemoryOfOneResultAndAnother: results that were there before another one is written to stay as they were.
func TestMemoryOfOneResultAndAnother(t *testing.T) {
	small(func(w api.Wheel) {
		a, b := results(w), results(w)
		for _, result := range a {
			for _, timers := range result.Slots {
				scribble(timers)
			}
		}
		for i, want := range results(w) {
			if !same(b[i], want) {
				t.Fatalf("%s: result %d shares memory with another", show(w), i)
			}
		}
	})
}

func TestMemoryOfIds(t *testing.T) {
	w := with(0, many(5, 1, 0)...)
	ticked, ids, _ := wheel.Tick(w)
	_, other, _ := wheel.Tick(w)
	for i := range ids {
		ids[i] = 99
	}
	if fmt.Sprint(other) != "[0 1 2 3 4]" || !same(w, with(0, many(5, 1, 0)...)) || !same(ticked, api.Wheel{Now: 1}) {
		t.Errorf("%v, %s, %s", other, show(w), show(ticked))
	}
}

func TestSameCallsSameResults(t *testing.T) {
	check := func(w api.Wheel) {
		a, i, e := wheel.Tick(w)
		b, j, f := wheel.Tick(w)
		if !same(a, b) || !slices.Equal(i, j) || e != f || wheel.Right(w) != wheel.Right(w) {
			t.Errorf("%s: two equal ticks differ", show(w))
		}
		for id := -1; id <= 3; id++ {
			a, e := wheel.Cancel(w, id)
			b, f := wheel.Cancel(w, id)
			c, g := wheel.Set(w, id, w.Now+3)
			d, h := wheel.Set(w, id, w.Now+3)
			if !same(a, b) || e != f || !same(c, d) || g != h {
				t.Errorf("%s: two equal calls with the id %d differ", show(w), id)
			}
		}
	}
	small(check)
	for _, w := range wrong() {
		check(w)
	}
}
