package ids

import "lockage/api"

// slots is a table that is read. Methods that speak of an id or of one slot ask for a valid table.
type slots struct{ api.Table }

// sized reports whether there are as many slots as there may be, each with its Gen and its Busy.
func (s slots) sized() bool {
	return len(s.Gens) >= 1 && len(s.Gens) <= api.MaxSlots && len(s.Busy) == len(s.Gens)
}

// gensInRange reports whether every Gen is one that a slot may have.
func (s slots) gensInRange() bool {
	for slot := range len(s.Gens) {
		if s.Gens[slot] < 0 || s.Gens[slot] > api.MaxNum {
			return false
		}
	}
	return true
}

// freeListed reports whether Free has exactly the slots of a sized table that are not busy, each once.
func (s slots) freeListed() bool {
	if len(s.Free) > len(s.Gens) {
		return false
	}
	times := s.timesFree()
	free := 0
	for slot := range len(s.Gens) {
		want := 1
		if s.Busy[slot] {
			want = 0
		}
		if times[slot] != want {
			return false
		}
		free += want
	}
	// Each free slot is there once: what Free has beyond them is no slot at all.
	return len(s.Free) == free
}

// timesFree returns how often each number is in Free.
func (s slots) timesFree() map[int]int {
	times := make(map[int]int, len(s.Free))
	for _, slot := range s.Free {
		times[slot]++
	}
	return times
}

// id returns the id of a slot. A Gen is at most 2^53 and there are at most 64 slots, so that it stays below 2^60.
func (s slots) id(slot int) int {
	return s.Gens[slot]*len(s.Gens) + slot
}

// slot returns the only slot that can have that id, which is at least 0.
func (s slots) slot(id int) int {
	return id % len(s.Gens)
}

// has reports whether id is the id of a busy slot.
func (s slots) has(id int) bool {
	if id < 0 {
		return false
	}
	slot := s.slot(id)
	return s.Busy[slot] && s.id(slot) == id
}
