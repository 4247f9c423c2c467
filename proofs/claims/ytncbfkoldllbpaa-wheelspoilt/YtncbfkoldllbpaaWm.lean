/-
  Lists alone, for layer 4: a wheel as eight lists of timers, and what the chapter's calls make of it. (No word of the program stands here.)
-/
import Derived.Test.YtncbfkoldllbpaaProg
namespace Go.Proofs.Ytncbfkoldllbpaa

/-- a timer: its id, and when it is due -/
abbrev Tm := Int × Int
/-- a wheel: now, and the timers of each slot -/
structure Wl where
  now : Int
  sl : Nat → List Tm

/-- how many timers there are in the first k slots -/
def manyTo (W : Wl) : Nat → Nat
  | 0 => 0
  | k + 1 => manyTo W k + (W.sl k).length
def manyN (W : Wl) : Nat := manyTo W 8

theorem many_le (W : Wl) {k l : Nat} (h : k ≤ l) : manyTo W k ≤ manyTo W l := by
  induction l with
  | zero => have : k = 0 := by omega
            subst this; exact Nat.le_refl _
  | succ l ih =>
    by_cases hk : k = l + 1
    · subst hk; exact Nat.le_refl _
    · have := ih (by omega)
      simp only [manyTo]
      omega
theorem len_le (W : Wl) {i : Nat} (h : i < 8) : (W.sl i).length ≤ manyN W := by
  have h1 := many_le W (show i + 1 ≤ 8 by omega)
  have h2 : manyTo W (i + 1) = manyTo W i + (W.sl i).length := rfl
  unfold manyN
  omega

/-- is there a timer with that id at that place? -/
def Place (W : Wl) (id : Int) (i k : Nat) : Prop := i < 8 ∧ ∃ t : Tm, (W.sl i)[k]? = some t ∧ t.1 = id
/-- is there a timer with that id? -/
def hasN (W : Wl) (id : Int) : Prop := ∃ i k, Place W id i k

/-- the first place of an id, in the first k slots -/
def findTo (W : Wl) (id : Int) : Nat → Option (Nat × Nat)
  | 0 => none
  | k + 1 => match findTo W id k with
    | some p => some p
    | none => ((W.sl k).findIdx? (fun t => t.1 == id)).map (fun j => (k, j))
def findN (W : Wl) (id : Int) : Int × Int := match findTo W id 8 with
  | some p => ((p.1 : Int), (p.2 : Int))
  | none => (-1, -1)

theorem findTo_up {W : Wl} {id : Int} {k : Nat} {p : Nat × Nat} (h : findTo W id k = some p) : ∀ l, k ≤ l → findTo W id l = some p := by
  intro l hl
  induction l with
  | zero => have : k = 0 := by omega
            subst this; exact h
  | succ l ih =>
    by_cases hk : k = l + 1
    · subst hk; exact h
    · simp only [findTo, ih (by omega)]

theorem findTo_some {W : Wl} {id : Int} : ∀ {k : Nat} {p : Nat × Nat}, findTo W id k = some p → p.1 < k ∧ ∃ t : Tm, (W.sl p.1)[p.2]? = some t ∧ t.1 = id
  | 0, p, h => by simp [findTo] at h
  | k + 1, p, h => by
    simp only [findTo] at h
    cases hk : findTo W id k with
    | some q =>
      rw [hk] at h
      obtain ⟨h1, h2⟩ := findTo_some hk
      obtain rfl : q = p := by simpa using h
      exact ⟨by omega, h2⟩
    | none =>
      rw [hk] at h
      simp only [Option.map_eq_some_iff] at h
      obtain ⟨j, hj, rfl⟩ := h
      rw [List.findIdx?_eq_some_iff_getElem] at hj
      obtain ⟨hlt, hid, _⟩ := hj
      exact ⟨by simp, _, List.getElem?_eq_getElem hlt, by simpa using hid⟩

theorem findTo_none {W : Wl} {id : Int} : ∀ {k : Nat}, findTo W id k = none → ∀ (i j : Nat), i < k → ∀ t : Tm, (W.sl i)[j]? = some t → t.1 ≠ id
  | 0, _ => fun i j hi => by omega
  | k + 1, h => by
    simp only [findTo] at h
    cases hk : findTo W id k with
    | some q => rw [hk] at h; simp at h
    | none =>
      rw [hk] at h
      simp only [Option.map_eq_none_iff, List.findIdx?_eq_none_iff] at h
      intro i j hi t ht
      by_cases hik : i < k
      · exact findTo_none hk i j hik t ht
      · have : i = k := by omega
        subst this
        have := h t (List.mem_of_getElem? ht)
        simpa using this

/-- a place, or none -/
theorem find_cases (W : Wl) (id : Int) : (∃ i k : Nat, Place W id i k ∧ findN W id = ((i : Int), (k : Int))) ∨ (¬ hasN W id ∧ findN W id = (-1, -1)) := by
  unfold findN
  cases h : findTo W id 8 with
  | some p =>
    obtain ⟨h1, h2⟩ := findTo_some h
    exact .inl ⟨p.1, p.2, ⟨h1, h2⟩, rfl⟩
  | none =>
    refine .inr ⟨?_, rfl⟩
    rintro ⟨i, k, hi, t, ht, he⟩
    exact findTo_none h i k hi t ht he

/-- a valid wheel (D1) -/
structure Ok (W : Wl) : Prop where
  lo : 0 ≤ W.now
  hi : W.now ≤ 9007199254740992
  few : manyN W ≤ 64
  each : ∀ (i k : Nat) (t : Tm), i < 8 → (W.sl i)[k]? = some t → 0 ≤ t.1 ∧ W.now < t.2 ∧ t.2 ≤ 9007199254740992 ∧ t.2 % 8 = (i : Int)
  once : ∀ (id : Int) (i k j l : Nat), Place W id i k → Place W id j l → i = j ∧ k = l

/-- what is asked of one timer, at its place -/
def Good (W : Wl) (i k : Nat) (t : Tm) : Prop := 0 ≤ t.1 ∧ W.now < t.2 ∧ t.2 ≤ 9007199254740992 ∧ t.2 % 8 = (i : Int) ∧ findN W t.1 = ((i : Int), (k : Int))

theorem find_place {W : Wl} {id : Int} {i k : Nat} (h : findN W id = ((i : Int), (k : Int))) : Place W id i k := by
  rcases find_cases W id with ⟨j, l, hp, he⟩ | ⟨_, he⟩
  · rw [h] at he
    simp only [Prod.mk.injEq, Int.natCast_inj] at he
    obtain ⟨rfl, rfl⟩ := he
    exact hp
  · rw [h] at he
    simp only [Prod.mk.injEq] at he
    omega
theorem Ok.find {W : Wl} (h : Ok W) {id : Int} {i k : Nat} (hp : Place W id i k) : findN W id = ((i : Int), (k : Int)) := by
  rcases find_cases W id with ⟨j, l, hq, he⟩ | ⟨hn, _⟩
  · obtain ⟨rfl, rfl⟩ := h.once id _ _ _ _ hp hq
    exact he
  · exact absurd ⟨i, k, hp⟩ hn

theorem ok_of_good {W : Wl} (h0 : 0 ≤ W.now) (h1 : W.now ≤ 9007199254740992) (h2 : manyN W ≤ 64) (h : ∀ (i k : Nat) (t : Tm), i < 8 → (W.sl i)[k]? = some t → Good W i k t) : Ok W where
  lo := h0
  hi := h1
  few := h2
  each i k t hi ht := by
    obtain ⟨a, b, c, d, _⟩ := h i k t hi ht
    exact ⟨a, b, c, d⟩
  once id i k j l := by
    rintro ⟨hi, t, ht, rfl⟩ ⟨hj, u, hu, he⟩
    have a := (h i k t hi ht).2.2.2.2
    have b := (h j l u hj hu).2.2.2.2
    rw [he, a] at b
    simp only [Prod.mk.injEq, Int.natCast_inj] at b
    exact b
theorem Ok.good {W : Wl} (h : Ok W) {i k : Nat} {t : Tm} (hi : i < 8) (ht : (W.sl i)[k]? = some t) : Good W i k t := by
  obtain ⟨a, b, c, d⟩ := h.each i k t hi ht
  exact ⟨a, b, c, d, h.find ⟨hi, t, ht, rfl⟩⟩

open Classical in
noncomputable def okB (W : Wl) : Bool := decide (Ok W)
open Classical in
noncomputable def hasB (W : Wl) (id : Int) : Bool := decide (hasN W id)
theorem ok_iff {W : Wl} : okB W = true ↔ Ok W := by simp [okB]
theorem ok_not {W : Wl} : okB W = false ↔ ¬ Ok W := by simp [okB]
theorem has_iff {W : Wl} {id : Int} : hasB W id = true ↔ hasN W id := by simp [hasB]
theorem has_not {W : Wl} {id : Int} : hasB W id = false ↔ ¬ hasN W id := by simp [hasB]

/-- another list in a slot -/
def Wl.put (W : Wl) (i : Nat) (l : List Tm) : Wl := { W with sl := fun j => if j = i then l else W.sl j }

/-- Set (D2) -/
noncomputable def setN (W : Wl) (id at_ : Int) : Wl × Int :=
  if okB W = false ∨ id < 0 ∨ at_ ≤ W.now ∨ 9007199254740992 < at_ then (W, 1)
  else if hasB W id then (W, 6)
  else if 64 ≤ manyN W then (W, 4)
  else (W.put (at_ % 8).toNat (W.sl (at_ % 8).toNat ++ [(id, at_)]), 0)
/-- without the timers of that id -/
def Wl.drop (W : Wl) (id : Int) : Wl := { W with sl := fun j => (W.sl j).filter (fun t => t.1 != id) }
/-- Cancel (D3) -/
noncomputable def cancelN (W : Wl) (id : Int) : Wl × Int :=
  if okB W = false then (W, 1) else if hasB W id then (W.drop id, 0) else (W, 5)
/-- Tick (D4) -/
def Wl.tick (W : Wl) : Wl :=
  { now := W.now + 1, sl := fun j => if j = ((W.now + 1) % 8).toNat then (W.sl j).filter (fun t => t.2 != W.now + 1) else W.sl j }
def Wl.due (W : Wl) : List Int := ((W.sl ((W.now + 1) % 8).toNat).filter (fun t => t.2 == W.now + 1)).map Prod.fst
noncomputable def tickN (W : Wl) : Wl × List Int × Int :=
  if okB W = false then (W, [], 1) else if W.now = 9007199254740992 then (W, [], 3) else (W.tick, W.due, 0)

end Go.Proofs.Ytncbfkoldllbpaa
