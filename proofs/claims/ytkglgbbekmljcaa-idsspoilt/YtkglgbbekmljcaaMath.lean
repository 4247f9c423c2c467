/-
  Lists alone: what a table of slots is, when it is valid, and that the two ways in which validity is told come to the same.
-/
import Derived.Test.YtkglgbbekmljcaaProg
namespace Go.Proofs.Ytkglgbbekmljcaa

/-- a table of slots -/
structure Tb where
  gens : List Int
  busy : List Bool
  free : List Int

/-- is slot i busy? -/
abbrev bd (busy : List Bool) (i : Nat) : Bool := busy[i]?.getD false
/-- the number at place i -/
abbrev gd (xs : List Int) (i : Nat) : Int := xs[i]?.getD 0

/-- how many of the first k slots are free -/
def wants (busy : List Bool) : Nat → Nat
  | 0 => 0
  | k + 1 => wants busy k + (if bd busy k then 0 else 1)

/-- the free slots among the first k, in order -/
def nb (busy : List Bool) : Nat → List Int
  | 0 => []
  | k + 1 => nb busy k ++ (if bd busy k then [] else [(k : Int)])

theorem length_nb (busy : List Bool) : ∀ k, (nb busy k).length = wants busy k
  | 0 => rfl
  | k + 1 => by
    simp only [nb, wants, List.length_append, length_nb busy k]
    cases bd busy k <;> simp

theorem wants_le (busy : List Bool) : ∀ k, wants busy k ≤ k
  | 0 => Nat.le_refl _
  | k + 1 => by
    have := wants_le busy k
    simp only [wants]
    split <;> omega

theorem mem_nb (busy : List Bool) (x : Int) : ∀ k, x ∈ nb busy k ↔ ∃ i : Nat, i < k ∧ x = i ∧ bd busy i = false
  | 0 => by simp [nb]
  | k + 1 => by
    simp only [nb, List.mem_append, mem_nb busy x k]
    constructor
    · rintro (⟨i, h, h'⟩ | h)
      · exact ⟨i, by omega, h'⟩
      · cases hb : bd busy k <;> simp [hb] at h
        exact ⟨k, by omega, h, hb⟩
    · rintro ⟨i, h, rfl, h'⟩
      by_cases hi : i < k
      · exact .inl ⟨i, hi, rfl, h'⟩
      · have : i = k := by omega
        subst this
        right
        simp [h']

theorem nodup_nb (busy : List Bool) : ∀ k, (nb busy k).Nodup
  | 0 => by simp [nb]
  | k + 1 => by
    simp only [nb]
    rw [List.nodup_append]
    refine ⟨nodup_nb busy k, ?_, ?_⟩
    · split <;> simp
    · intro a ha b hb
      obtain ⟨i, hi, rfl, _⟩ := (mem_nb busy _ k).1 ha
      split at hb <;> simp at hb
      omega

theorem count_nodup {l : List Int} (h : l.Nodup) (x : Int) : l.count x = if x ∈ l then 1 else 0 := by
  split
  · next hx =>
    induction l with
    | nil => cases hx
    | cons a r ih =>
      rw [List.nodup_cons] at h
      rcases List.mem_cons.1 hx with rfl | hm
      · rw [List.count_cons_self, List.count_eq_zero_of_not_mem h.1]
      · have : a ≠ x := fun e => h.1 (e ▸ hm)
        rw [List.count_cons_of_ne this, ih h.2 hm]
  · next hx => exact List.count_eq_zero_of_not_mem hx

/-- equal counts within a part, and the same length: a permutation -/
theorem perm_of {l s : List Int} (h : ∀ x, x ∈ s → l.count x = 1) (hs : s.Nodup) (hl : l.length = s.length) : l.Perm s := by
  have hp : (l.filter (fun x => decide (x ∈ s))).Perm s := by
    rw [List.perm_iff_count]
    intro x
    by_cases hx : x ∈ s
    · rw [List.count_filter (by simpa using hx), h x hx, count_nodup hs, if_pos hx]
    · rw [List.count_eq_zero_of_not_mem hx, List.count_eq_zero_of_not_mem]
      simp [hx]
  have hle := hp.length_eq
  rw [← hl] at hle
  have : l.filter (fun x => decide (x ∈ s)) = l := by
    rw [List.filter_eq_self]
    exact List.length_filter_eq_length_iff.1 hle
  rwa [this] at hp

theorem perm_iff_counts (busy : List Bool) (free : List Int) (n : Nat) :
    free.Perm (nb busy n) ↔ (∀ j : Nat, j < n → free.count (j : Int) = if bd busy j then 0 else 1) ∧ free.length = wants busy n := by
  constructor
  · intro h
    refine ⟨fun j hj => ?_, by rw [h.length_eq, length_nb]⟩
    rw [(List.perm_iff_count.1 h) _, count_nodup (nodup_nb busy n)]
    cases hb : bd busy j with
    | true => rw [if_neg]; · rfl
              rw [mem_nb]
              rintro ⟨i, _, he, hb'⟩
              have : i = j := by omega
              subst this
              rw [hb] at hb'
              cases hb'
    | false => rw [if_pos]; · rfl
               rw [mem_nb]
               exact ⟨j, hj, rfl, hb⟩
  · rintro ⟨h, hl⟩
    refine perm_of (fun x hx => ?_) (nodup_nb busy n) (by rw [hl, length_nb])
    obtain ⟨i, hi, rfl, hb⟩ := (mem_nb busy _ n).1 hx
    rw [h i hi, hb]
    rfl

/-- what the document's own answer asks of the free slots -/
def Fr (busy : List Bool) (free : List Int) (n i : Nat) : Prop := 0 ≤ gd free i ∧ gd free i < n ∧ bd busy (gd free i).toNat = false ∧ ∀ k, k < i → gd free k ≠ gd free i

theorem gd_eq {l : List Int} {i : Nat} (h : i < l.length) : gd l i = l[i] := by simp [gd, List.getElem?_eq_getElem h]

theorem perm_iff_each (busy : List Bool) (free : List Int) (n : Nat) :
    free.Perm (nb busy n) ↔ (∀ i : Nat, i < free.length → Fr busy free n i) ∧ wants busy n = free.length := by
  constructor
  · intro h
    refine ⟨fun i hi => ?_, by rw [h.length_eq, length_nb]⟩
    have hm : gd free i ∈ nb busy n := by
      rw [gd_eq hi]
      exact h.mem_iff.1 (List.getElem_mem hi)
    obtain ⟨j, hj, he, hb⟩ := (mem_nb busy _ n).1 hm
    have hn : free.Nodup := h.nodup_iff.2 (nodup_nb busy n)
    refine ⟨by omega, by omega, by rw [he]; simpa using hb, fun k hk hkk => ?_⟩
    rw [gd_eq hi, gd_eq (by omega)] at hkk
    have := (List.getElem_inj hn).1 hkk
    omega
  · rintro ⟨h, hl⟩
    have hn : free.Nodup := by
      rw [List.nodup_iff_pairwise_ne, List.pairwise_iff_getElem]
      intro i j hi hj hij
      have := (h j hj).2.2.2 i hij
      rwa [gd_eq hi, gd_eq hj] at this
    have hsub : ∀ x, x ∈ free → x ∈ nb busy n := by
      intro x hx
      obtain ⟨i, hi, rfl⟩ := List.mem_iff_getElem.1 hx
      obtain ⟨h0, h1, h2, _⟩ := h i hi
      rw [gd_eq hi] at h0 h1 h2
      exact (mem_nb busy _ n).2 ⟨free[i].toNat, by omega, by omega, h2⟩
    refine (perm_of (fun x hx => ?_) hn (by rw [length_nb, hl])).symm
    rw [count_nodup (nodup_nb busy n), if_pos (hsub x hx)]

/-- is a Gen one that a slot may have? -/
def inG (g : Int) : Bool := decide (0 ≤ g) && decide (g ≤ 9007199254740992)
/-- has the table a number of slots that it may have? -/
def sizedT (T : Tb) : Bool := decide (1 ≤ T.gens.length) && decide (T.gens.length ≤ 64) && decide (T.busy.length = T.gens.length)
/-- is the table valid? -/
def okT (T : Tb) : Bool := sizedT T && T.gens.all inG && T.free.isPerm (nb T.busy T.gens.length)

/-- is that the id of a busy slot? (for a valid table) -/
def hasB (T : Tb) (id : Int) : Bool := decide (0 ≤ id) && (bd T.busy (id % T.gens.length).toNat && decide (gd T.gens (id % T.gens.length).toNat * T.gens.length + id % T.gens.length = id))
def hasT (T : Tb) (id : Int) : Bool := okT T && hasB T id

def takeT (T : Tb) : Tb × Int × Int :=
  if okT T then
    match T.free with
    | [] => (T, 0, 4)
    | k :: r => (⟨T.gens, T.busy.set k.toNat true, r⟩, gd T.gens k.toNat * T.gens.length + k, 0)
  else (T, 0, 1)

def giveT (T : Tb) (id : Int) : Tb × Int :=
  if okT T then
    if hasB T id then
      if gd T.gens (id % T.gens.length).toNat = 9007199254740992 then (T, 3)
      else (⟨T.gens.set (id % T.gens.length).toNat (gd T.gens (id % T.gens.length).toNat + 1), T.busy.set (id % T.gens.length).toNat false, T.free ++ [id % T.gens.length]⟩, 0)
    else (T, 5)
  else (T, 1)

def newT (room : Int) : Tb := if 1 ≤ room ∧ room ≤ 64 then ⟨List.replicate room.toNat 0, List.replicate room.toNat false, (List.range room.toNat).map Int.ofNat⟩ else ⟨[], [], []⟩

/-- what validity gives -/
theorem ok_true {T : Tb} (h : okT T = true) : 1 ≤ T.gens.length ∧ T.gens.length ≤ 64 ∧ T.busy.length = T.gens.length ∧ (∀ i, i < T.gens.length → 0 ≤ gd T.gens i ∧ gd T.gens i ≤ 9007199254740992) ∧ T.free.Perm (nb T.busy T.gens.length) := by
  simp only [okT, sizedT, Bool.and_eq_true, decide_eq_true_eq, List.all_eq_true, List.isPerm_iff] at h
  obtain ⟨⟨⟨⟨h1, h2⟩, h3⟩, h4⟩, h5⟩ := h
  refine ⟨h1, h2, h3, fun i hi => ?_, h5⟩
  have := h4 _ (List.getElem_mem hi)
  rw [gd_eq hi]
  simpa [inG] using this

theorem ok_free {T : Tb} (h : okT T = true) {x : Int} (hx : x ∈ T.free) : 0 ≤ x ∧ x < T.gens.length ∧ bd T.busy x.toNat = false := by
  obtain ⟨_, _, _, _, hp⟩ := ok_true h
  obtain ⟨i, hi, rfl, hb⟩ := (mem_nb T.busy _ _).1 (hp.mem_iff.1 hx)
  exact ⟨by omega, by omega, by simpa using hb⟩

end Go.Proofs.Ytkglgbbekmljcaa
