/-
  Lists alone, for layer 4: a valid wheel stays valid, whatever is done to it.
-/
import Derived.Test.YtncbfkoldllbpaaStd
namespace Go.Proofs.Ytncbfkoldllbpaa

theorem many_put (W : Wl) {r : Nat} (l : List Tm) : ∀ k, (r < k → manyTo (W.put r l) k + (W.sl r).length = manyTo W k + l.length) ∧ (k ≤ r → manyTo (W.put r l) k = manyTo W k)
  | 0 => ⟨fun h => by omega, fun _ => rfl⟩
  | k + 1 => by
    obtain ⟨a, b⟩ := many_put W l k
    have e1 : manyTo (W.put r l) (k + 1) = manyTo (W.put r l) k + ((W.put r l).sl k).length := rfl
    have e2 : manyTo W (k + 1) = manyTo W k + (W.sl k).length := rfl
    constructor
    · intro h
      by_cases hk : r = k
      · subst hk
        have := b (Nat.le_refl _)
        have e3 : (W.put r l).sl r = l := by simp [Wl.put]
        rw [e1, e2, e3, this]
        omega
      · have := a (by omega)
        have e3 : (W.put r l).sl k = W.sl k := by simp [Wl.put, Ne.symm hk]
        rw [e1, e2, e3]
        omega
    · intro h
      have := b (by omega)
      have e3 : (W.put r l).sl k = W.sl k := by simp [Wl.put]; intro h; omega
      rw [e1, e2, e3, this]

theorem many_sub {W W' : Wl} : ∀ k, (∀ i, i < k → (W'.sl i).length ≤ (W.sl i).length) → manyTo W' k ≤ manyTo W k
  | 0, _ => Nat.le_refl _
  | k + 1, h => by
    have a := many_sub k (fun i hi => h i (by omega))
    have b := h k (by omega)
    have e1 : manyTo W' (k + 1) = manyTo W' k + (W'.sl k).length := rfl
    have e2 : manyTo W (k + 1) = manyTo W k + (W.sl k).length := rfl
    omega

/-- no id twice, by lists -/
structure Apart (W : Wl) : Prop where
  own : ∀ i, i < 8 → ((W.sl i).map Prod.fst).Nodup
  two : ∀ i j, i < 8 → j < 8 → i ≠ j → ∀ t ∈ W.sl i, ∀ u ∈ W.sl j, t.1 ≠ u.1

theorem Ok.apart {W : Wl} (h : Ok W) : Apart W where
  own i hi := by
    rw [List.Nodup, List.pairwise_iff_getElem]
    intro k l hk hl hkl he
    have hl' : l < (W.sl i).length := by simpa using hl
    have hk' : k < (W.sl i).length := by simpa using hk
    rw [List.getElem_map, List.getElem_map] at he
    have := (h.once _ i k i l ⟨hi, _, List.getElem?_eq_getElem hk', he⟩ ⟨hi, _, List.getElem?_eq_getElem hl', rfl⟩).2
    omega
  two i j hi hj hij t ht u hu he := by
    obtain ⟨k, hk, rfl⟩ := List.mem_iff_getElem.1 ht
    obtain ⟨l, hl, rfl⟩ := List.mem_iff_getElem.1 hu
    exact hij (h.once _ i k j l ⟨hi, _, List.getElem?_eq_getElem hk, he⟩ ⟨hj, _, List.getElem?_eq_getElem hl, rfl⟩).1

theorem Apart.once {W : Wl} (h : Apart W) : ∀ (id : Int) (i k j l : Nat), Place W id i k → Place W id j l → i = j ∧ k = l := by
  rintro id i k j l ⟨hi, t, ht, rfl⟩ ⟨hj, u, hu, he⟩
  by_cases hij : i = j
  · subst hij
    refine ⟨rfl, ?_⟩
    have hn := h.own i hi
    rw [List.Nodup, List.pairwise_iff_getElem] at hn
    obtain ⟨hk, ht⟩ := List.getElem?_eq_some_iff.1 ht
    obtain ⟨hl, hu⟩ := List.getElem?_eq_some_iff.1 hu
    rcases Nat.lt_trichotomy k l with hkl | hkl | hkl
    · exfalso
      refine hn k l (by simpa using hk) (by simpa using hl) hkl ?_
      rw [List.getElem_map, List.getElem_map, ht, hu, he]
    · exact hkl
    · exfalso
      refine hn l k (by simpa using hl) (by simpa using hk) hkl ?_
      rw [List.getElem_map, List.getElem_map, ht, hu, he]
  · exact absurd he.symm (h.two i j hi hj hij t (List.mem_of_getElem? ht) u (List.mem_of_getElem? hu))

/-- what is asked of one timer, but for its id's being there once -/
def Each (W : Wl) : Prop := ∀ i, i < 8 → ∀ t ∈ W.sl i, 0 ≤ t.1 ∧ W.now < t.2 ∧ t.2 ≤ 9007199254740992 ∧ t.2 % 8 = (i : Int)
theorem Ok.mem {W : Wl} (h : Ok W) : Each W := by
  intro i hi t ht
  obtain ⟨k, hk⟩ := List.mem_iff_getElem?.1 ht
  exact h.each i k t hi hk
theorem ok_mk {W : Wl} (h0 : 0 ≤ W.now) (h1 : W.now ≤ 9007199254740992) (h2 : manyN W ≤ 64) (h3 : Each W) (h4 : Apart W) : Ok W :=
  ⟨h0, h1, h2, fun i _ t hi ht => h3 i hi t (List.mem_of_getElem? ht), h4.once⟩

theorem has_mem {W : Wl} {id : Int} : hasN W id ↔ ∃ i, i < 8 ∧ ∃ t ∈ W.sl i, t.1 = id := by
  constructor
  · rintro ⟨i, k, hi, t, ht, he⟩
    exact ⟨i, hi, t, List.mem_of_getElem? ht, he⟩
  · rintro ⟨i, hi, t, ht, he⟩
    obtain ⟨k, hk⟩ := List.mem_iff_getElem?.1 ht
    exact ⟨i, k, hi, t, hk, he⟩

/-- fewer timers, in order -/
theorem Ok.sub {W W' : Wl} (h : Ok W) (hs : ∀ i, i < 8 → (W'.sl i).Sublist (W.sl i)) (h0 : 0 ≤ W'.now) (h1 : W'.now ≤ 9007199254740992) (hl : ∀ i, i < 8 → ∀ t ∈ W'.sl i, W'.now < t.2) : Ok W' := by
  refine ok_mk h0 h1 (Nat.le_trans (many_sub 8 fun i hi => (hs i hi).length_le) h.few) ?_ ⟨?_, ?_⟩
  · intro i hi t ht
    obtain ⟨a, _, c, d⟩ := h.mem i hi t ((hs i hi).subset ht)
    exact ⟨a, hl i hi t ht, c, d⟩
  · intro i hi
    exact (h.apart.own i hi).sublist ((hs i hi).map _)
  · intro i j hi hj hij t ht u hu
    exact h.apart.two i j hi hj hij t ((hs i hi).subset ht) u ((hs j hj).subset hu)

theorem ok_drop {W : Wl} (h : Ok W) (id : Int) : Ok (W.drop id) :=
  h.sub (fun _ _ => List.filter_sublist) h.lo h.hi fun i hi t ht => (h.mem i hi t (List.mem_filter.1 ht).1).2.1

theorem tick_sub (W : Wl) (i : Nat) : (W.tick.sl i).Sublist (W.sl i) := by
  simp only [Wl.tick]
  split
  · exact List.filter_sublist
  · exact List.Sublist.refl _
theorem ok_tick {W : Wl} (h : Ok W) (hm : W.now ≠ 9007199254740992) : Ok W.tick := by
  have h0 := h.lo
  have h1 := h.hi
  refine h.sub (fun i _ => tick_sub W i) (by simp only [Wl.tick]; omega) (by simp only [Wl.tick]; omega) ?_
  intro i hi t ht
  obtain ⟨_, b, _, d⟩ := h.mem i hi t ((tick_sub W i).subset ht)
  show W.now + 1 < t.2
  by_cases hlt : W.now + 1 < t.2
  · exact hlt
  · exfalso
    have e : t.2 = W.now + 1 := by omega
    simp only [Wl.tick] at ht
    have hi' : i = ((W.now + 1) % 8).toNat := by rw [← e]; omega
    rw [if_pos hi', List.mem_filter] at ht
    have := ht.2
    simp [e] at this

theorem ok_put {W : Wl} (h : Ok W) {id at_ : Int} (h0 : 0 ≤ id) (h1 : W.now < at_) (h2 : at_ ≤ 9007199254740992) (hn : ¬ hasN W id) (hm : manyN W < 64) {r : Nat} (hr : (at_ % 8).toNat = r) : Ok (W.put r (W.sl r ++ [(id, at_)])) := by
  have hlo := h.lo
  have hr8 : r < 8 := by omega
  have hsl : ∀ i, (W.put r (W.sl r ++ [(id, at_)])).sl i = if i = r then W.sl r ++ [(id, at_)] else W.sl i := fun i => rfl
  have hmem : ∀ i t, t ∈ (W.put r (W.sl r ++ [(id, at_)])).sl i → t ∈ W.sl i ∨ (i = r ∧ t = (id, at_)) := by
    intro i t ht
    rw [hsl] at ht
    split at ht
    · next he =>
      subst he
      simp only [List.mem_append, List.mem_singleton] at ht
      rcases ht with ht | ht
      · exact .inl ht
      · exact .inr ⟨rfl, ht⟩
    · exact .inl ht
  have hno : ∀ i, i < 8 → ∀ t ∈ W.sl i, t.1 ≠ id := fun i hi t ht he => hn (has_mem.2 ⟨i, hi, t, ht, he⟩)
  refine ok_mk hlo h.hi ?_ ?_ ⟨?_, ?_⟩
  · have := (many_put W (r := r) (W.sl r ++ [(id, at_)]) 8).1 hr8
    simp only [List.length_append, List.length_cons, List.length_nil] at this
    unfold manyN at hm ⊢
    omega
  · intro i hi t ht
    rcases hmem i t ht with ht | ⟨rfl, rfl⟩
    · exact h.mem i hi t ht
    · exact ⟨h0, h1, h2, by simp only; omega⟩
  · intro i hi
    rw [hsl]
    split
    · rw [List.map_append, List.nodup_append]
      refine ⟨h.apart.own r hr8, by simp, ?_⟩
      intro a ha b hb
      obtain ⟨t, ht, rfl⟩ := List.mem_map.1 ha
      simp only [List.map_cons, List.map_nil, List.mem_singleton] at hb
      subst hb
      exact hno r hr8 t ht
    · exact h.apart.own i hi
  · intro i j hi hj hij t ht u hu
    rcases hmem i t ht with ht' | ⟨hir, htr⟩
    · rcases hmem j u hu with hu' | ⟨_, hur⟩
      · exact h.apart.two i j hi hj hij t ht' u hu'
      · rw [hur]
        exact hno i hi t ht'
    · rcases hmem j u hu with hu' | ⟨hjr, _⟩
      · rw [htr]
        exact (hno j hj u hu').symm
      · exact absurd (hir.trans hjr.symm) hij

/-- the empty wheel -/
def W0 : Wl := ⟨0, fun _ => []⟩
theorem ok_W0 : Ok W0 := ok_mk (by decide) (by decide) (by decide) (fun i _ t ht => by cases ht) ⟨fun i _ => List.nodup_nil, fun i j _ _ _ t ht => by cases ht⟩

theorem set_yes {W : Wl} (h : Ok W) {id at_ : Int} (h0 : 0 ≤ id) (h1 : W.now < at_) (h2 : at_ ≤ 9007199254740992) (hn : ¬ hasN W id) (hm : manyN W < 64) {r : Nat} (hr : (at_ % 8).toNat = r) : setN W id at_ = (W.put r (W.sl r ++ [(id, at_)]), 0) := by
  rw [setN, if_neg (by rw [ok_iff.2 h]; simp; omega), if_neg (by rw [has_not.2 hn]; simp), if_neg (by omega), hr]
theorem set_busy {W : Wl} (h : Ok W) {id at_ : Int} (h0 : 0 ≤ id) (h1 : W.now < at_) (h2 : at_ ≤ 9007199254740992) (hn : hasN W id) : setN W id at_ = (W, 6) := by
  rw [setN, if_neg (by rw [ok_iff.2 h]; simp; omega), if_pos (has_iff.2 hn)]
theorem cancel_yes {W : Wl} (h : Ok W) {id : Int} (hn : hasN W id) : cancelN W id = (W.drop id, 0) := by
  rw [cancelN, if_neg (by rw [ok_iff.2 h]; simp), if_pos (has_iff.2 hn)]
theorem cancel_none {W : Wl} (h : Ok W) {id : Int} (hn : ¬ hasN W id) : cancelN W id = (W, 5) := by
  rw [cancelN, if_neg (by rw [ok_iff.2 h]; simp), if_neg (by rw [has_not.2 hn]; simp)]
theorem tick_yes {W : Wl} (h : Ok W) (hm : W.now ≠ 9007199254740992) : tickN W = (W.tick, W.due, 0) := by
  rw [tickN, if_neg (by rw [ok_iff.2 h]; simp), if_neg hm]

theorem wf_sub {W W' : Wl} (h : Wf W) (hs : ∀ i, i < 8 → (W'.sl i).Sublist (W.sl i)) (hn : I64 W'.now) : Wf W' := ⟨hn, fun i hi t ht => h.tm i hi t ((hs i hi).subset ht)⟩
theorem wf_put {W : Wl} (h : Wf W) {id at_ : Int} (hi : I64 id) (ha : I64 at_) (r : Nat) : Wf (W.put r (W.sl r ++ [(id, at_)])) := by
  refine ⟨h.now, fun i hi8 t ht => ?_⟩
  have e : (W.put r (W.sl r ++ [(id, at_)])).sl i = if i = r then W.sl r ++ [(id, at_)] else W.sl i := rfl
  rw [e] at ht
  split at ht
  · next he =>
    subst he
    simp only [List.mem_append, List.mem_singleton] at ht
    rcases ht with ht | rfl
    · exact h.tm i hi8 t ht
    · exact ⟨hi, ha⟩
  · exact h.tm i hi8 t ht
theorem wf_W0 : Wf W0 := ⟨⟨by decide, by decide⟩, fun i _ t ht => by cases ht⟩

end Go.Proofs.Ytncbfkoldllbpaa
