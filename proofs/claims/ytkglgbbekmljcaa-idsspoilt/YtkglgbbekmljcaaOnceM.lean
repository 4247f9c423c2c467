/-
  Lists alone: what Take and Give make of a table, so that no id is told twice.
-/
import Derived.Test.YtkglgbbekmljcaaMath
namespace Go.Proofs.Ytkglgbbekmljcaa

theorem bd_set (busy : List Bool) (k j : Nat) (b : Bool) (hk : k < busy.length) : bd (busy.set k b) j = if j = k then b else bd busy j := by
  simp only [bd, List.getElem?_set]
  by_cases h : k = j
  · subst h
    simp [hk]
  · rw [if_neg h, if_neg (fun e => h e.symm)]
theorem gd_set (xs : List Int) (k j : Nat) (b : Int) (hk : k < xs.length) : gd (xs.set k b) j = if j = k then b else gd xs j := by
  simp only [gd, List.getElem?_set]
  by_cases h : k = j
  · subst h
    simp [hk]
  · rw [if_neg h, if_neg (fun e => h e.symm)]

theorem perm_mk {busy : List Bool} {free : List Int} {n : Nat} (h1 : ∀ j : Nat, j < n → free.count (j : Int) = if bd busy j then 0 else 1) (h2 : ∀ x ∈ free, 0 ≤ x ∧ x < n) : free.Perm (nb busy n) := by
  rw [List.perm_iff_count]
  intro x
  rw [count_nodup (nodup_nb busy n)]
  split
  · next hx =>
    obtain ⟨i, hi, rfl, hb⟩ := (mem_nb busy x n).1 hx
    rw [h1 i hi, hb]
    rfl
  · next hx =>
    apply List.count_eq_zero_of_not_mem
    intro hm
    obtain ⟨h3, h4⟩ := h2 x hm
    obtain ⟨j, rfl⟩ := Int.eq_ofNat_of_zero_le h3
    have hj : j < n := by omega
    have hc := h1 j hj
    cases hb : bd busy j with
    | false => exact hx ((mem_nb busy _ n).2 ⟨j, hj, rfl, hb⟩)
    | true =>
      rw [hb] at hc
      have := List.count_pos_iff.2 hm
      simp at hc
      omega

theorem ok_mk {T : Tb} (h1 : 1 ≤ T.gens.length) (h2 : T.gens.length ≤ 64) (h3 : T.busy.length = T.gens.length) (h4 : ∀ i, i < T.gens.length → 0 ≤ gd T.gens i ∧ gd T.gens i ≤ 9007199254740992) (h5 : T.free.Perm (nb T.busy T.gens.length)) : okT T = true := by
  simp only [okT, sizedT, Bool.and_eq_true, decide_eq_true_eq, List.all_eq_true, List.isPerm_iff]
  refine ⟨⟨⟨⟨h1, h2⟩, h3⟩, fun x hx => ?_⟩, h5⟩
  obtain ⟨i, hi, rfl⟩ := List.mem_iff_getElem.1 hx
  have := h4 i hi
  rw [gd_eq hi] at this
  simpa [inG] using this

theorem ok_count {T : Tb} (h : okT T = true) (j : Nat) (hj : j < T.gens.length) : T.free.count (j : Int) = if bd T.busy j then 0 else 1 :=
  ((perm_iff_counts T.busy T.free T.gens.length).1 (ok_true h).2.2.2.2).1 j hj

/-- the table behind Take is valid -/
theorem ok_take {T : Tb} {k : Nat} {r : List Int} (h : okT T = true) (hf : T.free = (k : Int) :: r) : okT ⟨T.gens, T.busy.set k true, r⟩ = true := by
  obtain ⟨h1, h2, h3, h4, h5⟩ := ok_true h
  have hk := ok_free h (x := k) (by rw [hf]; simp)
  refine ok_mk h1 h2 (by simpa using h3) h4 (perm_mk (fun j hj => ?_) (fun x hx => ?_))
  · simp only at hj ⊢
    have hc := ok_count h j hj
    rw [bd_set _ _ _ _ (by omega)]
    rw [hf, List.count_cons] at hc
    by_cases hjk : j = k
    · subst hjk
      have hb : bd T.busy j = false := by simpa using hk.2.2
      rw [hb] at hc
      simp at hc ⊢
      exact hc
    · rw [if_neg hjk]
      have : ((k : Int) == (j : Int)) = false := by simp; omega
      rw [this] at hc
      simpa using hc
  · have := ok_free h (x := x) (by rw [hf]; simp [hx])
    exact ⟨this.1, this.2.1⟩

/-- the table behind Give is valid -/
theorem ok_give {T : Tb} {k : Nat} (h : okT T = true) (hk : k < T.gens.length) (hb : bd T.busy k = true) (hg : gd T.gens k < 9007199254740992) : okT ⟨T.gens.set k (gd T.gens k + 1), T.busy.set k false, T.free ++ [(k : Int)]⟩ = true := by
  obtain ⟨h1, h2, h3, h4, h5⟩ := ok_true h
  refine ok_mk (by simpa using h1) (by simpa using h2) (by simpa using h3) (fun i hi => ?_) (perm_mk (fun j hj => ?_) (fun x hx => ?_))
  · simp only [List.length_set] at hi
    simp only
    rw [gd_set _ _ _ _ hk]
    split
    · have := h4 k hk
      omega
    · exact h4 i hi
  · simp only [List.length_set] at hj
    simp only
    have hc := ok_count h j hj
    rw [bd_set _ _ _ _ (by omega), List.count_append, hc]
    by_cases hjk : j = k
    · subst hjk
      rw [hb]
      simp
    · have : ((k : Int) == (j : Int)) = false := by simp; omega
      rw [if_neg hjk, List.count_cons, this]
      simp
  · simp only [List.length_set]
    simp only [List.mem_append, List.mem_singleton] at hx
    rcases hx with hx | rfl
    · have := ok_free h hx
      exact ⟨this.1, this.2.1⟩
    · exact ⟨by omega, by omega⟩

/-- what an id that is there is made of -/
theorem has_true {T : Tb} {x : Int} (h : hasB T x = true) : 0 ≤ x ∧ bd T.busy (x % T.gens.length).toNat = true ∧ gd T.gens (x % T.gens.length).toNat * T.gens.length + x % T.gens.length = x := by
  simp only [hasB, Bool.and_eq_true, decide_eq_true_eq] at h
  exact ⟨h.1, h.2.1, h.2.2⟩

/-- what stands between two rounds: n slots, i things done, all: every id that was told, inn: those in use -/
structure Inv (n i : Nat) (T : Tb) (all inn : List Int) : Prop where
  ok : okT T = true
  len : T.gens.length = n
  g : ∀ k, k < n → gd T.gens k ≤ i
  nd : inn.Nodup
  h : ∀ x ∈ inn, hasB T x = true
  l : inn.length + T.free.length = n
  a : ∀ x ∈ all, x / n + (if bd T.busy (x % n).toNat then 0 else 1) ≤ gd T.gens (x % n).toNat
  la : all.length ≤ i

theorem Inv.np {n i : Nat} {T : Tb} {all inn : List Int} (h : Inv n i T all inn) : 1 ≤ n ∧ n ≤ 64 ∧ T.busy.length = n := by
  obtain ⟨h1, h2, h3, _⟩ := ok_true h.ok
  have := h.len
  omega

/-- no slot is free: Take tells so -/
theorem Inv.full {n i : Nat} {T : Tb} {all inn : List Int} (h : Inv n i T all inn) (hf : T.free = []) : takeT T = (T, 0, 4) ∧ inn.length = n ∧ Inv n (i + 1) T all inn := by
  refine ⟨by simp [takeT, h.ok, hf], by have := h.l; rw [hf] at this; simpa using this, { h with g := fun k hk => ?_, la := by have := h.la; omega }⟩
  have := h.g k hk
  omega

theorem emod_slot {n k : Nat} (g : Int) (hk : k < n) : (g * (n : Int) + (k : Int)) % (n : Int) = (k : Int) ∧ (g * (n : Int) + (k : Int)) / (n : Int) = g := by
  constructor
  · rw [Int.mul_comm, Int.mul_add_emod_self_left]
    exact Int.emod_eq_of_lt (by omega) (by omega)
  · rw [Int.add_comm, Int.add_mul_ediv_right _ _ (by omega), Int.ediv_eq_zero_of_lt (by omega) (by omega)]
    omega

/-- a slot is free: Take tells an id that was never told -/
theorem Inv.take {n i k : Nat} {r : List Int} {T : Tb} {all inn : List Int} (h : Inv n i T all inn) (hf : T.free = (k : Int) :: r) :
    takeT T = (⟨T.gens, T.busy.set k true, r⟩, gd T.gens k * n + k, 0) ∧ inn.length < n ∧ (gd T.gens k * n + k) ∉ all ∧ 0 ≤ gd T.gens k ∧ gd T.gens k ≤ i ∧ k < n ∧
      Inv n (i + 1) ⟨T.gens, T.busy.set k true, r⟩ (all ++ [gd T.gens k * n + k]) (inn ++ [gd T.gens k * n + k]) := by
  obtain ⟨n1, n2, n3⟩ := h.np
  obtain ⟨_, _, _, o4, _⟩ := ok_true h.ok
  obtain ⟨f1, f2, f3⟩ := ok_free h.ok (x := k) (by rw [hf]; simp)
  rw [h.len] at f2 o4
  have hk : k < n := by omega
  have hbk : bd T.busy k = false := by simpa using f3
  obtain ⟨e1, e2⟩ := emod_slot (gd T.gens k) hk
  have hl := h.l
  rw [hf] at hl
  simp only [List.length_cons] at hl
  have hna : (gd T.gens k * n + k) ∉ all := by
    intro hm
    have := h.a _ hm
    rw [e1, e2] at this
    simp only [Int.toNat_natCast, hbk] at this
    simp at this
    omega
  refine ⟨?_, by omega, hna, (o4 k hk).1, h.g k hk, hk, ?_⟩
  · simp [takeT, h.ok, hf, h.len]
  · refine ⟨ok_take h.ok hf, h.len, fun j hj => ?_, ?_, ?_, ?_, ?_, ?_⟩
    · have := h.g j hj
      simp only
      omega
    · rw [List.nodup_append]
      refine ⟨h.nd, by simp, ?_⟩
      intro a ha b hb e
      simp only [List.mem_singleton] at hb
      subst e
      subst hb
      obtain ⟨_, hb2, _⟩ := has_true (h.h _ ha)
      rw [h.len, e1] at hb2
      simp only [Int.toNat_natCast] at hb2
      rw [hbk] at hb2
      cases hb2
    · intro x hx
      simp only [List.mem_append, List.mem_singleton] at hx
      rcases hx with hx | rfl
      · obtain ⟨x1, x2, x3⟩ := has_true (h.h x hx)
        rw [h.len] at x2 x3
        simp only [hasB, h.len, Bool.and_eq_true, decide_eq_true_eq]
        refine ⟨x1, ?_, x3⟩
        rw [bd_set _ _ _ _ (by omega)]
        split
        · rfl
        · exact x2
      · simp only [hasB, h.len, Bool.and_eq_true, decide_eq_true_eq, e1, Int.toNat_natCast]
        refine ⟨?_, ?_, trivial⟩
        · have := Int.mul_nonneg (o4 k hk).1 (show (0 : Int) ≤ n by omega)
          omega
        · rw [bd_set _ _ _ _ (by omega), if_pos rfl]
    · simp
      omega
    · intro x hx
      simp only [List.mem_append, List.mem_singleton] at hx
      rcases hx with hx | rfl
      · have := h.a x hx
        simp only
        rw [bd_set _ _ _ _ (by omega)]
        split
        · next hs =>
          split at this
          · simp at this ⊢; exact this
          · simp at this ⊢; omega
        · exact this
      · rw [e1, e2]
        have hb1 : bd (T.busy.set k true) k = true := by rw [bd_set _ _ _ _ (by omega), if_pos rfl]
        simp only [Int.toNat_natCast, hb1]
        simp
    · have := h.la
      simp
      omega

/-- what is given back is there no more -/
theorem Inv.give {n i j : Nat} {T : Tb} {all inn : List Int} (h : Inv n i T all inn) (hj : j < inn.length) (hi : i ≤ 1000) :
    ∃ T', giveT T (gd inn j) = (T', 0) ∧ hasT T' (gd inn j) = false ∧ Inv n (i + 1) T' all (inn.take j ++ inn.drop (j + 1)) := by
  obtain ⟨n1, n2, n3⟩ := h.np
  have hm : gd inn j ∈ inn := by
    rw [gd_eq hj]
    exact List.getElem_mem hj
  obtain ⟨x1, x2, x3⟩ := has_true (h.h _ hm)
  have hhas := h.h _ hm
  rw [h.len] at x2 x3
  have hnd := h.nd
  rw [← List.take_append_drop j inn, List.drop_eq_getElem_cons hj] at hnd
  rw [List.nodup_append, List.nodup_cons] at hnd
  obtain ⟨d1, ⟨d2, d3⟩, d4⟩ := hnd
  rw [← gd_eq hj] at d2 d4
  generalize gd inn j = x at *
  obtain ⟨k, hk⟩ : ∃ k : Nat, x % (n : Int) = k := Int.eq_ofNat_of_zero_le (Int.emod_nonneg _ (by omega))
  have hkn : k < n := by have := Int.emod_lt_of_pos x (show (0 : Int) < n by omega); omega
  rw [hk] at x2 x3
  simp only [Int.toNat_natCast] at x2 x3
  have hgk := h.g k hkn
  refine ⟨⟨T.gens.set k (gd T.gens k + 1), T.busy.set k false, T.free ++ [(k : Int)]⟩, ?_, ?_, ?_⟩
  · simp only [giveT, h.ok, hhas, h.len, hk, if_true, Int.toNat_natCast]
    rw [if_neg (by omega)]
  · have : hasB ⟨T.gens.set k (gd T.gens k + 1), T.busy.set k false, T.free ++ [(k : Int)]⟩ x = false := by
      simp only [hasB, List.length_set, h.len, hk, Int.toNat_natCast]
      rw [bd_set _ _ _ _ (by omega), if_pos rfl]
      simp
    rw [hasT, this]
    simp
  · have hsub : ∀ y, y ∈ inn.take j ++ inn.drop (j + 1) → y ∈ inn ∧ y ≠ x := by
      intro y hy
      rcases List.mem_append.1 hy with hy | hy
      · exact ⟨List.mem_of_mem_take hy, d4 y hy x (by simp)⟩
      · exact ⟨List.mem_of_mem_drop hy, fun e => d2 (e ▸ hy)⟩
    refine ⟨ok_give h.ok (by have := h.len; omega) x2 (by omega), by simpa using h.len, fun q hq => ?_, ?_, ?_, ?_, ?_, by have := h.la; omega⟩
    · simp only
      rw [gd_set _ _ _ _ (by have := h.len; omega)]
      have := h.g q hq
      split <;> omega
    · rw [List.nodup_append]
      exact ⟨d1, d3, fun a ha b hb => d4 a ha b (by simp [hb])⟩
    · intro y hy
      obtain ⟨y1, y2⟩ := hsub y hy
      obtain ⟨z1, z2, z3⟩ := has_true (h.h y y1)
      rw [h.len] at z2 z3
      have hne : (y % (n : Int)).toNat ≠ k := by
        intro e
        have hy0 := Int.emod_nonneg y (show (n : Int) ≠ 0 by omega)
        have he : y % (n : Int) = k := by omega
        rw [e, he, x3] at z3
        exact y2 z3.symm
      simp only [hasB, List.length_set, h.len, Bool.and_eq_true, decide_eq_true_eq]
      rw [bd_set _ _ _ _ (by omega), gd_set _ _ _ _ (by have := h.len; omega), if_neg hne, if_neg hne]
      exact ⟨z1, z2, z3⟩
    · have := h.l
      simp
      omega
    · intro y hy
      have := h.a y hy
      simp only
      rw [bd_set _ _ _ _ (by omega), gd_set _ _ _ _ (by have := h.len; omega)]
      by_cases he : (y % (n : Int)).toNat = k
      · rw [if_pos he, if_pos he]
        rw [he, x2] at this
        simp at this ⊢
        omega
      · rw [if_neg he, if_neg he]
        exact this

/-- the table that New tells -/
theorem inv_new {n : Nat} (h1 : 1 ≤ n) (h2 : n ≤ 64) : Inv n 0 (newT n) [] [] := by
  have hT : newT (n : Int) = ⟨List.replicate n 0, List.replicate n false, (List.range n).map Int.ofNat⟩ := by
    rw [newT, if_pos (by omega)]
    simp
  rw [hT]
  have hb : ∀ j, bd (List.replicate n false) j = false := by
    intro j
    simp only [bd, List.getElem?_replicate]
    split <;> rfl
  have hg : ∀ j, gd (List.replicate n 0) j = 0 := by
    intro j
    simp only [gd, List.getElem?_replicate]
    split <;> rfl
  refine ⟨ok_mk (by simpa using h1) (by simpa using h2) (by simp) (fun i _ => by simp only; rw [hg]; omega) (perm_mk (fun j hj => ?_) (fun x hx => ?_)), by simp, fun k _ => by simp only; rw [hg]; omega, by simp, by simp, by simp, by simp, by simp⟩
  · simp only [List.length_replicate] at hj
    simp only
    rw [hb]
    have : ((List.range n).map Int.ofNat).Nodup := by
      rw [List.nodup_iff_pairwise_ne, List.pairwise_map]
      exact List.Pairwise.imp (fun h e => h (by injection e)) (List.nodup_iff_pairwise_ne.1 List.nodup_range)
    rw [count_nodup this, if_pos]
    · rfl
    · exact List.mem_map.2 ⟨j, List.mem_range.2 hj, rfl⟩
  · simp only [List.length_replicate]
    obtain ⟨i, hi, rfl⟩ := List.mem_map.1 hx
    have := List.mem_range.1 hi
    simp
    omega

end Go.Proofs.Ytkglgbbekmljcaa
