/-
  Lists alone: when no two timers of a wheel have the same id, as the program finds it: all ids in one list, put in order, no two neighbours the same.
-/
import Derived.Test.YtncbfkoldllbpaaPb
namespace Go.Proofs.Ytncbfkoldllbpaa

/-- the ids of the first n slots -/
def idsAll (W : Wl) : Nat → List Int
  | 0 => []
  | n + 1 => idsAll W n ++ (W.sl n).map Prod.fst
theorem idsAll_len (W : Wl) : ∀ n, (idsAll W n).length = manyTo W n
  | 0 => rfl
  | n + 1 => by simp [idsAll, manyTo, idsAll_len W n]
theorem idsAll_mem {W : Wl} {x : Int} : ∀ {n : Nat}, x ∈ idsAll W n ↔ ∃ (i k : Nat), i < n ∧ ∃ t : Tm, (W.sl i)[k]? = some t ∧ t.1 = x
  | 0 => by simp [idsAll]
  | n + 1 => by
    simp only [idsAll, List.mem_append, idsAll_mem (n := n), List.mem_map]
    constructor
    · rintro (⟨i, k, hi, h⟩ | ⟨t, ht, rfl⟩)
      · exact ⟨i, k, by omega, h⟩
      · obtain ⟨k, hk⟩ := List.mem_iff_getElem?.1 ht
        exact ⟨n, k, by omega, t, hk, rfl⟩
    · rintro ⟨i, k, hi, t, ht, rfl⟩
      by_cases hin : i < n
      · exact .inl ⟨i, k, hin, t, ht, rfl⟩
      · have : i = n := by omega
        subst this
        exact .inr ⟨t, List.mem_of_getElem? ht, rfl⟩
theorem nodup_at {xs : List Tm} : (xs.map Prod.fst).Nodup ↔ ∀ (k l : Nat) (t u : Tm), xs[k]? = some t → xs[l]? = some u → t.1 = u.1 → k = l := by
  unfold List.Nodup
  rw [List.pairwise_iff_getElem]
  constructor
  · intro h k l t u ht hu he
    obtain ⟨hk, rfl⟩ := List.getElem?_eq_some_iff.1 ht
    obtain ⟨hl, rfl⟩ := List.getElem?_eq_some_iff.1 hu
    rcases Nat.lt_trichotomy k l with q | q | q
    · have h1 := h k l (by simpa using hk) (by simpa using hl) q
      rw [List.getElem_map, List.getElem_map] at h1
      exact absurd he h1
    · exact q
    · have h1 := h l k (by simpa using hl) (by simpa using hk) q
      rw [List.getElem_map, List.getElem_map] at h1
      exact absurd he.symm h1
  · intro h k l hk hl hkl he
    simp only [List.length_map] at hk hl
    simp only [List.getElem_map] at he
    have := h k l _ _ (List.getElem?_eq_getElem hk) (List.getElem?_eq_getElem hl) he
    omega
/-- no two timers of the first n slots have the same id -/
def OnceTo (W : Wl) (n : Nat) : Prop := ∀ (i k j l : Nat) (t u : Tm), i < n → j < n → (W.sl i)[k]? = some t → (W.sl j)[l]? = some u → t.1 = u.1 → i = j ∧ k = l
theorem nodup_once {W : Wl} : ∀ n, (idsAll W n).Nodup ↔ OnceTo W n
  | 0 => by simp [idsAll, OnceTo]
  | n + 1 => by
    simp only [idsAll, List.nodup_append, nodup_once n, nodup_at]
    constructor
    · rintro ⟨h1, h2, h3⟩ i k j l t u hi hj ht hu he
      by_cases hin : i < n
      · by_cases hjn : j < n
        · exact h1 i k j l t u hin hjn ht hu he
        · have : j = n := by omega
          subst this
          exact absurd he (h3 t.1 (idsAll_mem.2 ⟨i, k, hin, t, ht, rfl⟩) u.1 (List.mem_map.2 ⟨u, List.mem_of_getElem? hu, rfl⟩))
      · have : i = n := by omega
        subst this
        by_cases hjn : j < i
        · exact absurd he.symm (h3 u.1 (idsAll_mem.2 ⟨j, l, hjn, u, hu, rfl⟩) t.1 (List.mem_map.2 ⟨t, List.mem_of_getElem? ht, rfl⟩))
        · have : j = i := by omega
          subst this
          exact ⟨rfl, h2 k l t u ht hu he⟩
    · intro h
      refine ⟨fun i k j l t u hi hj => h i k j l t u (by omega) (by omega), fun k l t u ht hu he => (h n k n l t u (by omega) (by omega) ht hu he).2, ?_⟩
      intro a ha b hb he
      obtain ⟨i, k, hi, t, ht, rfl⟩ := idsAll_mem.1 ha
      obtain ⟨u, hu, rfl⟩ := List.mem_map.1 hb
      obtain ⟨l, hl⟩ := List.mem_iff_getElem?.1 hu
      have := (h i k n l t u (by omega) (by omega) ht hl he).1
      omega

/-- in order, and no two neighbours the same -/
theorem nodup_sorted {ys : List Int} (h : ys.Pairwise (· ≤ ·)) (hn : ∀ (j : Nat) (x y : Int), ys[j]? = some x → ys[j + 1]? = some y → y ≠ x) : ys.Nodup := by
  unfold List.Nodup
  rw [List.pairwise_iff_getElem] at h ⊢
  intro i j hi hj hij he
  have h1 : ys[i] ≤ ys[j - 1] := by
    by_cases hq : i = j - 1
    · subst hq; exact Int.le_refl _
    · exact h i (j - 1) hi (by omega) (by omega)
  have h2 : ys[j - 1] ≤ ys[j] := h (j - 1) j (by omega) hj (by omega)
  have h3 := hn (j - 1) _ _ (List.getElem?_eq_getElem (by omega)) (by rw [show j - 1 + 1 = j by omega]; exact List.getElem?_eq_getElem hj)
  omega
theorem not_nodup {ys : List Int} {j : Nat} {x : Int} (h1 : ys[j]? = some x) (h2 : ys[j + 1]? = some x) : ¬ ys.Nodup := by
  intro h
  unfold List.Nodup at h
  rw [List.pairwise_iff_getElem] at h
  obtain ⟨a, e1⟩ := List.getElem?_eq_some_iff.1 h1
  obtain ⟨b, e2⟩ := List.getElem?_eq_some_iff.1 h2
  exact h j (j + 1) a b (by omega) (e1.trans e2.symm)

/-- the list in order -/
def inOrder (zs : List Int) : List Int := zs.mergeSort fun x y => decide (x ≤ y)
theorem inOrder_len (zs : List Int) : (inOrder zs).length = zs.length := List.length_mergeSort _
theorem inOrder_le (zs : List Int) : (inOrder zs).Pairwise (· ≤ ·) := by
  have := List.pairwise_mergeSort (le := fun x y : Int => decide (x ≤ y)) (by intro a b c; simp; omega) (by intro a b; simp; omega) zs
  unfold inOrder
  simpa using this
theorem inOrder_nodup (zs : List Int) : (inOrder zs).Nodup ↔ zs.Nodup := (List.mergeSort_perm zs _).nodup_iff

/-- a valid wheel, as the program finds it -/
theorem ok_program {W : Wl} : Ok W ↔ (0 ≤ W.now ∧ W.now ≤ 9007199254740992 ∧ manyN W ≤ 64 ∧ Placed W ∧ (idsAll W 8).Nodup) := by
  constructor
  · intro h
    refine ⟨h.lo, h.hi, h.few, fun i k t hi ht => h.each i k t hi ht, (nodup_once 8).2 ?_⟩
    intro i k j l t u hi hj ht hu he
    exact h.once t.1 i k j l ⟨hi, t, ht, rfl⟩ ⟨hj, u, hu, he.symm⟩
  · rintro ⟨h1, h2, h3, h4, h5⟩
    refine ⟨h1, h2, h3, fun i k t hi ht => h4 i k t hi ht, ?_⟩
    rintro id i k j l ⟨hi, t, ht, rfl⟩ ⟨hj, u, hu, he⟩
    exact (nodup_once 8).1 h5 i k j l t u hi hj ht hu he.symm

end Go.Proofs.Ytncbfkoldllbpaa
