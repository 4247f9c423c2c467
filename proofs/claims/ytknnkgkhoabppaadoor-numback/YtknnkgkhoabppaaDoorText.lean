/-
  num's own Text, by the library's FormatInt at both bases; and the contracts that the laws' walks go by.
-/
import Derived.Test.YtknnkgkhoabppaaDoorBits
import Derived.Test.YtknnkgkhoabppaaDoorShelf
namespace Go.Proofs.YtknnkgkhoabppaaDoor
open Go.RowKit

theorem dec_dgs (n : Nat) : Lib.decDigits n = dgs 10 n := by
  induction n using Nat.strongRecOn with
  | ind n ih =>
    by_cases h : n < 10
    · rw [dgs_small h, Lib.decDigits, dif_pos h, chN, if_pos h]
    · rw [dgs_big (by omega) (by omega), Lib.decDigits, dif_neg h, ih (n / 10) (by omega), chN, if_pos (Nat.mod_lt _ (by omega))]

theorem below_grow (w : World) (k : Nat) (os : Array Obj) : Below w.heap.size w (Sort.grow (w.drewN k) os) :=
  ⟨rfl, rfl, rfl, by simp [Sort.grow, World.drewN], fun j hj => by
    show ((w.drewN k).heap ++ os)[j]? = w.heap[j]?
    exact Array.getElem?_append_left hj⟩

/-- strconv.FormatInt at base 10 -/
theorem fmt_10 (u : Nat) (hu : u ≤ 9007199254740992) (w : World) (h : Tabs w) : Calls Tryd.prog 22 #[.int .i64 (u : Int), .int .i64 10] w (TextEnds (dgs 10 u) w) := by
  refine (sh_FormatInt_10 (u : Int) (by omega) (by omega) w h.pow).mono ?_
  rintro e w1 ⟨rfl, k, os, rfl⟩
  exact ⟨_, rfl, by rw [Lib.itoa_nonneg, dec_dgs], below_grow _ _ _⟩

set_option maxHeartbeats 1000000 in
theorem text_good (n base : Int) (w : World) (h : Tabs w) (hf : fitN n = true) (hb : base = 10 ∨ base = 16) : Calls Tryd.prog 16 #[.int .i64 n, .int .i64 base] w (TextEnds (dgs base.toNat n.toNat) w) := by
  obtain ⟨h0, h1⟩ := fit_iff.1 hf
  obtain ⟨u, rfl⟩ := Int.eq_ofNat_of_zero_le h0
  have hbn : baseN base = true := by rcases hb with rfl | rfl <;> rfl
  have key : Calls Tryd.prog 22 #[.int .i64 (u : Int), .int .i64 base] w (TextEnds (dgs base.toNat u) w) := by
    rcases hb with rfl | rfl
    · exact fmt_10 u (by omega) w h
    · exact fmt_16 u (by omega) w h
  go_enter Tryd.func16, Tryd.ntmps16
  go_wp2_with fail
  refine (fits_any (u : Int) _).mono ?_
  rintro e w1 ⟨rfl, hw⟩
  subst hw
  rw [hf]
  go_wp2_with fail
  refine (isBase_any base _).mono ?_
  rintro e w2 ⟨rfl, hw⟩
  subst hw
  rw [hbn]
  go_wp2_with fail
  refine key.mono ?_
  rintro e w3 ⟨s, rfl, hs, hbl⟩
  go_wp2
  go_ret
  exact ⟨s, rfl, by simpa using hs, hbl⟩

set_option maxHeartbeats 1000000 in
theorem text_bad (n base : Int) (w : World) (h : ¬ (fitN n = true ∧ (base = 10 ∨ base = 16))) : Calls Tryd.prog 16 #[.int .i64 n, .int .i64 base] w (TextEnds [] w) := by
  have hcase : fitN n = false ∨ (fitN n = true ∧ baseN base = false) := by
    cases hf : fitN n with
    | false => exact .inl rfl
    | true =>
      refine .inr ⟨rfl, ?_⟩
      cases hb : baseN base with
      | false => rfl
      | true => exact absurd ⟨hf, by simpa [baseN] using hb⟩ h
  clear h
  rcases hcase with h1 | ⟨h1, h2⟩
  · go_enter Tryd.func16, Tryd.ntmps16
    go_wp2_with fail
    refine (fits_any n _).mono ?_
    rintro e w' ⟨rfl, rfl⟩
    rw [h1]
    go_wp2_with fail
    go_ret
    exact ⟨_, rfl, rfl, Below.refl _ _⟩
  · go_enter Tryd.func16, Tryd.ntmps16
    go_wp2_with fail
    refine (fits_any n _).mono ?_
    rintro e w' ⟨rfl, rfl⟩
    rw [h1]
    go_wp2_with fail
    refine (isBase_any base _).mono ?_
    rintro e w' ⟨rfl, rfl⟩
    rw [h2]
    go_wp2_with fail
    go_ret
    exact ⟨_, rfl, rfl, Below.refl _ _⟩

theorem text_any (n base : Int) (w : World) (h : Tabs w) : Calls Tryd.prog 16 #[.int .i64 n, .int .i64 base] w (TextEnds (textN n base) w) := by
  by_cases hg : fitN n = true ∧ (base = 10 ∨ base = 16)
  · rw [textN, if_pos hg]
    exact text_good n base w h hg.1 hg.2
  · rw [textN, if_neg hg]
    exact text_bad n base w hg

end Go.Proofs.YtknnkgkhoabppaaDoor
