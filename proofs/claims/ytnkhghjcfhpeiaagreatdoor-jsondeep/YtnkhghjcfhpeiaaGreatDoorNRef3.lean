/-
  The walk of the document's own Text.
-/
import Derived.Test.YtnkhghjcfhpeiaaGreatDoorJWords
import Derived.WalkKit
import Derived.WalkSpells
import Derived.WalkLawsBesides
import Derived.WalkSmall
import Derived.Lib.Hide
import Derived.IntWalk
import Derived.BigQuiet
import Derived.Deep.Upon
import Derived.Deep.DeepCutAuto
namespace Go.Proofs.YtnkhghjcfhpeiaaGreatDoor.Nm
open Go.RowKit

theorem bon' {w w1 w2 : World} (h : Below w.heap.size w w1) (k : Below w1.heap.size w1 w2) : Below w.heap.size w w2 := h.trans (k.mono h.size)

/-- what Text hands back -/
def TextEnds (t : List UInt8) (w : World) (e : Ending) (w' : World) : Prop := ∃ s : ByteArray, e = .returned (.string s) ∧ s.data.toList = t ∧ Below w.heap.size w w'

/-- the text of the sixteen digits -/
def hexd : ByteArray := ⟨#[48, 49, 50, 51, 52, 53, 54, 55, 56, 57, 97, 98, 99, 100, 101, 102]⟩
theorem one_ch : ∀ r : Nat, r < 16 → (hexd.extract r (r + 1)).data.toList = [chN r] := by decide +kernel
theorem dgs_len (b n : Nat) : (dgs b n).length ≤ n + 1 := by
  induction n using Nat.strongRecOn with
  | ind n ih =>
    rw [dgs]
    split
    · simp
    · next h =>
      have hlt : n / b < n := Nat.div_lt_self (by omega) (by omega)
      have := ih (n / b) hlt
      simp
      omega
theorem app_data (a b : ByteArray) : (a ++ b).data.toList = a.data.toList ++ b.data.toList := by simp

set_option maxRecDepth 100000 in
set_option maxHeartbeats 4000000 in
theorem rtext_good (b : Nat) (hb : b = 10 ∨ b = 16) : ∀ n : Nat, n ≤ 9007199254740992 → ∀ w, Calls Tryz.prog 73 #[.int .i64 (n : Int), .int .i64 (b : Int)] w (TextEnds (dgs b n) w) := by
  intro n
  induction n using Nat.strongRecOn with
  | ind n ih =>
    intro hn w
    have HI : Hid (b ≤ n → ∀ W, Calls Tryz.prog 73 #[.int .i64 ((n / b : Nat) : Int), .int .i64 (b : Int)] W (TextEnds (dgs b (n / b)) W)) := Lib.hid (fun hbn W => ih (n / b) (Nat.div_lt_self (by omega) (by omega)) (Nat.le_trans (Nat.div_le_self _ _) hn) W)
    clear ih
    have hf : fitN (n : Int) = true := fit_iff.2 (by omega)
    have hb10 : 10 ≤ b := by omega
    have hb16 : b ≤ 16 := by omega
    have HB := Lib.hid hb
    obtain ⟨r, hr⟩ : ∃ r, n % b = r := ⟨_, rfl⟩
    have hrb : r < b := by rw [← hr]; exact Nat.mod_lt _ (by omega)
    have t1 : (n : Int).tmod (b : Int) = (r : Int) := by rw [Int.tmod_eq_emod_of_nonneg (by omega), ← hr]; simp
    have t2 : (n : Int) % (b : Int) = (r : Int) := by rw [← hr]; simp
    have HR := Lib.hid hr
    clear hr
    have hc : ((b : Int) != 10) = false ∨ (((b : Int) != 10) = true ∧ ((b : Int) != 16) = false) := by
      rcases hb with rfl | rfl
      · exact .inl rfl
      · exact .inr ⟨rfl, rfl⟩
    clear hb
    rcases hc with hc | ⟨hc, hc'⟩
    all_goals
      go_enter Tryz.func73, Tryz.ntmps73
      go_wp2_with fail
      refine (rfits_any (n : Int) _).mono ?_
      rintro e w' ⟨rfl, rfl⟩
      rw [hf]
      go_wp2_with fail
      have t3 : IntKind.i64.wrap ((r : Int) + 1) = (r : Int) + 1 := IntWalk.i64_in _ (by omega)
      have hr0 : (0 : Int) ≤ (r : Int) := by omega
      have hr1 : (r : Int) ≤ (r : Int) + 1 := by omega
      have hr2 : (r : Int) + 1 ≤ 16 := by omega
      have hr3 : r + 1 ≤ 16 := by omega
      have hbz : ¬ (b : Int) = 0 := by omega
      go_quiet (fail)
      by_cases hlt : n < b
      · have HE : Hid (dgs b n = [chN r]) := Lib.hid (by rw [dgs_small hlt, ← HR.out, Nat.mod_eq_of_lt hlt])
        go_wp2_with fail
        go_ret
        exact ⟨_, rfl, by rw [HE.out]; exact one_ch r (by omega), below_drewN (Below.refl _ _) _⟩
      · have HE : Hid (dgs b n = dgs b (n / b) ++ [chN r]) := Lib.hid (by rw [dgs_big (by omega) (by omega), HR.out])
        have t5 : (n : Int).tdiv (b : Int) = ((n / b : Nat) : Int) := by rw [Int.tdiv_eq_ediv_of_nonneg (by omega)]; simp
        have t6 : (n : Int) / (b : Int) = ((n / b : Nat) : Int) := by simp
        have hq : n / b ≤ n := Nat.div_le_self _ _
        have HC := Lib.hid (HI.out (by omega))
        clear HI
        generalize n / b = q at *
        have t7 : IntKind.i64.wrap (q : Int) = (q : Int) := IntWalk.i64_in _ (by omega)
        go_wp2_with fail
        refine (HC.out _).mono ?_
        rintro e w5 ⟨s, rfl, hs, hb5⟩
        have HS := Lib.hid hs
        clear hs
        have hsz : s.size ≤ q + 1 := by
          have h1 : s.size = s.data.toList.length := (Array.length_toList (xs := s.data)).symm
          rw [h1, HS.out]
          exact dgs_len _ _
        go_wp2
        go_ret
        exact ⟨_, rfl, by rw [app_data, HS.out, HE.out, ← one_ch r (by omega)]; rfl, bon' (below_drewN (Below.refl _ _) _) hb5⟩

set_option maxHeartbeats 1000000 in
theorem rtext_bad (n base : Int) (w : World) (h : ¬ (fitN n = true ∧ (base = 10 ∨ base = 16))) : Calls Tryz.prog 73 #[.int .i64 n, .int .i64 base] w (TextEnds [] w) := by
  have hcase : fitN n = false ∨ (fitN n = true ∧ (base != 10) = true ∧ (base != 16) = true) := by
    cases hf : fitN n with
    | false => exact .inl rfl
    | true =>
      refine .inr ⟨rfl, ?_, ?_⟩
      · simp only [bne_iff_ne, ne_eq]
        exact fun e => h ⟨hf, .inl e⟩
      · simp only [bne_iff_ne, ne_eq]
        exact fun e => h ⟨hf, .inr e⟩
  clear h
  rcases hcase with h1 | ⟨h1, h2, h3⟩
  all_goals
    go_enter Tryz.func73, Tryz.ntmps73
    go_wp2_with fail
    refine (rfits_any n _).mono ?_
    rintro e w' ⟨rfl, rfl⟩
    rw [h1]
    go_wp2_with fail
    go_ret
    exact ⟨_, rfl, rfl, Below.refl _ _⟩

theorem rtext_any (n base : Int) (w : World) : Calls Tryz.prog 73 #[.int .i64 n, .int .i64 base] w (TextEnds (textN n base) w) := by
  by_cases h : fitN n = true ∧ (base = 10 ∨ base = 16)
  · obtain ⟨h0, h1⟩ := fit_iff.1 h.1
    obtain ⟨m, rfl⟩ := Int.eq_ofNat_of_zero_le h0
    obtain ⟨b, rfl⟩ := Int.eq_ofNat_of_zero_le (show 0 ≤ base by omega)
    rw [textN, if_pos h]
    simp only [Int.toNat_natCast]
    exact rtext_good b (by omega) m (by omega) w
  · rw [textN, if_neg h]
    exact rtext_bad n base w h

end Go.Proofs.YtnkhghjcfhpeiaaGreatDoor.Nm
