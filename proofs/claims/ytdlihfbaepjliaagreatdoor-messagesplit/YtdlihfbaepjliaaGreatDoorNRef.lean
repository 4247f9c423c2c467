/-
  The walks of the document's own Fits, Add, Mul and value.
-/
import Derived.Test.YtdlihfbaepjliaaGreatDoorNum
import Derived.Test.YtdlihfbaepjliaaGreatDoorJWords
import Derived.Test.YtdlihfbaepjliaaGreatDoorProg
import Derived.Lib.SlTrimSet
import Derived.WalkKit
import Derived.Lib.Split
import Derived.WalkSpells
import Derived.WalkLawsBesides
import Derived.WalkSmall
import Derived.Lib.Hide
import Derived.IntWalk
import Derived.BigQuiet
import Derived.Laws.OwnMore
import Derived.Deep.AppendLies
import Derived.Deep.RegionLaw
import Derived.Deep.Upon
import Derived.Deep.DeepCutAuto
import Derived.Lib.IndexLaws
import Derived.Shelf.LaysM
import Derived.Shelf.Small.Strs
import Derived.Shelf.Small.Wraps
import Derived.Shelf.Strings.Search1
import Derived.Shelf.Strings.Search2
import Derived.Shelf.Strings.SlTrimAscii
import Derived.Shelf.Strings.Split
import Derived.Shelf.Strings.Prefix
import Derived.Shelf.Strconv.Itoa4
import Derived.Lib.SmallJoins
namespace Go.Proofs.YtdlihfbaepjliaaGreatDoor.Nm
open Go.RowKit

theorem ret_bool {a b : Bool} (h : a = b) : Ending.returned (.bool a) = .returned (.bool b) := by rw [h]
theorem ret_two {x y : Int} {q : Int × Int} (h : q = (x, y)) : Ending.returned (.tuple #[.int .i64 x, .int .i64 y]) = .returned (.tuple #[.int .i64 q.1, .int .i64 q.2]) := by rw [h]

set_option maxHeartbeats 400000 in
theorem rfits_any (n : Int) (w : World) : Calls Tryz.prog 60 #[.int .i64 n] w fun e w' => e = .returned (.bool (fitN n)) ∧ w' = w := by
  go_enter Tryz.func60, Tryz.ntmps60
  go_wp2
  all_goals
    go_ret
    exact ⟨ret_bool (by rw [Bool.eq_iff_iff]; simp [fitN]; try omega), rfl⟩

set_option maxHeartbeats 1000000 in
theorem radd_any (a b : Int) (w : World) : Calls Tryz.prog 137 #[.int .i64 a, .int .i64 b] w fun e w' => e = .returned (.tuple #[.int .i64 (addN a b).1, .int .i64 (addN a b).2]) ∧ w' = w := by
  go_enter Tryz.func137, Tryz.ntmps137
  go_wp2_with fail
  refine (rfits_any a w).mono ?_
  rintro e w' ⟨rfl, rfl⟩
  cases ha : fitN a with
  | false =>
    have HE : Hid (addN a b = (0, 1)) := Lib.hid (by simp [addN, ha])
    clear ha
    go_wp2_with fail
    refine bodyPost_ret (v := .tuple #[.int .i64 0, .int .i64 1]) (by simp [results, Tryz.results137, go_sem]) rfl ?_
    exact ⟨ret_two HE.out, rfl⟩
  | true =>
    obtain ⟨a0, a1⟩ := fit_iff.1 ha
    have HA := Lib.hid ha
    clear ha
    go_wp2_with fail
    refine (rfits_any b _).mono ?_
    rintro e w' ⟨rfl, rfl⟩
    cases hb : fitN b with
    | false =>
      have HE : Hid (addN a b = (0, 1)) := Lib.hid (by simp [addN, hb])
      clear hb
      go_wp2_with fail
      refine bodyPost_ret (v := .tuple #[.int .i64 0, .int .i64 1]) (by simp [results, Tryz.results137, go_sem]) rfl ?_
      exact ⟨ret_two HE.out, rfl⟩
    | true =>
      obtain ⟨b0, b1⟩ := fit_iff.1 hb
      have HB := Lib.hid hb
      clear hb
      by_cases hc : a + b ≤ 9007199254740992
      · have HE : Hid (addN a b = (a + b, 0)) := Lib.hid (by simp [addN, HA.out, HB.out, hc])
        go_wp2
        refine bodyPost_ret (v := .tuple #[.int .i64 (a + b), .int .i64 0]) (by simp [results, Tryz.results137, go_sem]) rfl ?_
        exact ⟨ret_two HE.out, rfl⟩
      · have HE : Hid (addN a b = (0, 3)) := Lib.hid (by simp [addN, HA.out, HB.out, hc])
        go_wp2
        refine bodyPost_ret (v := .tuple #[.int .i64 0, .int .i64 3]) (by simp [results, Tryz.results137, go_sem]) rfl ?_
        exact ⟨ret_two HE.out, rfl⟩

set_option maxHeartbeats 1000000 in
theorem rmul_any (a b : Int) (w : World) : Calls Tryz.prog 136 #[.int .i64 a, .int .i64 b] w fun e w' => e = .returned (.tuple #[.int .i64 (mulN a b).1, .int .i64 (mulN a b).2]) ∧ w' = w := by
  go_enter Tryz.func136, Tryz.ntmps136
  go_wp2_with fail
  refine (rfits_any a w).mono ?_
  rintro e w' ⟨rfl, rfl⟩
  cases ha : fitN a with
  | false =>
    have HE : Hid (mulN a b = (0, 1)) := Lib.hid (by simp [mulN, ha])
    clear ha
    go_wp2_with fail
    refine bodyPost_ret (v := .tuple #[.int .i64 0, .int .i64 1]) (by simp [results, Tryz.results136, go_sem]) rfl ?_
    exact ⟨ret_two HE.out, rfl⟩
  | true =>
    obtain ⟨a0, a1⟩ := fit_iff.1 ha
    have HA := Lib.hid ha
    clear ha
    go_wp2_with fail
    refine (rfits_any b _).mono ?_
    rintro e w' ⟨rfl, rfl⟩
    cases hb : fitN b with
    | false =>
      have HE : Hid (mulN a b = (0, 1)) := Lib.hid (by simp [mulN, hb])
      clear hb
      go_wp2_with fail
      refine bodyPost_ret (v := .tuple #[.int .i64 0, .int .i64 1]) (by simp [results, Tryz.results136, go_sem]) rfl ?_
      exact ⟨ret_two HE.out, rfl⟩
    | true =>
      obtain ⟨b0, b1⟩ := fit_iff.1 hb
      have HB := Lib.hid hb
      clear hb
      by_cases hz : b = 0
      · subst hz
        have HE : Hid (mulN a 0 = (a * 0, 0)) := Lib.hid (by simp [mulN, HA.out, HB.out])
        go_wp2
        refine bodyPost_ret (v := .tuple #[.int .i64 (a * 0), .int .i64 0]) (by simp [results, Tryz.results136, go_sem]) rfl ?_
        exact ⟨ret_two HE.out, rfl⟩
      · have hbp : 0 < b := by omega
        have hmb := mul_big (a := a) (M := 9007199254740992) hbp
        obtain ⟨q, hq⟩ : ∃ q, 9007199254740992 / b = q := ⟨_, rfl⟩
        have hq0 : 0 ≤ q := by rw [← hq]; exact Int.ediv_nonneg (by omega) (by omega)
        have hq1 : q ≤ 9007199254740992 := by rw [← hq]; exact Int.ediv_le_self _ (by omega)
        have t1 : (9007199254740992 : Int).tdiv b = q := by rw [Int.tdiv_eq_ediv_of_nonneg (by omega)]; exact hq
        have t2 : IntKind.i64.wrap q = q := IntWalk.i64_in _ (by omega)
        have hp0 : 0 ≤ a * b := Int.mul_nonneg a0 b0
        rw [hq] at hmb
        by_cases hc : a * b ≤ 9007199254740992
        · have HE : Hid (mulN a b = (a * b, 0)) := Lib.hid (by simp [mulN, HA.out, HB.out, hc])
          have hqa : ¬ q < a := by rw [hmb]; omega
          have t3 : IntKind.i64.wrap (a * b) = a * b := IntWalk.i64_in _ (by omega)
          clear hmb
          go_wp2
          refine bodyPost_ret (v := .tuple #[.int .i64 (a * b), .int .i64 0]) (by simp [results, Tryz.results136, go_sem]) rfl ?_
          exact ⟨ret_two HE.out, rfl⟩
        · have HE : Hid (mulN a b = (0, 3)) := Lib.hid (by simp [mulN, HA.out, HB.out, hc])
          have hqa : q < a := by rw [hmb]; omega
          clear hmb
          go_wp2
          refine bodyPost_ret (v := .tuple #[.int .i64 0, .int .i64 3]) (by simp [results, Tryz.results136, go_sem]) rfl ?_
          exact ⟨ret_two HE.out, rfl⟩

theorem ret_int {a b : Int} (h : a = b) : Ending.returned (.int .i64 a) = .returned (.int .i64 b) := by rw [h]

set_option maxHeartbeats 2000000 in
theorem rvalue_any (c : Nat) (base : Int) (w : World) (hc : c < 256) : Calls Tryz.prog 135 #[.int .u8 (c : Int), .int .i64 base] w fun e w' => e = .returned (.int .i64 (valN c base)) ∧ w' = w := by
  obtain ⟨d, hd⟩ : ∃ d, digN c = d := ⟨_, rfl⟩
  have HV : Hid (valN c base = if base ≤ d then -1 else d) := Lib.hid (by rw [valN, hd])
  have hcase : (48 ≤ c ∧ c ≤ 57 ∧ d = (c : Int) - 48) ∨ (¬ (48 ≤ c ∧ c ≤ 57) ∧ 97 ≤ c ∧ c ≤ 102 ∧ d = (c : Int) - 87) ∨ (¬ (48 ≤ c ∧ c ≤ 57) ∧ ¬ (97 ≤ c ∧ c ≤ 102) ∧ 65 ≤ c ∧ c ≤ 70 ∧ d = (c : Int) - 55) ∨ (¬ (48 ≤ c ∧ c ≤ 57) ∧ ¬ (97 ≤ c ∧ c ≤ 102) ∧ ¬ (65 ≤ c ∧ c ≤ 70) ∧ d = -1) := by
    unfold digN at hd
    split at hd
    · omega
    · split at hd
      · omega
      · split at hd <;> omega
  clear hd
  go_enter Tryz.func135, Tryz.ntmps135
  rcases hcase with ⟨h1, h2, h3⟩ | ⟨h0, h1, h2, h3⟩ | ⟨h0, h4, h1, h2, h3⟩ | ⟨h0, h4, h5, h3⟩
  all_goals
    by_cases hb : base ≤ d
    · rw [if_pos hb] at HV
      subst h3
      go_wp2
      all_goals
        first
        | (go_ret; exact ⟨ret_int HV.out.symm, rfl⟩)
        | (exfalso; omega)
    · rw [if_neg hb] at HV
      subst h3
      go_wp2
      all_goals
        first
        | (go_ret; exact ⟨ret_int (by rw [HV.out]; omega), rfl⟩)
        | (go_ret; exact ⟨ret_int HV.out.symm, rfl⟩)
        | (exfalso; omega)

end Go.Proofs.YtdlihfbaepjliaaGreatDoor.Nm
