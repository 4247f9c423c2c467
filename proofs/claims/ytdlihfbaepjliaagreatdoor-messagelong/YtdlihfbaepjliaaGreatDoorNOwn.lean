/-
  The walks of num's own Fits, isBase, bounded, Add, Mul and digit.
-/
import Derived.Test.YtdlihfbaepjliaaGreatDoorNRef
import Derived.Test.YtdlihfbaepjliaaGreatDoorProg
import Derived.Lib.SlTrimSet
import Derived.WalkKit
import Derived.Lib.Split
import Derived.WalkSpells
import Derived.WalkLawsBesides
import Derived.WalkSmall
import Derived.Lib.Hide
import Derived.IntWalk
import Derived.BigQuiet
import Derived.Laws.OwnMore
import Derived.Deep.AppendLies
import Derived.Deep.RegionLaw
import Derived.Deep.Upon
import Derived.Deep.DeepCutAuto
import Derived.Lib.IndexLaws
import Derived.Shelf.LaysM
import Derived.Shelf.Small.Strs
import Derived.Shelf.Small.Wraps
import Derived.Shelf.Strings.Search1
import Derived.Shelf.Strings.Search2
import Derived.Shelf.Strings.SlTrimAscii
import Derived.Shelf.Strings.Split
import Derived.Shelf.Strings.Prefix
import Derived.Shelf.Strconv.Itoa4
import Derived.Lib.SmallJoins
namespace Go.Proofs.YtdlihfbaepjliaaGreatDoor.Nm
open Go.RowKit

set_option maxHeartbeats 400000 in
theorem fits_any (n : Int) (w : World) : Calls Tryz.prog 56 #[.int .i64 n] w fun e w' => e = .returned (.bool (fitN n)) ∧ w' = w := by
  go_enter Tryz.func56, Tryz.ntmps56
  go_wp2
  all_goals
    go_ret
    exact ⟨ret_bool (by rw [Bool.eq_iff_iff]; simp [fitN]; try omega), rfl⟩

/-- is it a base? -/
def baseN (b : Int) : Bool := b == 10 || b == 16

set_option maxHeartbeats 400000 in
theorem isBase_any (b : Int) (w : World) : Calls Tryz.prog 57 #[.int .i64 b] w fun e w' => e = .returned (.bool (baseN b)) ∧ w' = w := by
  go_enter Tryz.func57, Tryz.ntmps57
  go_wp2
  all_goals
    go_ret
    exact ⟨ret_bool (by rw [Bool.eq_iff_iff]; simp [baseN]; try omega), rfl⟩

/-- a number, or that it is too big -/
def boundN (n : Int) : Int × Int := if fitN n then (n, 0) else (0, 3)

set_option maxHeartbeats 400000 in
theorem bounded_any (n : Int) (w : World) : Calls Tryz.prog 177 #[.int .i64 n] w fun e w' => e = .returned (.tuple #[.int .i64 (boundN n).1, .int .i64 (boundN n).2]) ∧ w' = w := by
  go_enter Tryz.func177, Tryz.ntmps177
  go_wp2_with fail
  refine (fits_any n w).mono ?_
  rintro e w' ⟨rfl, rfl⟩
  cases hf : fitN n with
  | false =>
    have HE : Hid (boundN n = (0, 3)) := Lib.hid (by simp [boundN, hf])
    clear hf
    go_wp2_with fail
    refine bodyPost_ret (v := .tuple #[.int .i64 0, .int .i64 3]) (by simp [results, Tryz.results177, go_sem]) rfl ?_
    exact ⟨ret_two HE.out, rfl⟩
  | true =>
    have HE : Hid (boundN n = (n, 0)) := Lib.hid (by simp [boundN, hf])
    clear hf
    go_wp2_with fail
    refine bodyPost_ret (v := .tuple #[.int .i64 n, .int .i64 0]) (by simp [results, Tryz.results177, go_sem]) rfl ?_
    exact ⟨ret_two HE.out, rfl⟩

/-- a digit is handed back, or that it is none -/
def DigEnds (v : Int) (w : World) (e : Ending) (w' : World) : Prop := e = .returned (.tuple #[.int .i64 (if v < 0 then 0 else v), .bool (decide (0 ≤ v))]) ∧ w' = w

theorem ret_dig {x v : Int} {q : Bool} (h : x = if v < 0 then 0 else v) (h2 : q = decide (0 ≤ v)) : Ending.returned (.tuple #[.int .i64 x, .bool q]) = .returned (.tuple #[.int .i64 (if v < 0 then 0 else v), .bool (decide (0 ≤ v))]) := by rw [h, h2]

set_option maxHeartbeats 2000000 in
theorem digit_any (c : Nat) (base : Int) (w : World) (hc : c < 256) : Calls Tryz.prog 176 #[.int .u8 (c : Int), .int .i64 base] w (DigEnds (valN c base) w) := by
  obtain ⟨d, hd⟩ : ∃ d, digN c = d := ⟨_, rfl⟩
  have HV : Hid (valN c base = if base ≤ d then -1 else d) := Lib.hid (by rw [valN, hd])
  have hcase : (97 ≤ c ∧ c ≤ 102 ∧ d = (c : Int) - 87) ∨ (¬ (97 ≤ c ∧ c ≤ 102) ∧ 65 ≤ c ∧ c ≤ 70 ∧ d = (c : Int) - 55) ∨ (¬ (97 ≤ c ∧ c ≤ 102) ∧ ¬ (65 ≤ c ∧ c ≤ 70) ∧ 48 ≤ c ∧ c ≤ 57 ∧ d = (c : Int) - 48) ∨ (¬ (48 ≤ c ∧ c ≤ 57) ∧ ¬ (97 ≤ c ∧ c ≤ 102) ∧ ¬ (65 ≤ c ∧ c ≤ 70) ∧ d = -1) := by
    unfold digN at hd
    split at hd
    · omega
    · split at hd
      · omega
      · split at hd <;> omega
  clear hd
  go_enter Tryz.func176, Tryz.ntmps176
  rcases hcase with ⟨h1, h2, h3⟩ | ⟨h0, h1, h2, h3⟩ | ⟨h0, h4, h1, h2, h3⟩ | ⟨h0, h4, h5, h3⟩
  all_goals
    by_cases hb : base ≤ d
    · rw [if_pos hb] at HV
      subst h3
      go_wp2
      all_goals
        first
        | (exfalso; omega)
        | (refine bodyPost_ret (v := .tuple #[.int .i64 0, .bool false]) (by simp [results, Tryz.results176, go_sem]) rfl ?_; exact ⟨ret_dig (by rw [HV.out]; rfl) (by rw [HV.out]; rfl), rfl⟩)
    · rw [if_neg hb] at HV
      subst h3
      go_wp2
      all_goals
        first
        | (exfalso; omega)
        | (refine bodyPost_ret (v := .tuple #[.int .i64 0, .bool false]) (by simp [results, Tryz.results176, go_sem]) rfl ?_; exact ⟨ret_dig (by rw [HV.out]; rfl) (by rw [HV.out]; rfl), rfl⟩)
        | (refine bodyPost_ret (v := .tuple #[.int .i64 _, .bool true]) (by simp [results, Tryz.results176, go_sem]; rfl) rfl ?_; exact ⟨ret_dig (by rw [HV.out, if_neg (by omega)]; try omega) (by rw [HV.out]; simp; try omega), rfl⟩)

end Go.Proofs.YtdlihfbaepjliaaGreatDoor.Nm
