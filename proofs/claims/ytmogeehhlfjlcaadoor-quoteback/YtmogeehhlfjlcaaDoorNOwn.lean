/-
  The walks of num's own Fits, isBase, bounded, Add, Mul and digit.
-/
import Derived.Test.YtmogeehhlfjlcaaDoorNRef2
namespace Go.Proofs.YtmogeehhlfjlcaaDoor.Nm
open Go.RowKit

set_option maxHeartbeats 400000 in
theorem fits_any (n : Int) (w : World) : Calls Tryd.prog 26 #[.int .i64 n] w fun e w' => e = .returned (.bool (fitN n)) ∧ w' = w := by
  go_enter Tryd.func26, Tryd.ntmps26
  go_wp2
  all_goals
    go_ret
    exact ⟨ret_bool (by rw [Bool.eq_iff_iff]; simp [fitN]; try omega), rfl⟩

/-- is it a base? -/
def baseN (b : Int) : Bool := b == 10 || b == 16

set_option maxHeartbeats 400000 in
theorem isBase_any (b : Int) (w : World) : Calls Tryd.prog 27 #[.int .i64 b] w fun e w' => e = .returned (.bool (baseN b)) ∧ w' = w := by
  go_enter Tryd.func27, Tryd.ntmps27
  go_wp2
  all_goals
    go_ret
    exact ⟨ret_bool (by rw [Bool.eq_iff_iff]; simp [baseN]; try omega), rfl⟩

/-- a number, or that it is too big -/
def boundN (n : Int) : Int × Int := if fitN n then (n, 0) else (0, 3)

set_option maxHeartbeats 400000 in
theorem bounded_any (n : Int) (w : World) : Calls Tryd.prog 53 #[.int .i64 n] w fun e w' => e = .returned (.tuple #[.int .i64 (boundN n).1, .int .i64 (boundN n).2]) ∧ w' = w := by
  go_enter Tryd.func53, Tryd.ntmps53
  go_wp2_with fail
  refine (fits_any n w).mono ?_
  rintro e w' ⟨rfl, rfl⟩
  cases hf : fitN n with
  | false =>
    have HE : Hid (boundN n = (0, 3)) := Lib.hid (by simp [boundN, hf])
    clear hf
    go_wp2_with fail
    refine bodyPost_ret (v := .tuple #[.int .i64 0, .int .i64 3]) (by simp [results, Tryd.results53, go_sem]) rfl ?_
    exact ⟨ret_two HE.out, rfl⟩
  | true =>
    have HE : Hid (boundN n = (n, 0)) := Lib.hid (by simp [boundN, hf])
    clear hf
    go_wp2_with fail
    refine bodyPost_ret (v := .tuple #[.int .i64 n, .int .i64 0]) (by simp [results, Tryd.results53, go_sem]) rfl ?_
    exact ⟨ret_two HE.out, rfl⟩

/-- a digit is handed back, or that it is none -/
def DigEnds (v : Int) (w : World) (e : Ending) (w' : World) : Prop := e = .returned (.tuple #[.int .i64 (if v < 0 then 0 else v), .bool (decide (0 ≤ v))]) ∧ w' = w

theorem ret_dig {x v : Int} {q : Bool} (h : x = if v < 0 then 0 else v) (h2 : q = decide (0 ≤ v)) : Ending.returned (.tuple #[.int .i64 x, .bool q]) = .returned (.tuple #[.int .i64 (if v < 0 then 0 else v), .bool (decide (0 ≤ v))]) := by rw [h, h2]

set_option maxHeartbeats 2000000 in
theorem digit_any (c : Nat) (base : Int) (w : World) (hc : c < 256) : Calls Tryd.prog 52 #[.int .u8 (c : Int), .int .i64 base] w (DigEnds (valN c base) w) := by
  obtain ⟨d, hd⟩ : ∃ d, digN c = d := ⟨_, rfl⟩
  have HV : Hid (valN c base = if base ≤ d then -1 else d) := Lib.hid (by rw [valN, hd])
  have hcase : (97 ≤ c ∧ c ≤ 102 ∧ d = (c : Int) - 87) ∨ (¬ (97 ≤ c ∧ c ≤ 102) ∧ 65 ≤ c ∧ c ≤ 70 ∧ d = (c : Int) - 55) ∨ (¬ (97 ≤ c ∧ c ≤ 102) ∧ ¬ (65 ≤ c ∧ c ≤ 70) ∧ 48 ≤ c ∧ c ≤ 57 ∧ d = (c : Int) - 48) ∨ (¬ (48 ≤ c ∧ c ≤ 57) ∧ ¬ (97 ≤ c ∧ c ≤ 102) ∧ ¬ (65 ≤ c ∧ c ≤ 70) ∧ d = -1) := by
    unfold digN at hd
    split at hd
    · omega
    · split at hd
      · omega
      · split at hd <;> omega
  clear hd
  go_enter Tryd.func52, Tryd.ntmps52
  rcases hcase with ⟨h1, h2, h3⟩ | ⟨h0, h1, h2, h3⟩ | ⟨h0, h4, h1, h2, h3⟩ | ⟨h0, h4, h5, h3⟩
  all_goals
    by_cases hb : base ≤ d
    · rw [if_pos hb] at HV
      subst h3
      go_wp2
      all_goals
        first
        | (exfalso; omega)
        | (refine bodyPost_ret (v := .tuple #[.int .i64 0, .bool false]) (by simp [results, Tryd.results52, go_sem]) rfl ?_; exact ⟨ret_dig (by rw [HV.out]; rfl) (by rw [HV.out]; rfl), rfl⟩)
    · rw [if_neg hb] at HV
      subst h3
      go_wp2
      all_goals
        first
        | (exfalso; omega)
        | (refine bodyPost_ret (v := .tuple #[.int .i64 0, .bool false]) (by simp [results, Tryd.results52, go_sem]) rfl ?_; exact ⟨ret_dig (by rw [HV.out]; rfl) (by rw [HV.out]; rfl), rfl⟩)
        | (refine bodyPost_ret (v := .tuple #[.int .i64 _, .bool true]) (by simp [results, Tryd.results52, go_sem]; rfl) rfl ?_; exact ⟨ret_dig (by rw [HV.out, if_neg (by omega)]; try omega) (by rw [HV.out]; simp; try omega), rfl⟩)

end Go.Proofs.YtmogeehhlfjlcaaDoor.Nm
