/-
  The walks of quote's own broken, point, readPoint, meanings, readEscape, read.
-/
import Derived.Test.YtmogeehhlfjlcaaDoorQn
import Derived.Test.YtmogeehhlfjlcaaDoorShelf
import Derived.Test.YtmogeehhlfjlcaaDoorNParse
import Derived.Deep.RegionLaw
namespace Go.Proofs.YtmogeehhlfjlcaaDoor
open Go.RowKit

theorem pre_tb (l p : Bs) (w : World) : Calls Tryd.prog 14 #[.string (tb l), .string (tb p)] w (fun e w' => e = .returned (.bool (Lib.hasPrefix l p)) ∧ w' = w) := sh_HasPrefix (tb l) (tb p) w

set_option maxHeartbeats 400000 in
theorem broken_any (l : Bs) (w : World) : Calls Tryd.prog 13 #[.string (tb l), .int .i32 ((decR l).1 : Int)] w (fun e w' => e = .returned (.bool (decide (wid l = 0))) ∧ w' = w) := by
  have hbr := broken_is (l := l)
  have HP := Lib.hid (fun W => pre_tb l [239, 191, 189] W)
  obtain ⟨q, hq⟩ : ∃ q, Lib.hasPrefix l [239, 191, 189] = q := ⟨_, rfl⟩
  obtain ⟨d, hd⟩ : ∃ d, decide (wid l = 0) = d := ⟨_, rfl⟩
  obtain ⟨n, hn⟩ : ∃ n, (decR l).1 = n := ⟨_, rfl⟩
  rw [hq] at HP hbr
  rw [hn] at hbr ⊢
  rw [hd]
  clear hq hn
  by_cases h1 : n = 65533
  · subst h1
    have hqd : d = !q := by
      rw [← hd]
      cases q with
      | true => exact decide_eq_false (fun h => by have := (hbr.2 h).2; cases this)
      | false => exact decide_eq_true (hbr.1 ⟨rfl, rfl⟩)
    subst hqd
    clear hbr hd
    go_enter Tryd.func13, Tryd.ntmps13
    go_wp2_with fail
    refine (HP.out _).mono ?_
    rintro e w1 ⟨rfl, rfl⟩
    go_wp2
    go_ret
    exact ⟨rfl, rfl⟩
  · have hdf : d = false := by
      rw [← hd]
      exact decide_eq_false (fun h => h1 (hbr.2 h).1)
    subst hdf
    have h2 : ¬ (n : Int) = 65533 := by omega
    clear hbr hd HP
    go_enter Tryd.func13, Tryd.ntmps13
    go_wp2
    go_ret
    exact ⟨rfl, rfl⟩

theorem cut_tb (l p : Bs) (w : World) : Calls Tryd.prog 44 #[.string (tb l), .string (tb p)] w (fun e w' => e = .returned (.tuple #[.string (tb (Lib.trimPrefix l p)), .bool (Lib.hasPrefix l p)]) ∧ w' = w) := sh_CutPrefix (tb l) (tb p) w
theorem parse_tb (l : Bs) (w : World) (hl : l.length ≤ 4) : Calls Tryd.prog 45 #[.string (tb l), .int .i64 16] w (fun e w' => e = .returned (.tuple #[.int .i64 (parseN l 16).1, .int .i64 (parseN l 16).2]) ∧ w' = w) := Nm.parse_any (tb l) 16 w (by rw [tb_size]; unfold maxLen; omega)
theorem pre2 (l : Bs) (a b : UInt8) : Lib.hasPrefix l [a, b] = decide (l.take 2 = [a, b]) := by
  rw [Bool.eq_iff_iff, pre_iff, decide_eq_true_eq]
  constructor
  · rintro ⟨r, rfl⟩; rfl
  · exact fun h => ⟨_, take2 h⟩

/-- the code point that an escape tells, and whether there is one -/
def PtEnds (o : Option Nat) (w : World) (e : Ending) (w' : World) : Prop := e = .returned (.tuple #[.int .i32 ((o.getD 0 : Nat) : Int), .bool o.isSome]) ∧ w' = w
set_option maxHeartbeats 400000 in
theorem point_any (l : Bs) (hl : l.length ≤ 1000000) (w : World) : Calls Tryd.prog 38 #[.string (tb l)] w (PtEnds (ptL l) w) := by
  have HC := Lib.hid (fun W => cut_tb l [92, 117] W)
  rw [pre2] at HC
  unfold ptL
  by_cases h1 : l.take 2 = [92, 117]
  · rw [if_pos h1]
    obtain ⟨r, hr⟩ : ∃ r, l.drop 2 = r := ⟨_, rfl⟩
    have ht : Lib.trimPrefix l [92, 117] = r := by
      unfold Lib.trimPrefix
      rw [pre2, decide_eq_true h1]
      exact hr
    have hrl : r.length ≤ 1000000 := by rw [← hr, List.length_drop]; omega
    rw [ht, decide_eq_true h1] at HC
    rw [hr]
    have zr : (tb r).size = r.length := tb_size r
    clear h1 ht hr hl
    by_cases h4 : r.length < 4
    · have hn : hex4 r = none := by
        cases hh : hex4 r with
        | none => rfl
        | some n => have := (hex4_lt hh).2; omega
      rw [hn]
      have h4i : (r.length : Int) < 4 := by omega
      go_enter Tryd.func38, Tryd.ntmps38
      go_wp2_with fail
      refine (HC.out _).mono ?_
      rintro e w1 ⟨rfl, rfl⟩
      go_wp2
      refine bodyPost_ret (v := .tuple #[.int .i32 0, .bool false]) (by simp [results, Tryd.results38, go_sem]) rfl ?_
      exact ⟨rfl, rfl⟩
    · have h4i : ¬ (r.length : Int) < 4 := by omega
      have hp4 := parse4 (l := r) (by omega)
      have HP := Lib.hid (fun W => parse_tb (r.take 4) W (by rw [List.length_take]; omega))
      have hx : (tb r).extract 0 4 = tb (r.take 4) := by rw [tb_ext]; rfl
      rw [hp4] at HP
      clear hp4
      cases h5 : hex4 r with
      | none =>
        rw [h5] at HP
        go_enter Tryd.func38, Tryd.ntmps38
        go_wp2_with fail
        refine (HC.out _).mono ?_
        rintro e w1 ⟨rfl, rfl⟩
        go_wp2_with fail
        refine (HP.out _).mono ?_
        rintro e w2 ⟨rfl, rfl⟩
        go_wp2
        refine bodyPost_ret (v := .tuple #[.int .i32 0, .bool false]) (by simp [results, Tryd.results38, go_sem]) rfl ?_
        exact ⟨rfl, rfl⟩
      | some n =>
        rw [h5] at HP
        have hn := (hex4_lt h5).1
        clear h5
        have hwr : IntKind.i32.wrap (n : Int) = (n : Int) := IntWalk.i32_in _ (by omega)
        go_enter Tryd.func38, Tryd.ntmps38
        go_wp2_with fail
        refine (HC.out _).mono ?_
        rintro e w1 ⟨rfl, rfl⟩
        go_wp2_with fail
        refine (HP.out _).mono ?_
        rintro e w2 ⟨rfl, rfl⟩
        go_wp2
        refine bodyPost_ret (v := .tuple #[.int .i32 (n : Int), .bool true]) (by simp [results, Tryd.results38, go_sem]) rfl ?_
        exact ⟨rfl, rfl⟩
  · rw [if_neg h1]
    rw [decide_eq_false h1] at HC
    clear h1
    go_enter Tryd.func38, Tryd.ntmps38
    go_wp2_with fail
    refine (HC.out _).mono ?_
    rintro e w1 ⟨rfl, rfl⟩
    go_wp2
    refine bodyPost_ret (v := .tuple #[.int .i32 0, .bool false]) (by simp [results, Tryd.results38, go_sem]) rfl ?_
    exact ⟨rfl, rfl⟩
end Go.Proofs.YtmogeehhlfjlcaaDoor
