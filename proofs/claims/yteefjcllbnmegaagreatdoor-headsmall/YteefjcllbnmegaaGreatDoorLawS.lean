/-
  The walk of the law HeadSmall.
-/
import Derived.Test.YteefjcllbnmegaaGreatDoorLawE
namespace Go.Proofs.YteefjcllbnmegaaGreatDoor
open Go.RowKit

def lsP : List ByteArray := [⟨#[]⟩, ⟨#[71, 69, 84, 32, 47, 32, 72, 84, 84, 80, 47, 49, 46, 49, 13, 10]⟩, ⟨#[72, 84, 84, 80, 47, 49, 46, 49, 32, 50, 48, 48, 32, 79, 75, 13, 10]⟩, ⟨#[71, 69, 84, 32]⟩]
theorem lsP_le : ∀ x ∈ lsP, x.size ≤ 17 := by decide +kernel

set_option maxRecDepth 100000 in
set_option maxHeartbeats 2000000 in
theorem headSmall_any (A : Option Addr) (L c : Nat) (ys : List UInt8) (h : Nat) (hh : h < 256) (w : World) (hl : ys.length = L) (hm : L ≤ maxLen) (hU : Us w w.heap.size A ys) (hT : Tabs w) : Calls Tryz.prog 3 #[.slice A L c, .int .u8 (h : Int)] w (BoolEnds true w) := by
  have HPc := Lib.hid (fun W (hW : Us W W.heap.size A ys) => pieces_any A L c ys W hl hm hW)
  have HU := Lib.hid hU
  clear hl hU
  obtain ⟨q, hq⟩ : ∃ q, h % 4 = q := ⟨_, rfl⟩
  have hq4 : q < 4 := by omega
  have t1 : IntKind.i64.wrap (h : Int) = (h : Int) := IntWalk.i64_in _ (by omega)
  have t2 : (h : Int).tmod 4 = (q : Int) := by rw [Int.tmod_eq_emod_of_nonneg (by omega), ← hq]; simp
  have t3 : (h : Int) % 4 = (q : Int) := by rw [← hq]; simp
  have t4 : IntKind.i64.wrap (q : Int) = (q : Int) := IntWalk.i64_in _ (by omega)
  have t5 : (q : Int) < 4 := by omega
  have t6 : (0 : Int) ≤ (q : Int) := by omega
  obtain ⟨x, hxm, hx0⟩ : ∃ x, x ∈ lsP ∧ ∀ W : World, (W.alloc (.cells #[.string ⟨#[]⟩, .string ⟨#[71, 69, 84, 32, 47, 32, 72, 84, 84, 80, 47, 49, 46, 49, 13, 10]⟩, .string ⟨#[72, 84, 84, 80, 47, 49, 46, 49, 32, 50, 48, 48, 32, 79, 75, 13, 10]⟩, .string ⟨#[71, 69, 84, 32]⟩] 9)).cell? ⟨W.heap.size, q, none⟩ = some (.string x) := by
    refine ⟨lsP[q]'(by simpa [lsP] using hq4), List.getElem_mem _, fun W => ?_⟩
    exact (Box.new W 9 (svs lsP).toArray).c q (by simp [svs, show q < lsP.length by simpa [lsP] using hq4])
  have hxs := lsP_le x hxm
  clear hxm hq
  go_enter Tryz.func3, Tryz.ntmps3
  go_wp2_with fail
  go_region_law (first
    | (go_simp; go_at_call 6; refine (awake_any _ (hT.up (by first | exact (Below.refl _ _).drew | exact (ba1 _ _).drew | exact Below.refl _ _ | exact ba1 _ _))).mono ?_; rintro e wA ⟨rfl, hbA⟩; have hAw : Below w.heap.size w wA := (by first | exact bon (Below.refl _ _).drew hbA | exact bon (ba1 _ _).drew hbA); (try have hq1 := cell_up hbA (hx0 _)))
    | (go_simp; go_at_call 8; refine (HPc.out _ (HU.out.up (by first | exact hAw | exact bon hAw (ba1 _ _) | exact hAw.drew | exact (bon hAw (ba1 _ _)).drew))).mono ?_; rintro e wP ⟨y, rfl, hy, hbP⟩; have hPw : Below w.heap.size w wP := (by first | exact bon hAw hbP | exact bon (bon hAw (ba1 _ _)) hbP); have k2 := (fun W => run_string_add_sum (P := Tryz.prog) W x y (by omega)); have hxy : (x ++ y).size ≤ 400 := (by rw [ByteArray.size_append]; omega); (first | (have hq2 := cell_up hbP hq1) | (have hq2 := cell_up hbP (hx0 _)) | skip))
    | (go_simp; go_at_call 7; refine (same_any (x ++ y) (by omega) _ (hT.up (by first | exact hPw | exact bon hPw (ba1 _ _)))).mono ?_; rintro e wS ⟨rfl, hbS⟩; have hSw : Below w.heap.size w wS := (by first | exact bon hPw hbS | exact bon (bon hPw (ba1 _ _)) hbS)))
  all_goals (go_wp2)
  all_goals
    go_ret
    first
    | exact ⟨by rfl, hSw⟩
    | exact ⟨by rfl, bon hSw (ba1 _ _)⟩
end Go.Proofs.YteefjcllbnmegaaGreatDoor
