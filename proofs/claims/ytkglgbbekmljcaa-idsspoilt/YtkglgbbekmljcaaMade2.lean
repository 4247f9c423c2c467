/-
  The walk of the law IdsMade.
-/
import Derived.Test.YtkglgbbekmljcaaMade
namespace Go.Proofs.Ytkglgbbekmljcaa
open Go.RowKit

theorem onS {W X w' : World} {a0 a1 a2 a3 : Addr} {v0 v1 v2 v3 : Value} (hb : Below X.heap.size X w')
    (h : Below W.heap.size W X ∧ X.cell? a0 = some v0 ∧ X.cell? a1 = some v1 ∧ X.cell? a2 = some v2 ∧ X.cell? a3 = some v3) :
    Below W.heap.size W w' ∧ w'.cell? a0 = some v0 ∧ w'.cell? a1 = some v1 ∧ w'.cell? a2 = some v2 ∧ w'.cell? a3 = some v3 :=
  ⟨bon h.1 hb, cell_up hb h.2.1, cell_up hb h.2.2.1, cell_up hb h.2.2.2.1, cell_up hb h.2.2.2.2⟩

set_option maxRecDepth 100000 in
set_option maxHeartbeats 4000000 in
theorem made_any (R I P : Nat) (hR : R < 256) (hI : I < 256) (hP : P < 256) (A : Option Addr) (L c : Nat) (ys : List UInt8) (w : World) (HY : Hid (ys.length = L)) (hL : L ≤ maxLen) (hB : Uq w A ys) :
    Calls Try.prog 4 #[.int .u8 (R : Int), .slice A L c, .int .u8 (I : Int), .int .u8 (P : Int)] w fun e w' => e = .returned (.bool true) ∧ Below w.heap.size w w' := by
  obtain ⟨n, hn, hm⟩ := mk_any R hR A L c ys w HY hL hB
  have HM := Lib.hid hm
  clear hm hB hL hn
  go_enter Try.func4, Try.ntmps4
  go_wp2_with fail
  refine HM.out.mono ?_
  rintro e w1 ⟨i, T, all, inn, Ag, N, cg, Ab, M, cb, Af, F, cf, Ai, Li, ci, rfl, HI, hi, hr, ho, hb1⟩
  have b1 := Box.new w1 25 #[.slice Ag N cg, .slice Ab M cb, .slice Af F cf]
  have hr1 := hr.up (ba1 w1 (.cells #[.slice Ag N cg, .slice Ab M cb, .slice Af F cf] 25))
  have ho1 := own_up ho (ba1 w1 (.cells #[.slice Ag N cg, .slice Ab M cb, .slice Af F cf] 25))
  have hw1 := bon hb1 (ba1 w1 (.cells #[.slice Ag N cg, .slice Ab M cb, .slice Af F cf] 25))
  have hli : inn.length = Li := by simpa using ho.1
  have hL64 : Li ≤ 64 := by have := HI.out.l; have := HI.out.np; omega
  have HA := Lib.hid (hr1.sm HI.out.sm)
  have HO := Lib.hid ho1
  have HLI := Lib.hid hli
  have HW1 := Lib.hid hw1
  clear hb1 hr ho hr1 ho1 hli hw1
  go_wp2_with fail
  obtain ⟨g, hg⟩ : ∃ g, w1.heap.size = g := ⟨_, rfl⟩
  rw [hg] at b1 ⊢
  generalize w1.alloc (.cells #[.slice Ag N cg, .slice Ab M cb, .slice Af F cf] 25) = W1 at *
  clear hg
  have HB1 := Lib.hid b1
  obtain ⟨⟨p0, p1, p2⟩, _⟩ := b1.three
  clear b1
  go_cut [10, 32] (fun v u wx => v = .slice Ai Li ci ∧ u = .bool false ∧ Below W1.heap.size W1 wx)
  case first =>
    by_cases hLi0 : Li = 0
    · subst hLi0
      go_quiet (fail)
      go_wp2_with fail
      go_meet
      exact ⟨rfl, rfl, below_drewN (Below.refl _ _) _⟩
    · obtain ⟨j, hj⟩ : ∃ j : Nat, j = P % Li := ⟨_, rfl⟩
      have hjl : j < Li := by rw [hj]; exact Nat.mod_lt _ (by omega)
      obtain ⟨gi, rfl, _, hgi, hcc⟩ := own_at HO.out (by omega)
      have hl : j < inn.length := by rw [HLI.out]; exact hjl
      have hcj : W1.cell? ⟨gi, j, none⟩ = some (.int .i64 (gd inn j)) := by
        rw [(hcc j hjl).1, List.getElem?_map, List.getElem?_eq_getElem hl, gd_eq hl]
        rfl
      have hmj : gd inn j ∈ inn := by
        rw [gd_eq hl]
        exact List.getElem_mem hl
      have hbd := (HI.out.bound hmj).2
      have HT : Hid (∀ W, Below W1.heap.size W1 W → Calls Try.prog 8 #[.agg #[.slice Ag N cg, .slice Ab M cb, .slice Af F cf], .int .i64 (gd inn j)] W fun e w' => e = .returned (.bool true) ∧ Below W.heap.size W w') := Lib.hid (fun W hb => told_any (HA.out.up hb) (gd inn j) hbd)
      have t1 : IntKind.i64.wrap (P : Int) = (P : Int) := IntWalk.i64_in _ (by omega)
      have t3 : (P : Int).tmod (Li : Int) = (j : Int) := by rw [Int.tmod_eq_emod_of_nonneg (by omega), hj]; simp
      have hLi1 : (0 : Int) < (Li : Int) := by omega
      have hLi2 : ¬ (Li : Int) = 0 := by omega
      have hLi3 : 0 < Li := by omega
      have hLi4 : decide ((0 : Int) < (Li : Int)) = true := decide_eq_true hLi1
      have hLi5 : decide (0 < Li) = true := decide_eq_true hLi3
      have hjI : (j : Int) < (Li : Int) := by omega
      clear hcc hmj hl hj
      generalize gd inn j = x at *
      go_region_held3 (fun w' => Below W1.heap.size W1 w' ∧ w'.cell? ⟨g, 0, none⟩ = some (.slice Ag N cg) ∧ w'.cell? ⟨g, 1, none⟩ = some (.slice Ab M cb) ∧ w'.cell? ⟨g, 2, none⟩ = some (.slice Af F cf) ∧ w'.cell? ⟨gi, j, none⟩ = some (.int .i64 x))
        (first | exact onS hbP (by assumption) | exact ⟨(Below.refl _ _).drew, p0, p1, p2, hcj⟩)
        (first | (go_at_call 8; refine (HT.out _ ?_).mono ?_; (simp only [*]); rintro e wP ⟨rfl, hbP⟩))
      rename_i hHeld
      have hfin : Below W1.heap.size W1 wP := hHeld.1
      clear hHeld
      go_wp2_with fail
      go_meet
      exact ⟨rfl, rfl, hfin⟩
  case rest =>
    obtain ⟨rfl, rfl, hbx⟩ := hcut
    clear p0 p1 p2
    have x1 := HB1.out.up hbx
    have hA1 := HA.out.up hbx
    have hw2 := bon HW1.out hbx
    have HX1 := Lib.hid x1
    have HA1 := Lib.hid hA1
    have HW2 := Lib.hid hw2
    clear x1 hA1 hw2 hbx
    go_wp2_with fail
    refine (awake_any _).mono ?_
    rintro e w3 ⟨rfl, hb3⟩
    obtain ⟨⟨p0, p1, p2⟩, _⟩ := (HX1.out.up hb3).three
    have t1 : IntKind.i64.wrap (I : Int) = (I : Int) := IntWalk.i64_in _ (by omega)
    go_wp2_with fail
    refine (told_any (HA1.out.up hb3) (I : Int) (by omega)).mono ?_
    rintro e w4 ⟨rfl, hb4⟩
    clear p0 p1 p2
    obtain ⟨⟨p0, p1, p2⟩, _⟩ := ((HX1.out.up hb3).up hb4).three
    go_wp2_with fail
    refine (told_any ((HA1.out.up hb3).up hb4) (-1) (by omega)).mono ?_
    rintro e w5 ⟨rfl, hb5⟩
    go_wp2
    go_ret
    exact ⟨rfl, bon (bon (bon HW2.out hb3) hb4) hb5⟩

end Go.Proofs.Ytkglgbbekmljcaa
