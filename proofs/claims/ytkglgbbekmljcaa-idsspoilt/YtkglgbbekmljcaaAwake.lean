/-
  The walk of the laws' own 'awake'.
-/
import Derived.Test.YtkglgbbekmljcaaNew
import Derived.Test.YtkglgbbekmljcaaGive2
namespace Go.Proofs.Ytkglgbbekmljcaa
open Go.RowKit

/-- a table that is not too long -/
structure Sm (T : Tb) : Prop where
  g : T.gens.length ≤ 1000
  b : T.busy.length ≤ 1000
  f : T.free.length ≤ 1000
  w : ∀ x ∈ T.free, (Lit.int .i64 x).wf = true

theorem RowT.sm {w : World} {B : Nat} {T : Tb} {Ag Ab Af : Option Addr} {N cg M cb F cf : Nat} (h : RowT w B T Ag N cg Ab M cb Af F cf) (hs : Sm T) : At w T Ag N cg Ab M cb Af F cf := by
  have h1 := h.g.1
  have h2 := h.b.1
  have h3 := h.f.1
  simp only [List.length_map] at h1 h2 h3
  exact h.at (h1 ▸ hs.g) (h2 ▸ hs.b) (h3 ▸ hs.f) hs.w

theorem sm_dec {T : Tb} (h : (decide (T.gens.length ≤ 1000) && decide (T.busy.length ≤ 1000) && decide (T.free.length ≤ 1000) && T.free.all (fun x => decide (0 ≤ x) && decide (x ≤ 1000))) = true) : Sm T := by
  simp only [Bool.and_eq_true, decide_eq_true_eq, List.all_eq_true] at h
  obtain ⟨⟨⟨h1, h2⟩, h3⟩, h4⟩ := h
  exact ⟨h1, h2, h3, fun x hx => wf_small (h4 x hx).1 (h4 x hx).2⟩

/-- a call's contract at a table that is known -/
theorem take_at {W : World} {B : Nat} {T : Tb} {Ag Ab Af : Option Addr} {N cg M cb F cf : Nat} {q : Tb × Int × Int} (h : RowT W B T Ag N cg Ab M cb Af F cf) (hs : Sm T) (hq : takeT T = q) : Calls Try.prog 13 #[.agg #[.slice Ag N cg, .slice Ab M cb, .slice Af F cf]] W (TakeEnds q W) := hq ▸ take_any (h.sm hs)
theorem give_at {W : World} {B : Nat} {T : Tb} {Ag Ab Af : Option Addr} {N cg M cb F cf : Nat} {q : Tb × Int} (h : RowT W B T Ag N cg Ab M cb Af F cf) (hs : Sm T) (id : Int) (hid : id ≤ 9223372036854775807) (hq : giveT T id = q) : Calls Try.prog 14 #[.agg #[.slice Ag N cg, .slice Ab M cb, .slice Af F cf], .int .i64 id] W (GiveEnds q W) := hq ▸ give_any (h.sm hs) id hid
theorem new_at {W : World} (room : Int) {T : Tb} (hq : newT room = T) : Calls Try.prog 10 #[.int .i64 room] W (NewEnds T W) := hq ▸ new_any room W
theorem has_at {W : World} {B : Nat} {T : Tb} {Ag Ab Af : Option Addr} {N cg M cb F cf : Nat} {b : Bool} (h : RowT W B T Ag N cg Ab M cb Af F cf) (hs : Sm T) (id : Int) (hid : id ≤ 9223372036854775807) (hq : hasT T id = b) : Calls Try.prog 15 #[.agg #[.slice Ag N cg, .slice Ab M cb, .slice Af F cf], .int .i64 id] W fun e w' => e = .returned (.bool b) ∧ Below W.heap.size W w' := hq ▸ hasT_any (h.sm hs) id hid
theorem right_at {W : World} {B : Nat} {T : Tb} {Ag Ab Af : Option Addr} {N cg M cb F cf : Nat} {b : Bool} (h : RowT W B T Ag N cg Ab M cb Af F cf) (hs : Sm T) (hq : okT T = b) : Calls Try.prog 16 #[.agg #[.slice Ag N cg, .slice Ab M cb, .slice Af F cf]] W fun e w' => e = .returned (.bool b) ∧ Below W.heap.size W w' := hq ▸ right_any (h.sm hs)

theorem t0 : newT 2 = ⟨[0, 0], [false, false], [0, 1]⟩ := by kernel_rfl
theorem t1 : takeT ⟨[0, 0], [false, false], [0, 1]⟩ = (⟨[0, 0], [true, false], [1]⟩, 0, 0) := by kernel_rfl
theorem t2 : takeT ⟨[0, 0], [true, false], [1]⟩ = (⟨[0, 0], [true, true], []⟩, 1, 0) := by kernel_rfl
theorem t3 : takeT ⟨[0, 0], [true, true], []⟩ = (⟨[0, 0], [true, true], []⟩, 0, 4) := by kernel_rfl
theorem t4 : giveT ⟨[0, 0], [true, true], []⟩ 0 = (⟨[1, 0], [false, true], [0]⟩, 0) := by kernel_rfl
theorem t5 : takeT ⟨[1, 0], [false, true], [0]⟩ = (⟨[1, 0], [true, true], []⟩, 2, 0) := by kernel_rfl
theorem t6 : giveT ⟨[1, 0], [true, true], []⟩ 0 = (⟨[1, 0], [true, true], []⟩, 5) := by kernel_rfl
theorem t7 : hasT ⟨[1, 0], [true, true], []⟩ 2 = true := by kernel_rfl
theorem t8 : hasT ⟨[1, 0], [true, true], []⟩ 0 = false := by kernel_rfl
theorem t9 : okT ⟨[1, 0], [true, true], []⟩ = true := by kernel_rfl
theorem t10 : okT ⟨[], [], []⟩ = false := by kernel_rfl

set_option maxRecDepth 100000 in
set_option maxHeartbeats 4000000 in
theorem awake_any (w : World) : Calls Try.prog 7 #[] w fun e w' => e = .returned (.bool true) ∧ Below w.heap.size w w' := by
  go_enter Try.func7, Try.ntmps7
  go_wp2_with fail
  refine (new_at 2 t0).mono ?_
  rintro e w1 ⟨A0, N0, p0, B0, M0, q0, C0, F0, r0, rfl, h1, hb1⟩
  go_wp2_with fail
  refine (take_at h1 (sm_dec (by kernel_rfl)) t1).mono ?_
  rintro e w2 ⟨A1, N1, p1, B1, M1, q1, C1, F1, r1, rfl, h2, hb2⟩
  have hw2 := bon hb1 hb2
  clear h1 hb1 hb2
  go_wp2_with fail
  have k2 := h2.up (ba1 w2 (.cells #[.slice A1 N1 p1, .slice B1 M1 q1, .slice C1 F1 r1] 25))
  refine (take_at k2 (sm_dec (by kernel_rfl)) t2).mono ?_
  rintro e w3 ⟨A2, N2, p2, B2, M2, q2, C2, F2, r2, rfl, h3, hb3⟩
  have b3 := (Box.new w2 25 #[.slice A1 N1 p1, .slice B1 M1 q1, .slice C1 F1 r1]).up hb3
  have hw3 := bon (bon hw2 (ba1 _ _)) hb3
  have hg : w.heap.size ≤ w2.heap.size := hw2.size
  generalize w2.heap.size = g at *
  clear h2 k2 hw2 hb3
  obtain ⟨⟨c0, c1, c2⟩, f0, f1, f2⟩ := b3.three
  go_wp2_with fail
  clear c0 c1 c2 f0 f1 f2
  have b4 := b3.set3 (.slice A2 N2 p2) (.slice B2 M2 q2) (.slice C2 F2 r2)
  have h4 := h3.far3 b3 (by decide) (by decide) (.slice A2 N2 p2) (.slice B2 M2 q2) (.slice C2 F2 r2)
  have hw4 := below_set3 hw3 hg (.slice A2 N2 p2) (.slice B2 M2 q2) (.slice C2 F2 r2)
  generalize ((w3.setCell ⟨g, 0, none⟩ (.slice A2 N2 p2)).setCell ⟨g, 1, none⟩ (.slice B2 M2 q2)).setCell ⟨g, 2, none⟩ (.slice C2 F2 r2) = W4 at *
  clear b3 h3 hw3
  refine (take_at h4 (sm_dec (by kernel_rfl)) t3).mono ?_
  rintro e w5 ⟨A5, N5, p5, B5, M5, q5, C5, F5, r5, rfl, _, hb5⟩
  have b5 := b4.up hb5
  have h5 := h4.up hb5
  have hw5 := bon hw4 hb5
  clear b4 h4 hw4 hb5
  obtain ⟨⟨c0, c1, c2⟩, f0, f1, f2⟩ := b5.three
  have hlt := b5.lt
  go_wp2_with fail
  clear c0 c1 c2 f0 f1 f2 hlt
  refine (give_at (h5.up (ba1 _ _)) (sm_dec (by kernel_rfl)) 0 (by omega) t4).mono ?_
  rintro e w6 ⟨A6, N6, p6, B6, M6, q6, C6, F6, r6, rfl, h6, hb6⟩
  have hw6 := bon (bon hw5 (ba1 _ _)) hb6
  clear b5 h5 hw5 hb6 hg
  go_wp2_with fail
  refine (take_at (h6.up (ba1 _ _)) (sm_dec (by kernel_rfl)) t5).mono ?_
  rintro e w7 ⟨A7, N7, p7, B7, M7, q7, C7, F7, r7, rfl, h7, hb7⟩
  have b7 := (Box.new w6 25 #[.slice A6 N6 p6, .slice B6 M6 q6, .slice C6 F6 r6]).up hb7
  have hw7 := bon (bon hw6 (ba1 _ _)) hb7
  have hg : w.heap.size ≤ w6.heap.size := hw6.size
  generalize w6.heap.size = g2 at *
  clear h6 hw6 hb7
  obtain ⟨⟨c0, c1, c2⟩, f0, f1, f2⟩ := b7.three
  go_wp2_with fail
  clear c0 c1 c2 f0 f1 f2
  have b8 := b7.set3 (.slice A7 N7 p7) (.slice B7 M7 q7) (.slice C7 F7 r7)
  have h8 := h7.far3 b7 (by decide) (by decide) (.slice A7 N7 p7) (.slice B7 M7 q7) (.slice C7 F7 r7)
  have hw8 := below_set3 hw7 hg (.slice A7 N7 p7) (.slice B7 M7 q7) (.slice C7 F7 r7)
  generalize ((w7.setCell ⟨g2, 0, none⟩ (.slice A7 N7 p7)).setCell ⟨g2, 1, none⟩ (.slice B7 M7 q7)).setCell ⟨g2, 2, none⟩ (.slice C7 F7 r7) = W8 at *
  clear b7 h7 hw7
  refine (give_at h8 (sm_dec (by kernel_rfl)) 0 (by omega) t6).mono ?_
  rintro e w9 ⟨A9, N9, p9, B9, M9, q9, C9, F9, r9, rfl, _, hb9⟩
  have b9 := (b8.up hb9).alloc (.cells #[.slice A9 N9 p9, .slice B9 M9 q9, .slice C9 F9 r9] 25)
  have h9 := (h8.up hb9).up (ba1 _ (.cells #[.slice A9 N9 p9, .slice B9 M9 q9, .slice C9 F9 r9] 25))
  have hw9 := bon (bon hw8 hb9) (ba1 _ (.cells #[.slice A9 N9 p9, .slice B9 M9 q9, .slice C9 F9 r9] 25))
  clear b8 h8 hw8 hb9
  obtain ⟨⟨c0, c1, c2⟩, _⟩ := b9.three
  go_wp2_with fail
  clear c0 c1 c2
  refine (has_at h9 (sm_dec (by kernel_rfl)) 2 (by omega) t7).mono ?_
  rintro e w10 ⟨rfl, hb10⟩
  have b10 := b9.up hb10
  have h10 := h9.up hb10
  have hw10 := bon hw9 hb10
  clear b9 h9 hw9 hb10
  obtain ⟨⟨c0, c1, c2⟩, _⟩ := b10.three
  go_wp2_with fail
  clear c0 c1 c2
  refine (has_at h10 (sm_dec (by kernel_rfl)) 0 (by omega) t8).mono ?_
  rintro e w11 ⟨rfl, hb11⟩
  have b11 := b10.up hb11
  have h11 := h10.up hb11
  have hw11 := bon hw10 hb11
  clear b10 h10 hw10 hb11
  obtain ⟨⟨c0, c1, c2⟩, _⟩ := b11.three
  go_wp2_with fail
  clear c0 c1 c2
  refine (right_at h11 (sm_dec (by kernel_rfl)) t9).mono ?_
  rintro e w12 ⟨rfl, hb12⟩
  go_wp2_with fail
  refine (right_at (rowT_nil w12 0) (sm_dec (by kernel_rfl)) t10).mono ?_
  rintro e w13 ⟨rfl, hb13⟩
  go_wp2
  go_ret
  exact ⟨rfl, bon (bon hw11 hb12) hb13⟩

end Go.Proofs.Ytkglgbbekmljcaa
