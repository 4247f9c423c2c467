/-
  The walk of the laws' own 'told': of whatever table, ids and the document's own answer tell the same.
-/
import Derived.Test.YtkglgbbekmljcaaAwake
import Derived.Test.YtkglgbbekmljcaaRef3
import Derived.Test.YtkglgbbekmljcaaRef4
import Derived.Test.YtkglgbbekmljcaaSame
import Derived.Deep.RegionHeld3
namespace Go.Proofs.Ytkglgbbekmljcaa
open Go.RowKit

theorem At.sm {w : World} {T : Tb} {Ag Ab Af : Option Addr} {N cg M cb F cf : Nat} (h : At w T Ag N cg Ab M cb Af F cf) : Sm T := ⟨h.lg ▸ h.hN, h.lb ▸ h.hM, h.lf ▸ h.hF, h.wf⟩

theorem sm_take {T : Tb} (h : Sm T) : Sm (takeT T).1 := by
  unfold takeT
  split
  · split
    · exact h
    · next k r hf =>
      refine ⟨h.g, by simpa using h.b, ?_, fun x hx => h.w x (by rw [hf]; simp [hx])⟩
      have := h.f
      rw [hf] at this
      simp at this
      simp only
      omega
  · exact h

theorem sm_give {T : Tb} (id : Int) (h : Sm T) : Sm (giveT T id).1 := by
  unfold giveT
  split
  · next hok =>
    obtain ⟨o1, o2, o3, o4, o5⟩ := ok_true hok
    have hl := o5.length_eq
    rw [length_nb] at hl
    have hw := wants_le T.busy T.gens.length
    split
    · split
      · exact h
      · refine ⟨by simpa using h.g, by simpa using h.b, by simp; omega, fun x hx => ?_⟩
        simp only [List.mem_append, List.mem_singleton] at hx
        rcases hx with hx | rfl
        · exact h.w x hx
        · have e0 := Int.emod_nonneg id (show (T.gens.length : Int) ≠ 0 by omega)
          have e1 := Int.emod_lt_of_pos id (show (0 : Int) < T.gens.length by omega)
          exact wf_small (by omega) (by omega)
    · exact h
  · exact h

theorem RowT.lens {w : World} {B : Nat} {T : Tb} {Ag Ab Af : Option Addr} {N cg M cb F cf : Nat} (h : RowT w B T Ag N cg Ab M cb Af F cf) : T.gens.length = N ∧ T.busy.length = M ∧ T.free.length = F := ⟨by simpa using h.g.1, by simpa using h.b.1, by simpa using h.f.1⟩

theorem toldS {W5 X w' : World} {a0 a1 a2 a3 a4 a5 a6 a7 a8 a9 a10 a11 a12 a13 a14 : Addr} {v0 v1 v2 v3 v4 v5 v6 v7 v8 v9 v10 v11 v12 v13 v14 : Value} (hb : Below X.heap.size X w')
    (h : Below W5.heap.size W5 X ∧ X.cell? a0 = some v0 ∧ X.cell? a1 = some v1 ∧ X.cell? a2 = some v2 ∧ X.cell? a3 = some v3 ∧ X.cell? a4 = some v4 ∧ X.cell? a5 = some v5 ∧ X.cell? a6 = some v6 ∧ X.cell? a7 = some v7 ∧ X.cell? a8 = some v8 ∧ X.cell? a9 = some v9 ∧ X.cell? a10 = some v10 ∧ X.cell? a11 = some v11 ∧ X.cell? a12 = some v12 ∧ X.cell? a13 = some v13 ∧ X.cell? a14 = some v14) :
    Below W5.heap.size W5 w' ∧ w'.cell? a0 = some v0 ∧ w'.cell? a1 = some v1 ∧ w'.cell? a2 = some v2 ∧ w'.cell? a3 = some v3 ∧ w'.cell? a4 = some v4 ∧ w'.cell? a5 = some v5 ∧ w'.cell? a6 = some v6 ∧ w'.cell? a7 = some v7 ∧ w'.cell? a8 = some v8 ∧ w'.cell? a9 = some v9 ∧ w'.cell? a10 = some v10 ∧ w'.cell? a11 = some v11 ∧ w'.cell? a12 = some v12 ∧ w'.cell? a13 = some v13 ∧ w'.cell? a14 = some v14 := by
  obtain ⟨h, h0, h1, h2, h3, h4, h5, h6, h7, h8, h9, h10, h11, h12, h13, h14⟩ := h
  exact ⟨bon h hb, cell_up hb h0, cell_up hb h1, cell_up hb h2, cell_up hb h3, cell_up hb h4, cell_up hb h5, cell_up hb h6, cell_up hb h7, cell_up hb h8, cell_up hb h9, cell_up hb h10, cell_up hb h11, cell_up hb h12, cell_up hb h13, cell_up hb h14⟩

set_option maxRecDepth 100000 in
set_option maxHeartbeats 8000000 in
theorem told_any {Ag Ab Af : Option Addr} {N cg M cb F cf : Nat} {T : Tb} {w : World} (h : At w T Ag N cg Ab M cb Af F cf) (id : Int) (hid : id ≤ 9223372036854775807) :
    Calls Try.prog 8 #[tv Ag N cg Ab M cb Af F cf, .int .i64 id] w fun e w' => e = .returned (.bool true) ∧ Below w.heap.size w w' := by
  obtain ⟨⟨T1, x1, y1⟩, hq1⟩ : ∃ q, takeT T = q := ⟨_, rfl⟩
  obtain ⟨⟨T2, y2⟩, hq2⟩ : ∃ q, giveT T id = q := ⟨_, rfl⟩
  have HS1 : Hid (Sm T1) := Lib.hid (by have := sm_take h.sm; rw [hq1] at this; exact this)
  have HS2 : Hid (Sm T2) := Lib.hid (by have := sm_give id h.sm; rw [hq2] at this; exact this)
  have HTA : Hid (∀ W, At W T Ag N cg Ab M cb Af F cf → Calls Try.prog 13 #[.agg #[.slice Ag N cg, .slice Ab M cb, .slice Af F cf]] W (TakeEnds (T1, x1, y1) W)) := Lib.hid (fun W hw => hq1 ▸ take_any hw)
  have HRA : Hid (∀ W, At W T Ag N cg Ab M cb Af F cf → Calls Try.prog 17 #[.agg #[.slice Ag N cg, .slice Ab M cb, .slice Af F cf]] W (TakeEnds (T1, x1, y1) W)) := Lib.hid (fun W hw => hq1 ▸ rtake_any hw)
  have HGA : Hid (∀ W, At W T Ag N cg Ab M cb Af F cf → Calls Try.prog 14 #[.agg #[.slice Ag N cg, .slice Ab M cb, .slice Af F cf], .int .i64 id] W (GiveEnds (T2, y2) W)) := Lib.hid (fun W hw => hq2 ▸ give_any hw id hid)
  have HRG : Hid (∀ W, At W T Ag N cg Ab M cb Af F cf → Calls Try.prog 18 #[.agg #[.slice Ag N cg, .slice Ab M cb, .slice Af F cf], .int .i64 id] W (GiveEnds (T2, y2) W)) := Lib.hid (fun W hw => hq2 ▸ rgive_any hw id hid)
  have HH := Lib.hid h
  clear h hq1 hq2
  unfold tv
  go_enter Try.func8, Try.ntmps8
  go_wp2_with fail
  refine (HTA.out _ (HH.out.up (ba1 _ _))).mono ?_
  rintro e w1 ⟨A1, N1, p1, B1, M1, q1, C1, F1, r1, rfl, k1, hb1⟩
  have b2 := (Box.new w 25 #[.slice Ag N cg, .slice Ab M cb, .slice Af F cf]).up hb1
  have hw1 := bon (ba1 w _) hb1
  obtain ⟨g2, hg2⟩ : ∃ g2, w.heap.size = g2 := ⟨_, rfl⟩
  rw [hg2] at b2 ⊢
  have HG2 := Lib.hid hg2
  clear hg2 hb1
  obtain ⟨⟨c0, d1, d2⟩, _⟩ := b2.three
  have l1 := b2.lt
  go_wp2_with fail
  have hwa := bon hw1 (ba1 w1 (.cells #[.slice A1 N1 p1, .slice B1 M1 q1, .slice C1 F1 r1] 25))
  refine (HRA.out _ (HH.out.up hwa)).mono ?_
  rintro e w2 ⟨A2, N2, p2, B2, M2, q2, C2, F2, r2, rfl, k2, hb2⟩
  obtain ⟨n1, n2, n3⟩ := k1.lens
  obtain ⟨m1, m2, m3⟩ := k2.lens
  simp only at n1 n2 n3 m1 m2 m3
  obtain rfl : N2 = N1 := by omega
  obtain rfl : M2 = M1 := by omega
  obtain rfl : F2 = F1 := by omega
  clear n1 n2 n3 m1 m2 m3
  have a2 := (b2.alloc (.cells #[.slice A1 N2 p1, .slice B1 M2 q1, .slice C1 F2 r1] 25)).up hb2
  have a5 := (Box.new w1 25 #[.slice A1 N2 p1, .slice B1 M2 q1, .slice C1 F2 r1]).up hb2
  have s1 := (k1.up (ba1 w1 (.cells #[.slice A1 N2 p1, .slice B1 M2 q1, .slice C1 F2 r1] 25))).up hb2
  have hw2 := bon hwa hb2
  obtain ⟨g5, hg5⟩ : ∃ g5, w1.heap.size = g5 := ⟨_, rfl⟩
  rw [hg5] at a5 ⊢
  clear c0 d1 d2 b2 l1 hwa hw1 k1 hb2 hg5
  obtain ⟨⟨c0, d1, d2⟩, _⟩ := a2.three
  have l1 := a2.lt
  go_wp2_with fail
  have hwa := bon hw2 (ba1 w2 (.cells #[.slice A2 N2 p2, .slice B2 M2 q2, .slice C2 F2 r2] 25))
  refine (HGA.out _ (HH.out.up hwa)).mono ?_
  rintro e w3 ⟨A3, N3, p3, B3, M3, q3, C3, F3, r3, rfl, k3, hb3⟩
  have b2 := (a2.alloc (.cells #[.slice A2 N2 p2, .slice B2 M2 q2, .slice C2 F2 r2] 25)).up hb3
  have b5 := (a5.alloc (.cells #[.slice A2 N2 p2, .slice B2 M2 q2, .slice C2 F2 r2] 25)).up hb3
  have b8 := (Box.new w2 25 #[.slice A2 N2 p2, .slice B2 M2 q2, .slice C2 F2 r2]).up hb3
  have t1 := (s1.up (ba1 w2 (.cells #[.slice A2 N2 p2, .slice B2 M2 q2, .slice C2 F2 r2] 25))).up hb3
  have t2 := (k2.up (ba1 w2 (.cells #[.slice A2 N2 p2, .slice B2 M2 q2, .slice C2 F2 r2] 25))).up hb3
  have hw3 := bon hwa hb3
  obtain ⟨g8, hg8⟩ : ∃ g8, w2.heap.size = g8 := ⟨_, rfl⟩
  rw [hg8] at b8 ⊢
  clear c0 d1 d2 a2 a5 l1 hwa hw2 s1 k2 hb3 hg8
  obtain ⟨⟨c0, d1, d2⟩, _⟩ := b2.three
  have l1 := b2.lt
  go_wp2_with fail
  have hwa := bon hw3 (ba1 w3 (.cells #[.slice A3 N3 p3, .slice B3 M3 q3, .slice C3 F3 r3] 25))
  refine (HRG.out _ (HH.out.up hwa)).mono ?_
  rintro e w4 ⟨A4, N4, p4, B4, M4, q4, C4, F4, r4, rfl, k4, hb4⟩
  obtain ⟨n1, n2, n3⟩ := k3.lens
  obtain ⟨m1, m2, m3⟩ := k4.lens
  simp only at n1 n2 n3 m1 m2 m3
  obtain rfl : N4 = N3 := by omega
  obtain rfl : M4 = M3 := by omega
  obtain rfl : F4 = F3 := by omega
  clear n1 n2 n3 m1 m2 m3
  have a2 := ((b2.alloc (.cells #[.slice A3 N4 p3, .slice B3 M4 q3, .slice C3 F4 r3] 25)).up hb4).alloc (.cells #[.slice A4 N4 p4, .slice B4 M4 q4, .slice C4 F4 r4] 25)
  have a5 := ((b5.alloc (.cells #[.slice A3 N4 p3, .slice B3 M4 q3, .slice C3 F4 r3] 25)).up hb4).alloc (.cells #[.slice A4 N4 p4, .slice B4 M4 q4, .slice C4 F4 r4] 25)
  have a8 := ((b8.alloc (.cells #[.slice A3 N4 p3, .slice B3 M4 q3, .slice C3 F4 r3] 25)).up hb4).alloc (.cells #[.slice A4 N4 p4, .slice B4 M4 q4, .slice C4 F4 r4] 25)
  have a11 := ((Box.new w3 25 #[.slice A3 N4 p3, .slice B3 M4 q3, .slice C3 F4 r3]).up hb4).alloc (.cells #[.slice A4 N4 p4, .slice B4 M4 q4, .slice C4 F4 r4] 25)
  have a13 := Box.new w4 25 #[.slice A4 N4 p4, .slice B4 M4 q4, .slice C4 F4 r4]
  have s1 := ((t1.up (ba1 w3 (.cells #[.slice A3 N4 p3, .slice B3 M4 q3, .slice C3 F4 r3] 25))).up hb4).up (ba1 w4 (.cells #[.slice A4 N4 p4, .slice B4 M4 q4, .slice C4 F4 r4] 25))
  have s2 := ((t2.up (ba1 w3 (.cells #[.slice A3 N4 p3, .slice B3 M4 q3, .slice C3 F4 r3] 25))).up hb4).up (ba1 w4 (.cells #[.slice A4 N4 p4, .slice B4 M4 q4, .slice C4 F4 r4] 25))
  have s3 := ((k3.up (ba1 w3 (.cells #[.slice A3 N4 p3, .slice B3 M4 q3, .slice C3 F4 r3] 25))).up hb4).up (ba1 w4 (.cells #[.slice A4 N4 p4, .slice B4 M4 q4, .slice C4 F4 r4] 25))
  have s4 := k4.up (ba1 w4 (.cells #[.slice A4 N4 p4, .slice B4 M4 q4, .slice C4 F4 r4] 25))
  have hw5 := bon (bon hwa hb4) (ba1 w4 (.cells #[.slice A4 N4 p4, .slice B4 M4 q4, .slice C4 F4 r4] 25))
  obtain ⟨g11, hg11⟩ : ∃ g11, w3.heap.size = g11 := ⟨_, rfl⟩
  obtain ⟨g13, hg13⟩ : ∃ g13, w4.heap.size = g13 := ⟨_, rfl⟩
  rw [hg11] at a11 ⊢
  rw [hg13] at a13
  clear c0 d1 d2 b2 b5 b8 l1 hwa hw3 t1 t2 k3 k4 hb4 hg11
  go_wp2_with fail
  clear hg13
  generalize w4.alloc (.cells #[.slice A4 N4 p4, .slice B4 M4 q4, .slice C4 F4 r4] 25) = W5 at *
  have HZ1 := Lib.hid (s1.sm HS1.out)
  have HZ2 := Lib.hid (s2.sm HS1.out)
  have HZ3 := Lib.hid (s3.sm HS2.out)
  have HZ4 := Lib.hid (s4.sm HS2.out)
  have HZ0 := Lib.hid (HH.out.up hw5)
  have HW5 := Lib.hid hw5
  clear s1 s2 s3 s4 hw5
  obtain ⟨⟨p0, p1', p2'⟩, _⟩ := a2.three
  obtain ⟨⟨p3', p4', p5'⟩, _⟩ := a5.three
  obtain ⟨⟨p6', p7', p8'⟩, _⟩ := a8.three
  obtain ⟨⟨p9', p10', p11'⟩, _⟩ := a11.three
  obtain ⟨⟨p12', p13', p14'⟩, _⟩ := a13.three
  clear a2 a5 a8 a11 a13
  have HR1 : Hid (∀ W, Below W5.heap.size W5 W → Calls Try.prog 16 #[.agg #[.slice Ag N cg, .slice Ab M cb, .slice Af F cf]] W fun e w' => e = .returned (.bool (okT T)) ∧ Below W.heap.size W w') := Lib.hid (fun W hb => right_any (HZ0.out.up hb))
  have HR2 : Hid (∀ W, Below W5.heap.size W5 W → Calls Try.prog 19 #[.agg #[.slice Ag N cg, .slice Ab M cb, .slice Af F cf]] W fun e w' => e = .returned (.bool (okT T)) ∧ Below W.heap.size W w') := Lib.hid (fun W hb => rright_any (HZ0.out.up hb))
  have HR3 : Hid (∀ W, Below W5.heap.size W5 W → Calls Try.prog 15 #[.agg #[.slice Ag N cg, .slice Ab M cb, .slice Af F cf], .int .i64 id] W fun e w' => e = .returned (.bool (hasT T id)) ∧ Below W.heap.size W w') := Lib.hid (fun W hb => hasT_any (HZ0.out.up hb) id hid)
  have HR4 : Hid (∀ W, Below W5.heap.size W5 W → Calls Try.prog 20 #[.agg #[.slice Ag N cg, .slice Ab M cb, .slice Af F cf], .int .i64 id] W fun e w' => e = .returned (.bool (hasT T id)) ∧ Below W.heap.size W w') := Lib.hid (fun W hb => rhas_any (HZ0.out.up hb) id hid)
  have HR5 : Hid (∀ W, Below W5.heap.size W5 W → Calls Try.prog 9 #[.agg #[.slice A1 N2 p1, .slice B1 M2 q1, .slice C1 F2 r1], .agg #[.slice A2 N2 p2, .slice B2 M2 q2, .slice C2 F2 r2]] W fun e w' => e = .returned (.bool true) ∧ Below W.heap.size W w') := Lib.hid (fun W hb => same_any (HZ1.out.up hb) (HZ2.out.up hb))
  have HR6 : Hid (∀ W, Below W5.heap.size W5 W → Calls Try.prog 9 #[.agg #[.slice A3 N4 p3, .slice B3 M4 q3, .slice C3 F4 r3], .agg #[.slice A4 N4 p4, .slice B4 M4 q4, .slice C4 F4 r4]] W fun e w' => e = .returned (.bool true) ∧ Below W.heap.size W w') := Lib.hid (fun W hb => same_any (HZ3.out.up hb) (HZ4.out.up hb))
  generalize okT T = bo at *
  generalize hasT T id = bh at *
  go_region_held3 (fun w' => Below W5.heap.size W5 w' ∧ w'.cell? ⟨g2, 0, none⟩ = some (.slice Ag N cg) ∧ w'.cell? ⟨g2, 1, none⟩ = some (.slice Ab M cb) ∧ w'.cell? ⟨g2, 2, none⟩ = some (.slice Af F cf) ∧ w'.cell? ⟨g5, 0, none⟩ = some (.slice A1 N2 p1) ∧ w'.cell? ⟨g5, 1, none⟩ = some (.slice B1 M2 q1) ∧ w'.cell? ⟨g5, 2, none⟩ = some (.slice C1 F2 r1) ∧ w'.cell? ⟨g8, 0, none⟩ = some (.slice A2 N2 p2) ∧ w'.cell? ⟨g8, 1, none⟩ = some (.slice B2 M2 q2) ∧ w'.cell? ⟨g8, 2, none⟩ = some (.slice C2 F2 r2) ∧ w'.cell? ⟨g11, 0, none⟩ = some (.slice A3 N4 p3) ∧ w'.cell? ⟨g11, 1, none⟩ = some (.slice B3 M4 q3) ∧ w'.cell? ⟨g11, 2, none⟩ = some (.slice C3 F4 r3) ∧ w'.cell? ⟨g13, 0, none⟩ = some (.slice A4 N4 p4) ∧ w'.cell? ⟨g13, 1, none⟩ = some (.slice B4 M4 q4) ∧ w'.cell? ⟨g13, 2, none⟩ = some (.slice C4 F4 r4))
    (first | exact toldS hbP (by assumption) | exact ⟨(Below.refl _ _).drew, p0, p1', p2', p3', p4', p5', p6', p7', p8', p9', p10', p11', p12', p13', p14'⟩)
    (first
      | (go_at_call 16; refine (HR1.out _ ?_).mono ?_; (simp only [*]); rintro e wP ⟨rfl, hbP⟩)
      | (go_at_call 19; refine (HR2.out _ ?_).mono ?_; (simp only [*]); rintro e wP ⟨rfl, hbP⟩)
      | (go_at_call 15; refine (HR3.out _ ?_).mono ?_; (simp only [*]); rintro e wP ⟨rfl, hbP⟩)
      | (go_at_call 20; refine (HR4.out _ ?_).mono ?_; (simp only [*]); rintro e wP ⟨rfl, hbP⟩)
      | (go_at_call_of 9 (Value.agg #[Value.slice A1 N2 p1, Value.slice B1 M2 q1, Value.slice C1 F2 r1]); refine (HR5.out _ ?_).mono ?_; (simp only [*]); rintro e wP ⟨rfl, hbP⟩)
      | (go_at_call_of 9 (Value.agg #[Value.slice A3 N4 p3, Value.slice B3 M4 q3, Value.slice C3 F4 r3]); refine (HR6.out _ ?_).mono ?_; (simp only [*]); rintro e wP ⟨rfl, hbP⟩))
  rename_i hHeld
  have hfin : Below W5.heap.size W5 wP := hHeld.1
  clear hHeld
  go_wp2
  go_ret
  exact ⟨rfl, bon HW5.out hfin⟩

end Go.Proofs.Ytkglgbbekmljcaa
