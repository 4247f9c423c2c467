/-
  The walk of the laws' own 'awake'.
-/
import Derived.Test.YtncbfkoldllbpaaWm2
namespace Go.Proofs.Ytncbfkoldllbpaa
open Go.RowKit

def hasL (W : Wl) (id : Int) : Bool := (List.range 8).any (fun i => (W.sl i).any (fun t => t.1 == id))
theorem hasL_iff {W : Wl} {id : Int} : hasL W id = true ↔ hasN W id := by
  rw [has_mem]
  simp only [hasL, List.any_eq_true, List.mem_range, beq_iff_eq]
theorem hasL_not {W : Wl} {id : Int} (h : hasL W id = false) : ¬ hasN W id := fun hh => by rw [← hasL_iff, h] at hh; cases hh

def V1 : Wl := W0.put 2 (W0.sl 2 ++ [(7, 2)])
def V2 : Wl := V1.put 2 (V1.sl 2 ++ [(9, 10)])
def V3 : Wl := V2.tick
def V4 : Wl := V3.tick
def Vn : Wl := ⟨-1, fun _ => []⟩
theorem ok_V1 : Ok V1 := ok_put ok_W0 (by decide) (by decide) (by decide) (hasL_not (by decide)) (by decide) (by decide)
theorem ok_V2 : Ok V2 := ok_put ok_V1 (by decide) (by decide) (by decide) (hasL_not (by decide)) (by decide) (by decide)
theorem ok_V3 : Ok V3 := ok_tick ok_V2 (by decide)
theorem ok_V4 : Ok V4 := ok_tick ok_V3 (by decide)
theorem wf_V1 : Wf V1 := wf_put wf_W0 ⟨by decide, by decide⟩ ⟨by decide, by decide⟩ 2
theorem wf_V2 : Wf V2 := wf_put wf_V1 ⟨by decide, by decide⟩ ⟨by decide, by decide⟩ 2
theorem wf_V3 : Wf V3 := wf_sub wf_V2 (fun i _ => tick_sub V2 i) ⟨by decide, by decide⟩
theorem wf_V4 : Wf V4 := wf_sub wf_V3 (fun i _ => tick_sub V3 i) ⟨by decide, by decide⟩
theorem wf_Vn : Wf Vn := ⟨⟨by decide, by decide⟩, fun i _ t ht => by cases ht⟩
theorem ok_Vn : okB Vn = false := ok_not.2 (fun h => absurd h.lo (by decide))
/-- a wheel's box holds no timers -/
theorem Ts.ne_box {w : World} {A : Option Addr} {xs : List Tm} (h : Ts w A xs) {g : Nat} {now : Int} {T : Nat → Sli} (hb : Box w g 25 (wcs now T)) (hx : 0 < xs.length) : ∀ q, A = some q → q.block ≠ g := by
  intro q hq he
  obtain ⟨b, o, hA, _, hc⟩ := h hx
  rw [hA] at hq
  obtain rfl := Option.some.inj hq
  simp only at he
  subst he
  obtain ⟨c0, c1⟩ := hc 0 hx
  have e : ∀ i, w.cell? ⟨b, i, none⟩ = (wcs now T)[i]? := fun i => cell_of_row w b i _ 25 (0, 0) hb
  rw [e] at c0 c1
  simp only [Nat.zero_mul, Nat.add_zero] at c0 c1
  match o, c0, c1 with
  | 0, _, c1 => simp at c1
  | 1, c0, _ => simp at c0
  | 2, c0, _ => simp at c0
  | 3, c0, _ => simp at c0
  | 4, c0, _ => simp at c0
  | 5, c0, _ => simp at c0
  | 6, c0, _ => simp at c0
  | 7, c0, _ => simp at c0
  | 8, c0, _ => simp at c0
  | o + 9, c0, _ => simp at c0
theorem Ts.keep {w w' : World} {A : Option Addr} {xs : List Tm} (h : Ts w A xs) (hs : w.heap.size ≤ w'.heap.size) (hk : 0 < xs.length → ∀ q, A = some q → w'.heap[q.block]? = w.heap[q.block]?) : Ts w' A xs := by
  intro hx
  obtain ⟨b, o, hA, hl, hc⟩ := h hx
  have hh := hk hx _ hA
  refine ⟨b, o, hA, Nat.lt_of_lt_of_le hl hs, fun j hj => ?_⟩
  have e : ∀ i, w'.cell? ⟨b, i, none⟩ = w.cell? ⟨b, i, none⟩ := fun i => by simp only [World.cell?]; simp only at hh; rw [hh]
  rw [e, e]
  exact hc j hj
theorem At.far9 {w : World} {W : Wl} {S : Nat → Sli} (h : At w W S) {g : Nat} {now : Int} {T : Nat → Sli} (hb : Box w g 25 (wcs now T)) (v0 v1 v2 v3 v4 v5 v6 v7 v8 : Value) : At (((((((((w.setCell ⟨g, 0, none⟩ v0).setCell ⟨g, 1, none⟩ v1).setCell ⟨g, 2, none⟩ v2).setCell ⟨g, 3, none⟩ v3).setCell ⟨g, 4, none⟩ v4).setCell ⟨g, 5, none⟩ v5).setCell ⟨g, 6, none⟩ v6).setCell ⟨g, 7, none⟩ v7).setCell ⟨g, 8, none⟩ v8) W S :=
  ⟨h.len, fun i hi => (h.ts i hi).keep (by rw [size_set9]; exact Nat.le_refl _) (fun hx q hq => heap_set9 w g v0 v1 v2 v3 v4 v5 v6 v7 v8 ((h.ts i hi).ne_box hb hx q hq)), h.cap, h.le⟩
theorem s1 : setN W0 7 2 = (V1, 0) := set_yes ok_W0 (by decide) (by decide) (by decide) (hasL_not (by decide)) (by decide) (by decide)
theorem s2 : setN V1 9 10 = (V2, 0) := set_yes ok_V1 (by decide) (by decide) (by decide) (hasL_not (by decide)) (by decide) (by decide)
theorem s3 : setN V2 9 3 = (V2, 6) := set_busy ok_V2 (by decide) (by decide) (by decide) (hasL_iff.1 (by decide))
theorem t1 : tickN V2 = (V3, [], 0) := (tick_yes ok_V2 (by decide)).trans (by rw [show V2.due = [] by decide]; rfl)
theorem t2 : tickN V3 = (V4, [7], 0) := (tick_yes ok_V3 (by decide)).trans (by rw [show V3.due = [7] by decide]; rfl)
theorem c1 : cancelN V4 7 = (V4, 5) := cancel_none ok_V4 (hasL_not (by decide))
theorem c2 : cancelN V4 9 = (V4.drop 9, 0) := cancel_yes ok_V4 (hasL_iff.1 (by decide))

/-- eight slices that are nil -/
def SN : Nat → Sli := fun _ => ⟨none, 0, 0⟩
theorem at_nil (w : World) (now : Int) : At w ⟨now, fun _ => []⟩ SN := ⟨fun _ _ => rfl, fun _ _ => Ts.nil _ _, fun _ _ _ => rfl, fun _ _ => ⟨Nat.le_refl _, Nat.zero_le _⟩⟩

set_option maxRecDepth 100000 in
set_option maxHeartbeats 4000000 in
theorem awake_any (P : P4) (w : World) : Calls Try.prog 7 #[] w (BoolEnds true w) := by
  have H1 : Hid (∀ X, Calls Try.prog 13 #[wv 0 SN, .int .i64 7, .int .i64 2] X (WhR (V1, 0) X)) := Lib.hid (fun X => s1 ▸ P.set W0 SN 7 2 X (at_nil X 0) wf_W0 (by decide) ⟨by decide, by decide⟩ ⟨by decide, by decide⟩)
  have H2 : Hid (∀ X T, At X V1 T → Calls Try.prog 13 #[wv 0 T, .int .i64 9, .int .i64 10] X (WhR (V2, 0) X)) := Lib.hid (fun X T h => s2 ▸ P.set V1 T 9 10 X h wf_V1 (by decide) ⟨by decide, by decide⟩ ⟨by decide, by decide⟩)
  have H3 : Hid (∀ X T, At X V2 T → Calls Try.prog 13 #[wv 0 T, .int .i64 9, .int .i64 3] X (WhR (V2, 6) X)) := Lib.hid (fun X T h => s3 ▸ P.set V2 T 9 3 X h wf_V2 (by decide) ⟨by decide, by decide⟩ ⟨by decide, by decide⟩)
  have H4 : Hid (∀ X T, At X V2 T → Calls Try.prog 11 #[wv 0 T] X (TkR (V3, [], 0) X)) := Lib.hid (fun X T h => t1 ▸ P.tick V2 T X h wf_V2 (by decide))
  have H5 : Hid (∀ X T, At X V3 T → Calls Try.prog 11 #[wv 1 T] X (TkR (V4, [7], 0) X)) := Lib.hid (fun X T h => t2 ▸ P.tick V3 T X h wf_V3 (by decide))
  have H6 : Hid (∀ X T, At X V4 T → Calls Try.prog 12 #[wv 2 T, .int .i64 7] X (WhR (V4, 5) X)) := Lib.hid (fun X T h => c1 ▸ P.cancel V4 T 7 X h wf_V4 (by decide) ⟨by decide, by decide⟩)
  have H7 : Hid (∀ X T, At X V4 T → Calls Try.prog 12 #[wv 2 T, .int .i64 9] X (WhR (V4.drop 9, 0) X)) := Lib.hid (fun X T h => c2 ▸ P.cancel V4 T 9 X h wf_V4 (by decide) ⟨by decide, by decide⟩)
  have H8 : Hid (∀ X T, At X V4 T → Calls Try.prog 14 #[wv 2 T] X (BoolEnds true X)) := Lib.hid (fun X T h => ok_iff.2 ok_V4 ▸ P.right V4 T X h wf_V4 (by decide))
  have H9 : Hid (∀ X, Calls Try.prog 14 #[wv (-1) SN] X (BoolEnds false X)) := Lib.hid (fun X => ok_Vn ▸ P.right Vn SN X (at_nil X (-1)) wf_Vn (by decide))
  clear P
  unfold wv at H1 H2 H3 H4 H5 H6 H7 H8 H9
  simp only [SN] at H1 H9
  go_enter Try.func7, Try.ntmps7
  go_wp2_with fail
  refine (H1.out _).mono ?_
  rintro e w1 ⟨S1, rfl, k1, b1⟩
  unfold wv
  have g1 := Box.new w1 25 (wcs 0 S1)
  obtain ⟨c0, c1, c2, c3, c4, c5, c6, c7, c8⟩ := g1.nine
  have k1 := k1.up (ba1 w1 (.cells (wcs 0 S1) 25))
  have hb := bon b1 (ba1 w1 (.cells (wcs 0 S1) 25))
  go_wp2_with fail
  refine (H2.out _ S1 k1).mono ?_
  rintro e w2 ⟨S2, rfl, k2, b2⟩
  unfold wv
  have e2 : V2.now = 0 := rfl
  rw [e2]
  clear e2
  obtain ⟨x1, hx1⟩ : ∃ x1, w1.heap.size = x1 := ⟨_, rfl⟩
  have g1 := g1.up b2
  rw [hx1] at g1 ⊢
  have hb := bon hb b2
  have hxw : w.heap.size ≤ x1 := by rw [← hx1]; exact b1.size
  clear c0 c1 c2 c3 c4 c5 c6 c7 c8 k1 b1 b2 hx1
  obtain ⟨c0, c1, c2, c3, c4, c5, c6, c7, c8⟩ := g1.nine
  have f0 := g1.f 0
  have f1 := g1.f 1
  have f2 := g1.f 2
  have f3 := g1.f 3
  have f4 := g1.f 4
  have f5 := g1.f 5
  have f6 := g1.f 6
  have f7 := g1.f 7
  have f8 := g1.f 8
  have k2 := k2.far9 g1 (.int .i64 0) (.slice (S2 0).A (S2 0).n (S2 0).c) (.slice (S2 1).A (S2 1).n (S2 1).c) (.slice (S2 2).A (S2 2).n (S2 2).c) (.slice (S2 3).A (S2 3).n (S2 3).c) (.slice (S2 4).A (S2 4).n (S2 4).c) (.slice (S2 5).A (S2 5).n (S2 5).c) (.slice (S2 6).A (S2 6).n (S2 6).c) (.slice (S2 7).A (S2 7).n (S2 7).c)
  have hb := below_set9 hb hxw (.int .i64 0) (.slice (S2 0).A (S2 0).n (S2 0).c) (.slice (S2 1).A (S2 1).n (S2 1).c) (.slice (S2 2).A (S2 2).n (S2 2).c) (.slice (S2 3).A (S2 3).n (S2 3).c) (.slice (S2 4).A (S2 4).n (S2 4).c) (.slice (S2 5).A (S2 5).n (S2 5).c) (.slice (S2 6).A (S2 6).n (S2 6).c) (.slice (S2 7).A (S2 7).n (S2 7).c)
  have g2 : Box _ x1 25 (wcs 0 S2) := g1.set9 (.int .i64 0) (.slice (S2 0).A (S2 0).n (S2 0).c) (.slice (S2 1).A (S2 1).n (S2 1).c) (.slice (S2 2).A (S2 2).n (S2 2).c) (.slice (S2 3).A (S2 3).n (S2 3).c) (.slice (S2 4).A (S2 4).n (S2 4).c) (.slice (S2 5).A (S2 5).n (S2 5).c) (.slice (S2 6).A (S2 6).n (S2 6).c) (.slice (S2 7).A (S2 7).n (S2 7).c)
  obtain ⟨d0, d1, d2, d3, d4, d5, d6, d7, d8⟩ := g2.nine
  go_wp2_with fail
  refine (H3.out _ S2 k2).mono ?_
  rintro e w3 ⟨S3, rfl, k3, b3⟩
  unfold wv
  have e3 : V2.now = 0 := rfl
  rw [e3]
  have gx := (g2.up b3).alloc (.cells (wcs 0 S3) 25)
  have k2 := (k2.up b3).up (ba1 w3 (.cells (wcs 0 S3) 25))
  have hb := bon (bon hb b3) (ba1 w3 (.cells (wcs 0 S3) 25))
  clear c0 c1 c2 c3 c4 c5 c6 c7 c8 d0 d1 d2 d3 d4 d5 d6 d7 d8 f0 f1 f2 f3 f4 f5 f6 f7 f8 g1 g2 b3 k3 e3
  obtain ⟨c0, c1, c2, c3, c4, c5, c6, c7, c8⟩ := gx.nine
  go_wp2_with fail
  refine (H4.out _ S2 k2).mono ?_
  rintro e w4 ⟨S4, F4, rfl, k4, i4, b4⟩
  unfold wv
  have e4 : V3.now = 1 := rfl
  rw [e4]
  have g4 := Box.new w4 25 (wcs 1 S4)
  have k4 := k4.up (ba1 w4 (.cells (wcs 1 S4) 25))
  have hb := bon (bon hb b4) (ba1 w4 (.cells (wcs 1 S4) 25))
  have hF4 : F4.n = 0 := i4.len.symm
  clear c0 c1 c2 c3 c4 c5 c6 c7 c8 gx k2 b4 i4 e4
  obtain ⟨c0, c1, c2, c3, c4, c5, c6, c7, c8⟩ := g4.nine
  go_wp2_with fail
  refine (H5.out _ S4 k4).mono ?_
  rintro e w5 ⟨S5, F5, rfl, k5, i5, b5⟩
  unfold wv
  have e5 : V4.now = 2 := rfl
  rw [e5]
  have g5 := Box.new w5 25 (wcs 2 S5)
  have k5 := k5.up (ba1 w5 (.cells (wcs 2 S5) 25))
  have i5 := i5.up (ba1 w5 (.cells (wcs 2 S5) 25))
  have hb := bon (bon hb b5) (ba1 w5 (.cells (wcs 2 S5) 25))
  clear c0 c1 c2 c3 c4 c5 c6 c7 c8 g4 k4 b5 e5
  obtain ⟨x5, hx5⟩ : ∃ x5, w5.heap.size = x5 := ⟨_, rfl⟩
  rw [hx5] at g5
  obtain ⟨c0, c1, c2, c3, c4, c5, c6, c7, c8⟩ := g5.nine
  go_wp2_with fail
  refine (H6.out _ S5 k5).mono ?_
  rintro e w6 ⟨S6, rfl, k6, b6⟩
  unfold wv
  have e6 : V4.now = 2 := rfl
  rw [e6]
  have g5 := (g5.up b6).alloc (.cells (wcs 2 S6) 25)
  have k5 := (k5.up b6).up (ba1 w6 (.cells (wcs 2 S6) 25))
  have i5 := (i5.up b6).up (ba1 w6 (.cells (wcs 2 S6) 25))
  have hb := bon (bon hb b6) (ba1 w6 (.cells (wcs 2 S6) 25))
  clear c0 c1 c2 c3 c4 c5 c6 c7 c8 k6 b6 e6
  obtain ⟨c0, c1, c2, c3, c4, c5, c6, c7, c8⟩ := g5.nine
  go_wp2_with fail
  refine (H7.out _ S5 k5).mono ?_
  rintro e w7 ⟨S7, rfl, k7, b7⟩
  unfold wv
  have e7 : (V4.drop 9).now = 2 := rfl
  rw [e7]
  have g7 := Box.new w7 25 (wcs 2 S7)
  have g5 := (g5.up b7).alloc (.cells (wcs 2 S7) 25)
  have k5 := (k5.up b7).up (ba1 w7 (.cells (wcs 2 S7) 25))
  have i5 := (i5.up b7).up (ba1 w7 (.cells (wcs 2 S7) 25))
  have hb := bon (bon hb b7) (ba1 w7 (.cells (wcs 2 S7) 25))
  have hS7 : (S7 2).n = 0 := (k7.len 2 (by decide)).symm.trans (by decide)
  clear c0 c1 c2 c3 c4 c5 c6 c7 c8 k7 b7 e7
  obtain ⟨bb, oo, hFA, _, hF7⟩ := i5.is.two (k := 0) (x := 7) rfl
  have hFn : F5.n = 1 := i5.len.symm
  obtain ⟨FA, Fn, Fc⟩ := F5
  simp only at hFA hFn
  subst hFA
  subst hFn
  obtain ⟨c0, c1, c2, c3, c4, c5, c6, c7, c8⟩ := g5.nine
  have d0 := g7.c 0 (v := .int .i64 2) rfl
  have d3 : _ = some (Value.slice (S7 2).A (S7 2).n (S7 2).c) := g7.c 3 rfl
  rw [hS7] at d3
  clear i5 hS7
  simp only [Nat.add_zero] at hF7
  go_wp2_with fail
  refine (H8.out _ S5 k5).mono ?_
  rintro e w8 ⟨rfl, b8⟩
  go_wp2_with fail
  refine (H9.out _).mono ?_
  rintro e w9 ⟨rfl, b9⟩
  go_wp2
  go_ret
  exact ⟨rfl, bon (bon hb b8) b9⟩

end Go.Proofs.Ytncbfkoldllbpaa
