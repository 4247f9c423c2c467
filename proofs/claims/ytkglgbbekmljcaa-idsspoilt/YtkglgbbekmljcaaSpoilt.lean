/-
  The walk of the law IdsSpoilt.
-/
import Derived.Test.YtkglgbbekmljcaaMade2
import Derived.Test.YtkglgbbekmljcaaApp1
namespace Go.Proofs.Ytkglgbbekmljcaa
open Go.RowKit

/-- a table in memory, its variable at block g -/
structure Sp (B g : Nat) (w : World) (T : Tb) (Ag : Option Addr) (N cg : Nat) (Ab : Option Addr) (M cb : Nat) (Af : Option Addr) (F cf : Nat) (wx : World) : Prop where
  a : At wx T Ag N cg Ab M cb Af F cf
  b : Box wx g 25 #[.slice Ag N cg, .slice Ab M cb, .slice Af F cf]
  l : Below B w wx

section
variable {B g : Nat} {w W : World} {T : Tb} {Ag : Option Addr} {N cg : Nat} {Ab : Option Addr} {M cb : Nat} {Af : Option Addr} {F cf : Nat}

theorem sp_gens {gg og j : Nat} {x : Int} (h : RowT W B T (some ⟨gg, og, none⟩) N cg Ab M cb Af F cf) (hs : Sm T) (hb : Box W g 25 #[.slice (some ⟨gg, og, none⟩) N cg, .slice Ab M cb, .slice Af F cf]) (hl : Below B w W) (hj : j < N) :
    Sp B g w ⟨T.gens.set j x, T.busy, T.free⟩ (some ⟨gg, og, none⟩) N cg Ab M cb Af F cf (W.setCell ⟨gg, og + j, none⟩ (.int .i64 x)) := by
  have hne : g ≠ gg := fun e => h.g.ne hb (by decide) _ rfl e.symm
  have hR : RowT (W.setCell ⟨gg, og + j, none⟩ (.int .i64 x)) B ⟨T.gens.set j x, T.busy, T.free⟩ (some ⟨gg, og, none⟩) N cg Ab M cb Af F cf := by
    refine ⟨?_, ?_, ?_, h.d⟩
    · have := h.g.set hj (.int .i64 x)
      rwa [← List.map_set] at this
    · exact h.b.far (p := ⟨gg, og + j, none⟩) (fun q hq => h.b.ne2 h.g (by decide) q ⟨gg, og, none⟩ hq rfl) _
    · exact h.f.far (p := ⟨gg, og + j, none⟩) (fun q hq e => h.d ⟨gg, og, none⟩ q rfl hq e.symm) _
  exact ⟨hR.sm ⟨by simpa using hs.g, hs.b, hs.f, hs.w⟩, hb.far hne _, hl.setCell (p := ⟨gg, og + j, none⟩) (h.g.blk _ rfl).1 _⟩

theorem sp_busy {gb ob j : Nat} {x : Bool} (h : RowT W B T Ag N cg (some ⟨gb, ob, none⟩) M cb Af F cf) (hs : Sm T) (hb : Box W g 25 #[.slice Ag N cg, .slice (some ⟨gb, ob, none⟩) M cb, .slice Af F cf]) (hl : Below B w W) (hj : j < M) :
    Sp B g w ⟨T.gens, T.busy.set j x, T.free⟩ Ag N cg (some ⟨gb, ob, none⟩) M cb Af F cf (W.setCell ⟨gb, ob + j, none⟩ (.bool x)) := by
  have hne : g ≠ gb := fun e => h.b.ne hb (by decide) _ rfl e.symm
  have hR : RowT (W.setCell ⟨gb, ob + j, none⟩ (.bool x)) B ⟨T.gens, T.busy.set j x, T.free⟩ Ag N cg (some ⟨gb, ob, none⟩) M cb Af F cf := by
    refine ⟨?_, ?_, ?_, h.d⟩
    · exact h.g.far (p := ⟨gb, ob + j, none⟩) (fun q hq => h.g.ne2 h.b (by decide) q ⟨gb, ob, none⟩ hq rfl) _
    · have := h.b.set hj (.bool x)
      rwa [← List.map_set] at this
    · exact h.f.far (p := ⟨gb, ob + j, none⟩) (fun q hq => h.f.ne2 h.b (by decide) q ⟨gb, ob, none⟩ hq rfl) _
  exact ⟨hR.sm ⟨hs.g, by simpa using hs.b, hs.f, hs.w⟩, hb.far hne _, hl.setCell (p := ⟨gb, ob + j, none⟩) (h.b.blk _ rfl).1 _⟩

theorem sp_free {gf of j : Nat} {x : Int} (h : RowT W B T Ag N cg Ab M cb (some ⟨gf, of, none⟩) F cf) (hs : Sm T) (hb : Box W g 25 #[.slice Ag N cg, .slice Ab M cb, .slice (some ⟨gf, of, none⟩) F cf]) (hl : Below B w W) (hj : j < F) (hx : (Lit.int .i64 x).wf = true) :
    Sp B g w ⟨T.gens, T.busy, T.free.set j x⟩ Ag N cg Ab M cb (some ⟨gf, of, none⟩) F cf (W.setCell ⟨gf, of + j, none⟩ (.int .i64 x)) := by
  have hne : g ≠ gf := fun e => h.f.ne hb (by decide) _ rfl e.symm
  have hR : RowT (W.setCell ⟨gf, of + j, none⟩ (.int .i64 x)) B ⟨T.gens, T.busy, T.free.set j x⟩ Ag N cg Ab M cb (some ⟨gf, of, none⟩) F cf := by
    refine ⟨?_, ?_, ?_, h.d⟩
    · exact h.g.far (p := ⟨gf, of + j, none⟩) (fun q hq => h.d q ⟨gf, of, none⟩ hq rfl) _
    · exact h.b.far (p := ⟨gf, of + j, none⟩) (fun q hq => h.b.ne2 h.f (by decide) q ⟨gf, of, none⟩ hq rfl) _
    · have := h.f.set hj (.int .i64 x)
      rwa [← List.map_set] at this
  refine ⟨hR.sm ⟨hs.g, hs.b, by simpa using hs.f, fun y hy => ?_⟩, hb.far hne _, hl.setCell (p := ⟨gf, of + j, none⟩) (h.f.blk _ rfl).1 _⟩
  rcases List.mem_or_eq_of_mem_set hy with hy | rfl
  · exact hs.w y hy
  · exact hx

/-- one number more in Free -/
theorem sp_appF {w1 : World} {o : Obj} {A' : Option Addr} {c' : Nat} {x : Int} (h : RowT W B T Ag N cg Ab M cb Af F cf) (hs : Sm T) (hF : F ≤ 100) (hb : Box W g 25 #[.slice Ag N cg, .slice Ab M cb, .slice Af F cf]) (hl : Below B w W) (hBg : B ≤ g) (hx : (Lit.int .i64 x).wf = true)
    (hr : Row w1 B 3 A' (F + 1) c' (T.free.map (Value.int .i64) ++ [.int .i64 x])) (hk : ∀ j, j < (W.alloc o).heap.size → (∀ q, Af = some q → q.block ≠ j) → w1.heap[j]? = (W.alloc o).heap[j]?) (hbl : Below B (W.alloc o) w1) :
    Box w1 g 25 #[.slice Ag N cg, .slice Ab M cb, .slice Af F cf] ∧ Sp B g w ⟨T.gens, T.busy, T.free ++ [x]⟩ Ag N cg Ab M cb A' (F + 1) c' (w1.setCell ⟨g, 2, none⟩ (.slice A' (F + 1) c')) := by
  have hkk : ∀ j, j < W.heap.size → (∀ q, Af = some q → q.block ≠ j) → w1.heap[j]? = W.heap[j]? := fun j hj hne => (hk j (by simp; omega) hne).trans (Below.heap_alloc W o j hj)
  have hg := hb.lt
  have b1 : Box w1 g 25 #[.slice Ag N cg, .slice Ab M cb, .slice Af F cf] := (hkk g hg (h.f.ne hb (by decide))).trans hb
  have i1 : Vs (Value.int .i64) 0 (w1.setCell ⟨g, 2, none⟩ (.slice A' (F + 1) c')) Ag T.gens := ((h.g.keep (w' := w1) fun q hq => hkk _ (h.g.blk q hq).2 (fun q' hq' e => h.d _ _ hq hq' e.symm)).far (p := ⟨g, 2, none⟩) (Row.ne (w := w1) (h.g.keep (w' := w1) fun q hq => hkk _ (h.g.blk q hq).2 (fun q' hq' e => h.d _ _ hq hq' e.symm)) b1 (by decide)) _).reads
  have i2 : Vs Value.bool false (w1.setCell ⟨g, 2, none⟩ (.slice A' (F + 1) c')) Ab T.busy := ((h.b.keep (w' := w1) fun q hq => hkk _ (h.b.blk q hq).2 (fun q' hq' => h.f.ne2 h.b (by decide) _ _ hq' hq)).far (p := ⟨g, 2, none⟩) (Row.ne (w := w1) (h.b.keep (w' := w1) fun q hq => hkk _ (h.b.blk q hq).2 (fun q' hq' => h.f.ne2 h.b (by decide) _ _ hq' hq)) b1 (by decide)) _).reads
  have hr' : Row w1 B 3 A' (F + 1) c' ((T.free ++ [x]).map (Value.int .i64)) := by simpa using hr
  have i3 : Vs (Value.int .i64) 0 (w1.setCell ⟨g, 2, none⟩ (.slice A' (F + 1) c')) A' (T.free ++ [x]) := (hr'.far (p := ⟨g, 2, none⟩) (hr'.ne b1 (by decide)) _).reads
  obtain ⟨l1, l2, l3⟩ := h.lens
  have s1 := hs.g
  have s2 := hs.b
  refine ⟨b1, ⟨⟨l1, l2, by simp [l3], i1, i2, i3, by omega, by omega, by omega, h.g.c0, h.b.c0, hr.c0, fun y hy => ?_⟩, by simpa using b1.set 2 (.slice A' (F + 1) c'), ((hl.alloc (by omega) o).trans hbl).setCell (p := ⟨g, 2, none⟩) hBg _⟩⟩
  simp only [List.mem_append, List.mem_singleton] at hy
  rcases hy with hy | rfl
  · exact hs.w y hy
  · exact hx

/-- one more in Busy -/
theorem sp_appB {w1 : World} {o : Obj} {A' : Option Addr} {c' : Nat} {x : Bool} (h : RowT W B T Ag N cg Ab M cb Af F cf) (hs : Sm T) (hM : M ≤ 100) (hb : Box W g 25 #[.slice Ag N cg, .slice Ab M cb, .slice Af F cf]) (hl : Below B w W) (hBg : B ≤ g)
    (hr : Row w1 B 4 A' (M + 1) c' (T.busy.map Value.bool ++ [.bool x])) (hk : ∀ j, j < (W.alloc o).heap.size → (∀ q, Ab = some q → q.block ≠ j) → w1.heap[j]? = (W.alloc o).heap[j]?) (hbl : Below B (W.alloc o) w1) :
    Box w1 g 25 #[.slice Ag N cg, .slice Ab M cb, .slice Af F cf] ∧ Sp B g w ⟨T.gens, T.busy ++ [x], T.free⟩ Ag N cg A' (M + 1) c' Af F cf (w1.setCell ⟨g, 1, none⟩ (.slice A' (M + 1) c')) := by
  have hkk : ∀ j, j < W.heap.size → (∀ q, Ab = some q → q.block ≠ j) → w1.heap[j]? = W.heap[j]? := fun j hj hne => (hk j (by simp; omega) hne).trans (Below.heap_alloc W o j hj)
  have hg := hb.lt
  have b1 : Box w1 g 25 #[.slice Ag N cg, .slice Ab M cb, .slice Af F cf] := (hkk g hg (h.b.ne hb (by decide))).trans hb
  have k1 := h.g.keep (w' := w1) fun q hq => hkk _ (h.g.blk q hq).2 (fun q' hq' => h.b.ne2 h.g (by decide) _ _ hq' hq)
  have k3 := h.f.keep (w' := w1) fun q hq => hkk _ (h.f.blk q hq).2 (fun q' hq' => h.b.ne2 h.f (by decide) _ _ hq' hq)
  have i1 : Vs (Value.int .i64) 0 (w1.setCell ⟨g, 1, none⟩ (.slice A' (M + 1) c')) Ag T.gens := (k1.far (p := ⟨g, 1, none⟩) (k1.ne b1 (by decide)) _).reads
  have i3 : Vs (Value.int .i64) 0 (w1.setCell ⟨g, 1, none⟩ (.slice A' (M + 1) c')) Af T.free := (k3.far (p := ⟨g, 1, none⟩) (k3.ne b1 (by decide)) _).reads
  have hr' : Row w1 B 4 A' (M + 1) c' ((T.busy ++ [x]).map Value.bool) := by simpa using hr
  have i2 : Vs Value.bool false (w1.setCell ⟨g, 1, none⟩ (.slice A' (M + 1) c')) A' (T.busy ++ [x]) := (hr'.far (p := ⟨g, 1, none⟩) (hr'.ne b1 (by decide)) _).reads
  obtain ⟨l1, l2, l3⟩ := h.lens
  have s1 := hs.g
  have s3 := hs.f
  exact ⟨b1, ⟨⟨l1, by simp [l2], l3, i1, i2, i3, by omega, by omega, by omega, h.g.c0, hr.c0, h.f.c0, hs.w⟩, by simpa using b1.set 1 (.slice A' (M + 1) c'), ((hl.alloc (by omega) o).trans hbl).setCell (p := ⟨g, 1, none⟩) hBg _⟩⟩

end

set_option maxRecDepth 100000 in
set_option maxHeartbeats 8000000 in
theorem spoilt_any (R Hh P : Nat) (nn : Int) (hR : R < 256) (hH : Hh < 256) (hP : P < 256) (hnn : (Lit.int .i64 nn).wf = true) (A : Option Addr) (L c : Nat) (ys : List UInt8) (w : World) (HY : Hid (ys.length = L)) (hL : L ≤ maxLen) (hB : Uq w A ys) :
    Calls Try.prog 5 #[.int .u8 (R : Int), .slice A L c, .int .u8 (Hh : Int), .int .u8 (P : Int), .int .i64 nn] w fun e w' => e = .returned (.bool true) ∧ Below w.heap.size w w' := by
  obtain ⟨n, hn, hm⟩ := mk_any R hR A L c ys w HY hL hB
  have hn1 : 1 ≤ n := by omega
  have hn2 : n ≤ 8 := by omega
  have HM := Lib.hid hm
  have HNN := Lib.hid hnn
  clear hm hB hL hn hnn
  go_enter Try.func5, Try.ntmps5
  go_wp2_with fail
  refine HM.out.mono ?_
  rintro e w1 ⟨i, T, all, inn, Ag, N, cg, Ab, M, cb, Af, F, cf, Ai, Li, ci, rfl, HI, hi, hr, ho, hb1⟩
  have b1 := Box.new w1 25 #[.slice Ag N cg, .slice Ab M cb, .slice Af F cf]
  have hr1 := hr.up (ba1 w1 (.cells #[.slice Ag N cg, .slice Ab M cb, .slice Af F cf] 25))
  have hw1 := bon hb1 (ba1 w1 (.cells #[.slice Ag N cg, .slice Ab M cb, .slice Af F cf] 25))
  obtain ⟨l1, l2, l3⟩ := hr.lens
  have hNn : N = n := by rw [← l1]; exact HI.out.len
  have hMn : M = n := by rw [← l2]; exact HI.out.np.2.2
  have hFn : F ≤ n := by rw [← l3]; have := HI.out.l; omega
  subst hMn
  subst hNn
  have HS := Lib.hid HI.out.sm
  have hgB := hb1.size
  have hgl : w1.heap.size < (w1.alloc (.cells #[.slice Ag N cg, .slice Ab N cb, .slice Af F cf] 25)).heap.size := by simp
  clear hb1 hr ho l1 l2 l3 HI HM
  go_upto_region 2 with fail
  generalize w1.alloc (.cells #[.slice Ag N cg, .slice Ab N cb, .slice Af F cf] 25) = W1 at *
  generalize w1.heap.size = g at *
  have HR1 := Lib.hid hr1
  have HB1 := Lib.hid b1
  have HW1 := Lib.hid hw1
  obtain ⟨⟨p0, p1, p2⟩, f0, f1, f2⟩ := b1.three
  clear hr1 b1 hw1
  obtain ⟨k, hk⟩ : ∃ k : Nat, k = P % N := ⟨_, rfl⟩
  have hkN : k < N := by rw [hk]; exact Nat.mod_lt _ (by omega)
  have t1 : IntKind.i64.wrap (P : Int) = (P : Int) := IntWalk.i64_in _ (by omega)
  have t2 : (P : Int) % (N : Int) = (k : Int) := by rw [hk]; simp
  have t3 : (P : Int).tmod (N : Int) = (k : Int) := by rw [Int.tmod_eq_emod_of_nonneg (by omega)]; exact t2
  have hN0 : ¬ (N : Int) = 0 := by omega
  have hkI : (k : Int) < (N : Int) := by omega
  clear hk
  have hcase : Hh % 6 = 0 ∨ Hh % 6 = 1 ∨ Hh % 6 = 2 ∨ Hh % 6 = 3 ∨ Hh % 6 = 4 ∨ Hh % 6 = 5 := by omega
  rcases hcase with hc | hc | hc | hc | hc | hc
  · skip
    have q0 : ((Hh : Int) % 6 == 0) = true := by simp; omega
    clear hc
    obtain ⟨gg, og, rfl, _, _, hcc⟩ := HR1.out.g.at (by omega)
    obtain ⟨hc1, hc2⟩ := hcc k hkN
    have hl : k < T.gens.length := by rw [HR1.out.lens.1]; exact hkN
    have hc3 : W1.cell? ⟨gg, og + k, none⟩ = some (.int .i64 (gd T.gens k)) := by
      rw [hc1, List.getElem?_map, List.getElem?_eq_getElem hl, gd_eq hl]
      rfl
    have HP := Lib.hid (sp_gens (x := nn) HR1.out HS.out HB1.out HW1.out hkN)
    clear hcc hc1 hl
    go_wp2_with fail
    refine (awake_any _).mono ?_
    rintro e w3 ⟨rfl, hb3⟩
    have x3 := HP.out.b.up hb3
    obtain ⟨⟨s0, s1, s2⟩, _⟩ := x3.three
    go_wp2_with fail
    refine (told_any (HP.out.a.up hb3) (k : Int) (by omega)).mono ?_
    rintro e w4 ⟨rfl, hb4⟩
    clear s0 s1 s2
    have x4 := x3.up hb4
    obtain ⟨⟨s0, s1, s2⟩, _⟩ := x4.three
    go_wp2_with fail
    refine (told_any ((HP.out.a.up hb3).up hb4) (9007199254740992 * (N : Int) + (k : Int)) (by omega)).mono ?_
    rintro e w5 ⟨rfl, hb5⟩
    go_wp2
    go_ret
    exact ⟨rfl, bon (bon (bon HP.out.l hb3) hb4) hb5⟩
  · skip
    have q0 : ((Hh : Int) % 6 == 0) = false := by simp; omega
    have q1 : ((Hh : Int) % 6 == 1) = true := by simp; omega
    clear hc
    obtain ⟨gb, ob, rfl, hgb, _, hcc⟩ := HR1.out.b.at (by omega)
    obtain ⟨hc1, hc2⟩ := hcc k hkN
    have hl : k < T.busy.length := by rw [HR1.out.lens.2.1]; exact hkN
    have hc3 : W1.cell? ⟨gb, ob + k, none⟩ = some (.bool (bd T.busy k)) := by
      rw [hc1, List.getElem?_map, List.getElem?_eq_getElem hl]
      simp [bd, List.getElem?_eq_getElem hl]
    have HP := Lib.hid (sp_busy (x := !bd T.busy k) HR1.out HS.out HB1.out HW1.out hkN)
    have hne : gb ≠ g := HR1.out.b.ne HB1.out (by decide) _ rfl
    have hne' : g ≠ gb := fun e => hne e.symm
    clear hcc hc1 hl
    generalize bd T.busy k = xb at *
    go_wp2_with fail
    go_region
    go_wp2_with fail
    refine (awake_any _).mono ?_
    rintro e w3 ⟨rfl, hb3⟩
    have x3 := (HP.out.b.up (Below.refl _ _).drew).up hb3
    obtain ⟨⟨s0, s1, s2⟩, _⟩ := x3.three
    go_wp2_with fail
    refine (told_any ((HP.out.a.up (Below.refl _ _).drew).up hb3) (k : Int) (by omega)).mono ?_
    rintro e w4 ⟨rfl, hb4⟩
    clear s0 s1 s2
    have x4 := x3.up hb4
    obtain ⟨⟨s0, s1, s2⟩, _⟩ := x4.three
    go_wp2_with fail
    refine (told_any (((HP.out.a.up (Below.refl _ _).drew).up hb3).up hb4) (9007199254740992 * (N : Int) + (k : Int)) (by omega)).mono ?_
    rintro e w5 ⟨rfl, hb5⟩
    go_wp2
    go_ret
    exact ⟨rfl, bon (bon (bon HP.out.l.drew hb3) hb4) hb5⟩
  · skip
    have q0 : ((Hh : Int) % 6 == 0) = false := by simp; omega
    have q1 : ((Hh : Int) % 6 == 1) = false := by simp; omega
    have q2 : ((Hh : Int) % 6 == 2) = true := by simp; omega
    clear hc
    obtain ⟨i0, hi0, hz0, hz1, hz2⟩ := info_parts info3
    go_wp2_with (at_builtin; refine wpList_app1 _ rfl _ _ 22 rfl w.heap.size 3 i0 (.int .i64 0) 8 Try.underlying22 hi0 hz0 hz1 hz2 rfl _ _ _ _ rfl (HR1.out.f.alloc _) ⟨W1.heap.size, 0, none⟩ 1 (.int .i64 nn) rfl (cell_one_new _ _ _) rfl ?hm ?hy ?hbs ?_; rotate_right; intro A' c' w6 hrow hkeep hbl; obtain ⟨xb, hp⟩ := sp_appF HR1.out HS.out (by omega) HB1.out HW1.out hgB HNN.out hrow hkeep hbl; have HP := Lib.hid hp; obtain ⟨⟨u0, u1, u2⟩, v0, v1, v2⟩ := xb.three; clear hrow hkeep hbl hp xb)
    case hm => unfold maxLen; omega
    case hy => omega
    case hbs => simp; omega
    refine (awake_any _).mono ?_
    rintro e w3 ⟨rfl, hb3⟩
    have x3 := HP.out.b.up hb3
    obtain ⟨⟨s0, s1, s2⟩, _⟩ := x3.three
    go_wp2_with fail
    refine (told_any (HP.out.a.up hb3) (k : Int) (by omega)).mono ?_
    rintro e w4 ⟨rfl, hb4⟩
    clear s0 s1 s2
    have x4 := x3.up hb4
    obtain ⟨⟨s0, s1, s2⟩, _⟩ := x4.three
    go_wp2_with fail
    refine (told_any ((HP.out.a.up hb3).up hb4) (9007199254740992 * (N : Int) + (k : Int)) (by omega)).mono ?_
    rintro e w5 ⟨rfl, hb5⟩
    go_wp2
    go_ret
    exact ⟨rfl, bon (bon (bon HP.out.l hb3) hb4) hb5⟩
  · skip
    have q0 : ((Hh : Int) % 6 == 0) = false := by simp; omega
    have q1 : ((Hh : Int) % 6 == 1) = false := by simp; omega
    have q2 : ((Hh : Int) % 6 == 2) = false := by simp; omega
    have q3 : ((Hh : Int) % 6 == 3) = true := by simp; omega
    clear hc
    obtain ⟨i0, hi0, hz0, hz1, hz2⟩ := info_parts info4
    go_wp2_with (at_builtin; refine wpList_app1 _ rfl _ _ 23 rfl w.heap.size 4 i0 (.bool false) 1 Try.underlying23 hi0 hz0 hz1 hz2 rfl _ _ _ _ rfl (HR1.out.b.alloc _) ⟨W1.heap.size, 0, none⟩ 1 (.bool false) rfl (cell_one_new _ _ _) rfl ?hm ?hy ?hbs ?_; rotate_right; intro A' c' w6 hrow hkeep hbl; obtain ⟨xb, hp⟩ := sp_appB HR1.out HS.out (by omega) HB1.out HW1.out hgB hrow hkeep hbl; have HP := Lib.hid hp; obtain ⟨⟨u0, u1, u2⟩, v0, v1, v2⟩ := xb.three; clear hrow hkeep hbl hp xb)
    case hm => unfold maxLen; omega
    case hy => omega
    case hbs => simp; omega
    refine (awake_any _).mono ?_
    rintro e w3 ⟨rfl, hb3⟩
    have x3 := HP.out.b.up hb3
    obtain ⟨⟨s0, s1, s2⟩, _⟩ := x3.three
    go_wp2_with fail
    refine (told_any (HP.out.a.up hb3) (k : Int) (by omega)).mono ?_
    rintro e w4 ⟨rfl, hb4⟩
    clear s0 s1 s2
    have x4 := x3.up hb4
    obtain ⟨⟨s0, s1, s2⟩, _⟩ := x4.three
    go_wp2_with fail
    refine (told_any ((HP.out.a.up hb3).up hb4) (9007199254740992 * (N : Int) + (k : Int)) (by omega)).mono ?_
    rintro e w5 ⟨rfl, hb5⟩
    go_wp2
    go_ret
    exact ⟨rfl, bon (bon (bon HP.out.l hb3) hb4) hb5⟩
  · skip
    have q0 : ((Hh : Int) % 6 == 0) = false := by simp; omega
    have q1 : ((Hh : Int) % 6 == 1) = false := by simp; omega
    have q2 : ((Hh : Int) % 6 == 2) = false := by simp; omega
    have q3 : ((Hh : Int) % 6 == 3) = false := by simp; omega
    have q4 : ((Hh : Int) % 6 == 4) = true := by simp; omega
    clear hc
    by_cases hF0 : F = 0
    · subst hF0
      have HP : Hid (Sp w.heap.size g w T Ag N cg Ab N cb Af 0 cf W1) := Lib.hid ⟨HR1.out.sm HS.out, HB1.out, HW1.out⟩
      go_wp2_with fail
      refine (awake_any _).mono ?_
      rintro e w3 ⟨rfl, hb3⟩
      have x3 := HP.out.b.up hb3
      obtain ⟨⟨s0, s1, s2⟩, _⟩ := x3.three
      go_wp2_with fail
      refine (told_any (HP.out.a.up hb3) (k : Int) (by omega)).mono ?_
      rintro e w4 ⟨rfl, hb4⟩
      clear s0 s1 s2
      have x4 := x3.up hb4
      obtain ⟨⟨s0, s1, s2⟩, _⟩ := x4.three
      go_wp2_with fail
      refine (told_any ((HP.out.a.up hb3).up hb4) (9007199254740992 * (N : Int) + (k : Int)) (by omega)).mono ?_
      rintro e w5 ⟨rfl, hb5⟩
      go_wp2
      go_ret
      exact ⟨rfl, bon (bon (bon HP.out.l hb3) hb4) hb5⟩
    · obtain ⟨j, hj⟩ : ∃ j : Nat, j = P % F := ⟨_, rfl⟩
      have hjF : j < F := by rw [hj]; exact Nat.mod_lt _ (by omega)
      have t5 : (P : Int) % (F : Int) = (j : Int) := by rw [hj]; simp
      have t6 : (P : Int).tmod (F : Int) = (j : Int) := by rw [Int.tmod_eq_emod_of_nonneg (by omega)]; exact t5
      have hF1 : (0 : Int) < (F : Int) := by omega
      have hF2 : ¬ (F : Int) = 0 := by omega
      have hF3 : 0 < F := by omega
      have hjI : (j : Int) < (F : Int) := by omega
      obtain ⟨gf, of, rfl, hgf, _, hcc⟩ := HR1.out.f.at (by omega)
      obtain ⟨hc1, hc2⟩ := hcc j hjF
      have hl : j < T.free.length := by rw [HR1.out.lens.2.2]; exact hjF
      have hc3 : W1.cell? ⟨gf, of + j, none⟩ = some (.int .i64 (gd T.free j)) := by
        rw [hc1, List.getElem?_map, List.getElem?_eq_getElem hl, gd_eq hl]
        rfl
      have HP := Lib.hid (sp_free (x := nn) HR1.out HS.out HB1.out HW1.out hjF HNN.out)
      have hne : gf ≠ g := HR1.out.f.ne HB1.out (by decide) _ rfl
      have hne' : g ≠ gf := fun e => hne e.symm
      clear hcc hc1 hl hj
      go_wp2_with fail
      go_region
      go_wp2_with fail
      refine (awake_any _).mono ?_
      rintro e w3 ⟨rfl, hb3⟩
      have x3 := (HP.out.b.up (Below.refl _ _).drew).up hb3
      obtain ⟨⟨s0, s1, s2⟩, _⟩ := x3.three
      go_wp2_with fail
      refine (told_any ((HP.out.a.up (Below.refl _ _).drew).up hb3) (k : Int) (by omega)).mono ?_
      rintro e w4 ⟨rfl, hb4⟩
      clear s0 s1 s2
      have x4 := x3.up hb4
      obtain ⟨⟨s0, s1, s2⟩, _⟩ := x4.three
      go_wp2_with fail
      refine (told_any (((HP.out.a.up (Below.refl _ _).drew).up hb3).up hb4) (9007199254740992 * (N : Int) + (k : Int)) (by omega)).mono ?_
      rintro e w5 ⟨rfl, hb5⟩
      go_wp2
      go_ret
      exact ⟨rfl, bon (bon (bon HP.out.l.drew hb3) hb4) hb5⟩
  · skip
    have q0 : ((Hh : Int) % 6 == 0) = false := by simp; omega
    have q1 : ((Hh : Int) % 6 == 1) = false := by simp; omega
    have q2 : ((Hh : Int) % 6 == 2) = false := by simp; omega
    have q3 : ((Hh : Int) % 6 == 3) = false := by simp; omega
    have q4 : ((Hh : Int) % 6 == 4) = false := by simp; omega
    clear hc
    obtain ⟨gg, og, rfl, _, _, hcc⟩ := HR1.out.g.at (by omega)
    obtain ⟨hc1, hc2⟩ := hcc k hkN
    have hl : k < T.gens.length := by rw [HR1.out.lens.1]; exact hkN
    have hc3 : W1.cell? ⟨gg, og + k, none⟩ = some (.int .i64 (gd T.gens k)) := by
      rw [hc1, List.getElem?_map, List.getElem?_eq_getElem hl, gd_eq hl]
      rfl
    have HP := Lib.hid (sp_gens (x := 9007199254740992) HR1.out HS.out HB1.out HW1.out hkN)
    clear hcc hc1 hl
    go_wp2_with fail
    refine (awake_any _).mono ?_
    rintro e w3 ⟨rfl, hb3⟩
    have x3 := HP.out.b.up hb3
    obtain ⟨⟨s0, s1, s2⟩, _⟩ := x3.three
    go_wp2_with fail
    refine (told_any (HP.out.a.up hb3) (k : Int) (by omega)).mono ?_
    rintro e w4 ⟨rfl, hb4⟩
    clear s0 s1 s2
    have x4 := x3.up hb4
    obtain ⟨⟨s0, s1, s2⟩, _⟩ := x4.three
    go_wp2_with fail
    refine (told_any ((HP.out.a.up hb3).up hb4) (9007199254740992 * (N : Int) + (k : Int)) (by omega)).mono ?_
    rintro e w5 ⟨rfl, hb5⟩
    go_wp2
    go_ret
    exact ⟨rfl, bon (bon (bon HP.out.l hb3) hb4) hb5⟩

end Go.Proofs.Ytkglgbbekmljcaa
