/-
  The walk of the law WheelSpoilt.
-/
import Derived.Test.YtncbfkoldllbpaaMade
import Derived.Test.YtncbfkoldllbpaaPg
import Derived.Deep.CutBlock
import Derived.Deep.RegionLaw
import Derived.Deep.Upon
import Derived.Deep.DeepCutAuto
namespace Go.Proofs.Ytncbfkoldllbpaa
open Go.RowKit

/-- a wheel in its variable g, of whatever kind -/
def SpR (B g : Nat) (w wx : World) : Prop := ∃ W S, Box wx g 25 (wcs W.now S) ∧ At wx W S ∧ Wf W ∧ manyN W ≤ 1000 ∧ Below B w wx

theorem many_congr {W W' : Wl} (h : ∀ i, i < 8 → (W'.sl i).length = (W.sl i).length) : manyN W' = manyN W := by
  have : ∀ k, k ≤ 8 → manyTo W' k = manyTo W k := by
    intro k
    induction k with
    | zero => intro _; rfl
    | succ k ih => intro hk; simp only [manyTo, ih (by omega), h k (by omega)]
  exact this 8 (Nat.le_refl _)
theorem many_lay (W : Wl) {r : Nat} (hr : r < 8) (l : List Tm) : manyN (W.put r l) ≤ manyN W + l.length := by
  have : ∀ k, manyTo (W.put r l) k ≤ manyTo W k + (if r < k then l.length else 0) := by
    intro k
    induction k with
    | zero => simp [manyTo]
    | succ k ih =>
      simp only [manyTo, Wl.put]
      simp only [Wl.put] at ih
      by_cases hk : k = r
      · subst hk
        simp at ih ⊢
        omega
      · rw [if_neg hk]
        by_cases h2 : r < k
        · rw [if_pos h2] at ih
          rw [if_pos (by omega)]
          omega
        · rw [if_neg h2] at ih
          rw [if_neg (by omega)]
          omega
  have h8 := this 8
  rw [if_pos hr] at h8
  exact h8
theorem wf_lay {W : Wl} (h : Wf W) {r : Nat} {l : List Tm} (hl : ∀ t ∈ l, I64 t.1 ∧ I64 t.2) : Wf (W.put r l) := by
  refine ⟨h.now, fun i hi t ht => ?_⟩
  simp only [Wl.put] at ht
  split at ht
  · exact hl t ht
  · exact h.tm i hi t ht

/-- the time is spoilt -/
theorem sp_now {B g : Nat} {w W1 : World} {W : Wl} {S : Nat → Sli} {now : Int} (hg : Box W1 g 25 (wcs now S)) (hO : Own8 W1 B W S) (hwf : Wf W) (hf : manyN W ≤ 1000) (hb : Below B w W1) (hB : B ≤ g) {n : Int} (hn : I64 n) : SpR B g w (W1.setCell ⟨g, 0, none⟩ (.int .i64 n)) :=
  ⟨⟨n, W.sl⟩, S, by simpa using hg.set 0 (.int .i64 n), ⟨(hO.farB hg (by decide) 0 (.int .i64 n)).at.len, (hO.farB hg (by decide) 0 (.int .i64 n)).at.ts, hO.at.cap, hO.at.le⟩, ⟨hn, hwf.tm⟩, Nat.le_trans (Nat.le_of_eq (many_congr (W := W) (W' := ⟨n, W.sl⟩) (fun _ _ => rfl))) hf, hb.setCell (p := ⟨g, 0, none⟩) hB _⟩

theorem TRow.at1 {w : World} {B g n c : Nat} {x y m : Int} {xs : List Tm} (h : TRow w B ⟨some ⟨g, 0, none⟩, n, c⟩ ((x, y) :: xs)) : TRow (w.setCell ⟨g, 1, none⟩ (.int .i64 m)) B ⟨some ⟨g, 0, none⟩, n, c⟩ ((x, m) :: xs) := by
  refine ⟨h.1, ?_⟩
  rcases h.2 with ⟨h1, _⟩ | ⟨g', cap, cur, h1, hb, hg, hnc, hm, hcs, hv⟩
  · simp at h1
  · simp only [Value.slice.injEq, Option.some.injEq, Addr.mk.injEq, and_true] at h1
    obtain ⟨rfl, _, rfl⟩ := h1
    have hbx : Box w g 34 cur := hg
    refine .inr ⟨g, c, _, rfl, hb, hbx.set 1 (.int .i64 m), hnc, hm, by simp [hcs], ?_⟩
    rw [Array.toList_setIfInBounds, List.take_set, hv]
    rfl
/-- the first timer of a slot is spoilt -/
theorem sp_at {B g r gr n c : Nat} {w W1 : World} {W : Wl} {S : Nat → Sli} {x y m : Int} {xs : List Tm} (hr : r < 8) (hS : S r = ⟨some ⟨gr, 0, none⟩, n, c⟩) (hW : W.sl r = (x, y) :: xs) (hg : Box W1 g 25 (wcs W.now S)) (hO : Own8 W1 B W S) (hwf : Wf W) (hf : manyN W ≤ 1000) (hb : Below B w W1) (hm : I64 m) : SpR B g w (W1.setCell ⟨gr, 1, none⟩ (.int .i64 m)) := by
  have hrow := hO.row r hr
  rw [hS, hW] at hrow
  have hne : g ≠ gr := fun e => hrow.ne hg (by decide) ⟨gr, 0, none⟩ rfl e.symm
  have hO2 : Own8 (W1.setCell ⟨gr, 1, none⟩ (.int .i64 m)) B (W.put r ((x, m) :: xs)) S := by
    refine ⟨fun i hi => ?_, hO.sep⟩
    by_cases hir : i = r
    · subst hir
      rw [hS]
      simpa [Wl.put] using hrow.at1 (m := m)
    · have e : (W.put r ((x, m) :: xs)).sl i = W.sl i := by simp [Wl.put, hir]
      rw [e]
      exact (hO.row i hi).far (p := ⟨gr, 1, none⟩) (fun q hq => hO.sep i r hi hr hir q ⟨gr, 0, none⟩ hq (by rw [hS])) _
  refine ⟨W.put r ((x, m) :: xs), S, hg.far (p := ⟨gr, 1, none⟩) hne _, hO2.at, wf_lay hwf ?_, ?_, hb.setCell (p := ⟨gr, 1, none⟩) (hrow.blk ⟨gr, 0, none⟩ rfl).1 _⟩
  · intro t ht
    simp only [List.mem_cons] at ht
    rcases ht with rfl | ht
    · have := hwf.tm r hr (x, y) (by rw [hW]; simp)
      exact ⟨this.1, hm⟩
    · exact hwf.tm r hr t (by rw [hW]; simp [ht])
  · refine Nat.le_trans (Nat.le_of_eq (many_congr (W := W) ?_)) hf
    · intro i _
      simp only [Wl.put]
      split
      · next e => subst e; rw [hW]; rfl
      · rfl

/-- another wheel, with no timers -/
theorem sp_bare {B g : Nat} {w W1 : World} {S : Nat → Sli} {now : Int} (hg : Box W1 g 25 (wcs now S)) (hb : Below B w W1) (hB : B ≤ g) {n : Int} (hn : I64 n) : SpR B g w (((((((((W1.setCell ⟨g, 0, none⟩ (.int .i64 n)).setCell ⟨g, 1, none⟩ (.slice none 0 0)).setCell ⟨g, 2, none⟩ (.slice none 0 0)).setCell ⟨g, 3, none⟩ (.slice none 0 0)).setCell ⟨g, 4, none⟩ (.slice none 0 0)).setCell ⟨g, 5, none⟩ (.slice none 0 0)).setCell ⟨g, 6, none⟩ (.slice none 0 0)).setCell ⟨g, 7, none⟩ (.slice none 0 0)).setCell ⟨g, 8, none⟩ (.slice none 0 0)) :=
  ⟨⟨n, fun _ => []⟩, fun _ => ⟨none, 0, 0⟩, hg.set9 (.int .i64 n) (.slice none 0 0) (.slice none 0 0) (.slice none 0 0) (.slice none 0 0) (.slice none 0 0) (.slice none 0 0) (.slice none 0 0) (.slice none 0 0), ⟨fun _ _ => rfl, fun _ _ => Ts.nil _ _, fun _ _ _ => rfl, fun _ _ => ⟨Nat.le_refl _, Nat.zero_le _⟩⟩, ⟨hn, fun _ _ t ht => by simp at ht⟩, by simp [manyN, manyTo], below_set9 hb hB _ _ _ _ _ _ _ _ _⟩

theorem i64_wrap (x : Int) : I64 (IntKind.i64.wrap x) := by
  have hb : (2 ^ IntKind.i64.bits : Int) = 18446744073709551616 := by decide
  have hc : (2 ^ (IntKind.i64.bits - 1) : Int) = 9223372036854775808 := by decide
  have hs : IntKind.i64.signed = true := rfl
  unfold I64 IntKind.wrap
  simp only [hb, hc, hs, Bool.true_and, ge_iff_le, decide_eq_true_eq]
  split <;> omega

/-- a wheel in its variable g, each of its slots in memory of the call's own -/
structure SpO (B g : Nat) (now : Int) (W : Wl) (S : Nat → Sli) (w wx : World) : Prop where
  ha : Box wx g 25 (wcs now S)
  ho : Own8 wx B W S
  wf : Wf W
  hb : Below B w wx
  le : B ≤ g
  hn : W.now = now
theorem SpO.up {B g : Nat} {now : Int} {W : Wl} {S : Nat → Sli} {w wx w' : World} (h : SpO B g now W S w wx) (hb : Below wx.heap.size wx w') : SpO B g now W S w w' :=
  ⟨h.ha.up hb, h.ho.up hb, h.wf, h.hb.trans (hb.mono (Nat.le_trans h.le (Nat.le_of_lt h.ha.lt))), h.le, h.hn⟩
theorem SpO.r {B g : Nat} {now : Int} {W : Wl} {S : Nat → Sli} {w wx : World} (h : SpO B g now W S w wx) (hf : manyN W ≤ 1000) : SpR B g w wx := ⟨W, S, by rw [h.hn]; exact h.ha, h.ho.at, h.wf, hf, h.hb⟩
/-- a slot is laid anew -/
theorem SpO.lay {B g r : Nat} {now : Int} {W : Wl} {S : Nat → Sli} {w wx X : World} (h : SpO B g now W S w wx) (hr : r < 8) (hb : Below wx.heap.size wx X) {s : Sli} {t : Tm} (hrow : TRow X wx.heap.size s (W.sl r ++ [t])) (ht : I64 t.1 ∧ I64 t.2) :
    SpO B g now (W.put r (W.sl r ++ [t])) (putS S r s) w (X.setCell ⟨g, 1 + r, none⟩ (.slice s.A s.n s.c)) := by
  have hB : B ≤ wx.heap.size := Nat.le_trans h.le (Nat.le_of_lt h.ha.lt)
  have h1 := h.up hb
  have hO : Own8 X B (W.put r (W.sl r ++ [t])) (putS S r s) := by
    refine ⟨fun i hi => ?_, ?_⟩
    · by_cases hir : i = r
      · subst hir
        rw [putS_same]
        simpa [Wl.put] using hrow.mono hB
      · rw [putS_other _ hir]
        have e : (W.put r (W.sl r ++ [t])).sl i = W.sl i := by simp [Wl.put, hir]
        rw [e]
        exact h1.ho.row i hi
    · intro i j hi hj hij p q hp hq
      by_cases hir : i = r
      · subst hir
        rw [putS_same] at hp
        rw [putS_other _ (Ne.symm hij)] at hq
        have a1 := (hrow.blk p hp).1
        have a2 := ((h.ho.row j hj).blk q hq).2.1
        omega
      · rw [putS_other _ hir] at hp
        by_cases hjr : j = r
        · subst hjr
          rw [putS_same] at hq
          have a1 := (hrow.blk q hq).1
          have a2 := ((h.ho.row i hi).blk p hp).2.1
          omega
        · rw [putS_other _ hjr] at hq
          exact h.ho.sep i j hi hj hij p q hp hq
  refine ⟨h1.ha.putS hr s.A s.n s.c, hO.farB h1.ha (by decide) _ _, wf_lay h.wf ?_, h1.hb.setCell (p := ⟨g, 1 + r, none⟩) h.le _, h.le, h.hn⟩
  intro u hu
  simp only [List.mem_append, List.mem_singleton] at hu
  rcases hu with hu | rfl
  · exact h.wf.tm r hr u hu
  · exact ht
theorem many_one (W : Wl) {r : Nat} (hr : r < 8) (t : Tm) : manyN (W.put r (W.sl r ++ [t])) = manyN W + 1 := by
  have := (many_put W (r := r) (W.sl r ++ [t]) 8).1 hr
  simp only [List.length_append, List.length_singleton] at this
  unfold manyN
  omega

/-- append onto nothing -/
theorem app_one {N L c7 : Nat} {A7 : Option Addr} {w2 X w7 : World} {xs : List Tm} (hX : Below N w2 X) (hN : N ≤ X.heap.size) (h1 : w7.ownsRow N 34 2 (.slice A7 L c7) L ([] ++ tmcs xs)) (h2 : X.grownBy w7 (Value.slice none 0 0).ownBlock) : TRow w7 N ⟨A7, L, c7⟩ xs ∧ Below N w2 w7 ∧ Below X.heap.size X w7 ∧ N ≤ w7.heap.size :=
  ⟨h1, hX.trans ((grown_none h2).mono hN), grown_none h2, Nat.le_trans hN h2.size⟩
/-- one timer more -/
theorem app_two {N L c9 : Nat} {A9 : Option Addr} {s : Sli} {w2 Y w9 : World} {xs : List Tm} {x y : Int} (hY : Below N w2 Y) (hN : N ≤ Y.heap.size) (hr : TRow Y N s xs) (h1 : w9.ownsRow N 34 2 (.slice A9 L c9) L (tmcs xs ++ tmcs [(x, y)])) (h2 : Y.grownBy w9 (Value.slice s.A s.n s.c).ownBlock) : TRow w9 N ⟨A9, L, c9⟩ (xs ++ [(x, y)]) ∧ Below N w2 w9 :=
  ⟨by show World.ownsRow _ _ _ _ _ _ _; rw [tmcs_app]; exact h1, grown_base hr h2 hY (Nat.le_refl _) hN⟩
theorem src_tm (wd : World) (x y : Int) : Src (wd.alloc (.cells #[.int .i64 x, .int .i64 y] 34)) 2 (some ⟨wd.heap.size, 0, none⟩) 1 1 (tmcs [(x, y)]) := by
  have hb := Box.new wd 34 #[.int .i64 x, .int .i64 y]
  refine .inr ⟨_, rfl, rfl, fun j u hu => ?_⟩
  rw [Addr.add_lit, Nat.zero_add]
  refine hb.c j ?_
  have : (#[Value.int .i64 x, Value.int .i64 y])[j]? = (tmcs [(x, y)])[j]? := by rw [← Array.getElem?_toList]; rfl
  rw [this]
  exact hu
theorem src_up {w w' : World} {b m c : Nat} {news : List Value} (h : Src w 2 (some ⟨b, 0, none⟩) m c news) (hb : Below w.heap.size w w') (hlt : b < w.heap.size) : Src w' 2 (some ⟨b, 0, none⟩) m c news := by
  rcases h with ⟨h1, _⟩ | ⟨ad, h1, h2, h3⟩
  · cases h1
  · obtain rfl := Option.some.inj h1
    refine .inr ⟨_, rfl, h2, fun j u hu => ?_⟩
    have := h3 j u hu
    rw [Addr.add_lit] at this ⊢
    rw [hb.cell hlt]
    exact this

set_option maxRecDepth 100000 in
set_option maxHeartbeats 8000000 in
theorem spoilt_any (P : P4) (A : Option Addr) (n c : Nat) (ys : List UInt8) (a b : Nat) (nn : Int) (ha : a < 256) (hb : b < 256) (hnn : I64 nn) (w : World) (hl : ys.length = n) (hmx : n ≤ maxLen) (hu : Us w A ys) : Calls Try.prog 5 #[.slice A n c, .int .u8 (a : Int), .int .u8 (b : Int), .int .i64 nn] w (BoolEnds true w) := by
  have HM := Lib.hid (made_any A n c ys w hl hmx hu)
  have HA := Lib.hid (awake_any P)
  have HT := Lib.hid (told_any P)
  clear P hl hu hmx
  obtain ⟨r, hr⟩ : ∃ r, b % 8 = r := ⟨_, rfl⟩
  have z1 : (b : Int).tmod 8 = (r : Int) := by rw [Int.tmod_eq_emod_of_nonneg (by omega)]; omega
  have z2 : (b : Int) % 8 = (r : Int) := by omega
  have z0 : IntKind.i64.wrap (b : Int) = (b : Int) := IntWalk.i64_in _ (by omega)
  have hr8 : r < 8 := by omega
  have hrI : (r : Int) < 8 := by omega
  have HNN := Lib.hid hnn
  clear hr hnn
  go_enter Try.func5, Try.ntmps5
  go_wp2_with fail
  refine HM.out.mono ?_
  rintro e w1 ⟨W, S, rfl, hO, hok, hwf, h60, hb1⟩
  have g1 := Box.new w1 25 (wcs W.now S)
  have hO1 := hO.up (ba1 w1 (.cells (wcs W.now S) 25))
  have hbb := bon hb1 (ba1 w1 (.cells (wcs W.now S) 25))
  have hlo := hok.lo
  have hfew := hok.few
  have hgB := hb1.size
  clear hO hok hb1 HM
  obtain ⟨now, hn⟩ : ∃ now, W.now = now := ⟨_, rfl⟩
  have HN := Lib.hid hn
  rw [hn] at g1 hO1 hbb hlo h60 ⊢
  unfold wv
  obtain ⟨g, hg⟩ : ∃ g, w1.heap.size = g := ⟨_, rfl⟩
  rw [hg] at g1 hgB
  go_upto_block 0 with (fail)
  obtain ⟨w2, hw2⟩ : ∃ X, w1.alloc (.cells (wcs now S) 25) = X := ⟨_, rfl⟩
  rw [hw2] at g1 hO1 hbb ⊢
  clear hw2 hg
  have HG := Lib.hid g1
  have HO := Lib.hid hO1
  have HB := Lib.hid hbb
  have HWf := Lib.hid hwf
  clear hO1 hbb hwf
  have hc := g1.slot hr8
  have hf := g1.f (1 + r)
  have hc0 := g1.c 0 (v := .int .i64 now) rfl
  have hf0 := g1.f 0
  clear hn
  go_cut [] (SpR w.heap.size g w)
  case first =>
    have hcase : a % 5 = 0 ∨ a % 5 = 1 ∨ a % 5 = 2 ∨ a % 5 = 3 ∨ a % 5 = 4 := by omega
    rcases hcase with hk | hk | hk | hk | hk
    · have q0 : ((a : Int) % 5 == 0) = true := by simp; omega
      clear hk
      have HP := Lib.hid (sp_now HG.out HO.out HWf.out (by omega) HB.out hgB HNN.out)
      go_wp2
      go_meet
      exact HP.out
    · have q0 : ((a : Int) % 5 == 0) = false := by simp; omega
      have q1 : ((a : Int) % 5 == 1) = true := by simp; omega
      clear hk
      have hM1 : manyN W + 1 ≤ 1000 := by omega
      have hSO : SpO w.heap.size g now W S w w2 := ⟨HG.out, HO.out, HWf.out, HB.out, hgB, HN.out⟩
      have hn1 : (S r).n ≤ 64 := by
        have h1 := (HO.out.row r hr8).len
        have h2 := len_le W hr8
        omega
      have y1 : now.tmod 8 = now % 8 := Int.tmod_eq_emod_of_nonneg (by omega)
      obtain ⟨v, hv⟩ : ∃ v, now % 8 = v := ⟨_, rfl⟩
      have hv8 : 0 ≤ v ∧ v < 8 := by omega
      rw [hv] at y1
      clear hv
      have y2 : IntKind.i64.wrap (now + 8) = now + 8 := IntWalk.i64_in _ (by omega)
      have y3 : IntKind.i64.wrap (now + 8 - v) = now + 8 - v := IntWalk.i64_in _ (by omega)
      have HTI : Hid (I64 (IntKind.i64.wrap (now + 8 - v + (r : Int)))) := Lib.hid (i64_wrap _)
      have HMN := Lib.hid (many_one W hr8 (nn, (IntKind.i64.wrap (now + 8 - v + (r : Int)))))
      obtain ⟨i0, hi, hz0, hz1, hz2⟩ := info_parts info34
      have hrIn : 0 ≤ (r : Int) ∧ (r : Int) < 8 := ⟨by omega, hrI⟩
      have HSrc : Hid (∀ X, Below w2.heap.size w2 X → Src X 2 (S r).A (S r).n (S r).c (tmcs (W.sl r))) := Lib.hid fun X hX => ((HO.out.row r hr8).ts.up hX).src (HO.out.row r hr8).len (HO.out.at.cap r hr8)
      have hbd0 : Below w2.heap.size w2 w2.drew := (Below.refl _ _).drew
      have hbd1 : Below w2.heap.size w2 (w2.alloc (.cells #[.int .i64 nn, .int .i64 (IntKind.i64.wrap (now + 8 - v + (r : Int)))] 34)).drew := (ba1 w2 (.cells #[.int .i64 nn, .int .i64 (IntKind.i64.wrap (now + 8 - v + (r : Int)))] 34)).drew
      have hsz0 : w2.heap.size ≤ w2.drew.heap.size := Nat.le_refl _
      have hsz1 : w2.heap.size ≤ (w2.alloc (.cells #[.int .i64 nn, .int .i64 (IntKind.i64.wrap (now + 8 - v + (r : Int)))] 34)).drew.heap.size := hbd1.size
      have hcA := (HG.out.alloc (.cells #[.int .i64 nn, .int .i64 (IntKind.i64.wrap (now + 8 - v + (r : Int)))] 34)).slot hr8
      have HSO := Lib.hid hSO
      have hL1 : 0 + (S r).n = (S r).n := Nat.zero_add _
      clear hSO
      go_wp2_with fail
      go_region_law (first | (refine step_app _ (by rfl) _ _ 22 (by rfl) w2.heap.size 34 i0 _ 2 16 (by decide) Try.underlying22 hi hz0 hz1 hz2 rfl (.slice none 0 0) 0 [] (by rfl) (World.ownsRow_nil _ _ _ _) (S r).A (S r).n (S r).c (tmcs (W.sl r)) (by rfl) (HSrc.out _ hbd0) (tmcs_one _) ?_ ?_ hsz0 (S r).n hL1 ?_; (unfold maxLen; omega); omega; intro A7 c7 w7 h1 h2 h3; obtain ⟨p1, p2, p3, p4⟩ := app_one hbd0 hsz0 h1 h2; have p5 := p1.up (ba1 w7 (.cells #[.int .i64 nn, .int .i64 (IntKind.i64.wrap (now + 8 - v + (r : Int)))] 34)); have p6 := p2.trans ((ba1 w7 (.cells #[.int .i64 nn, .int .i64 (IntKind.i64.wrap (now + 8 - v + (r : Int)))] 34)).mono p4); have p7 := src_tm w7 nn (IntKind.i64.wrap (now + 8 - v + (r : Int))); have p8 : w2.heap.size ≤ (w7.alloc (.cells #[.int .i64 nn, .int .i64 (IntKind.i64.wrap (now + 8 - v + (r : Int)))] 34)).heap.size := p6.size; have hn7 := (HSO.out.up p2).ha.c 0 (v := .int .i64 now) rfl; clear h1 h2 h3) | (refine step_app _ (by rfl) _ _ 22 (by rfl) w2.heap.size 34 i0 _ 2 16 (by decide) Try.underlying22 hi hz0 hz1 hz2 rfl (.slice none 0 0) 0 [] (by rfl) (World.ownsRow_nil _ _ _ _) (S r).A (S r).n (S r).c (tmcs (W.sl r)) (by rfl) (HSrc.out _ hbd1) (tmcs_one _) ?_ ?_ hsz1 (S r).n hL1 ?_; (unfold maxLen; omega); omega; intro A7 c7 w7 h1 h2 h3; obtain ⟨p5, p6, p3, p8⟩ := app_one hbd1 hsz1 h1 h2; have p7 := src_up (src_tm w2 nn (IntKind.i64.wrap (now + 8 - v + (r : Int)))) (((Below.refl _ _).drew).trans p3) (by simp); clear h1 h2 h3) | (refine step_app _ (by rfl) _ _ 22 (by rfl) w2.heap.size 34 i0 _ 2 16 (by decide) Try.underlying22 hi hz0 hz1 hz2 rfl (.slice A7 (S r).n c7) (S r).n (tmcs (W.sl r)) (by rfl) p5 _ 1 1 (tmcs [(nn, (IntKind.i64.wrap (now + 8 - v + (r : Int))))]) (by rfl) p7 (tmcs_one _) ?_ ?_ p8 ((S r).n + 1) rfl ?_; (unfold maxLen; omega); omega; intro A9 c9 w9 h1 h2 h3; obtain ⟨o1, o2⟩ := app_two p6 p8 p5 h1 h2; have hx9 := HSO.out.up o2; have hc9 := hx9.ha.slot hr8; have hf9 := hx9.ha.f (1 + r); have HP := Lib.hid ((HSO.out.lay hr8 o2 o1 ⟨HNN.out, HTI.out⟩).r (by rw [HMN.out]; exact hM1)); clear h1 h2 h3))
      all_goals (go_wp2_with fail; go_meet; exact HP.out)
    · have q0 : ((a : Int) % 5 == 0) = false := by simp; omega
      have q1 : ((a : Int) % 5 == 1) = false := by simp; omega
      have q2 : ((a : Int) % 5 == 2) = true := by simp; omega
      clear hk
      have hlen := (HO.out.row r hr8).len
      cases hxs : W.sl r with
      | nil =>
        have hz : (S r).n = 0 := by rw [← hlen, hxs]; rfl
        have HP : Hid (SpR w.heap.size g w w2) := Lib.hid ⟨W, S, by rw [HN.out]; exact HG.out, HO.out.at, HWf.out, by omega, HB.out⟩
        rw [hz] at hc
        clear hlen hxs
        go_wp2
        go_meet
        exact HP.out
      | cons t xs =>
        obtain ⟨x, y⟩ := t
        have hpos : 0 < (S r).n := by rw [← hlen, hxs]; simp
        obtain ⟨gr, hSA⟩ : ∃ gr, (S r).A = some ⟨gr, 0, none⟩ := by
          rcases (HO.out.row r hr8).2 with ⟨_, h2⟩ | ⟨gr, cap, cur, h1, _⟩
          · omega
          · simp only [Value.slice.injEq] at h1
            exact ⟨gr, h1.1⟩
        obtain ⟨m, cc, hS⟩ : ∃ m cc, S r = ⟨some ⟨gr, 0, none⟩, m, cc⟩ := ⟨(S r).n, (S r).c, by rw [← hSA]⟩
        have HP := Lib.hid (sp_at (m := nn) hr8 hS hxs (by rw [HN.out]; exact HG.out) HO.out HWf.out (by omega) HB.out HNN.out)
        have hrow := HO.out.row r hr8
        have hy := (hrow.ts.two (k := 0) (t := (x, y)) (by rw [hxs]; rfl))
        rw [hS] at hc hpos hrow hy
        obtain ⟨b', o', hA', _, _, hy⟩ := hy
        simp only [Option.some.injEq, Addr.mk.injEq, and_true] at hA'
        obtain ⟨rfl, rfl⟩ := hA'
        have hy : w2.cell? ⟨gr, 1, none⟩ = some (.int .i64 y) := by simpa using hy
        obtain ⟨_, _, cur, hcur⟩ := hrow.blk ⟨gr, 0, none⟩ rfl
        have hfy := (show Box w2 gr 34 cur from hcur).f 1
        simp only at hc hpos
        have hposI : (0 : Int) < (m : Int) := by omega
        clear hlen hxs hrow hcur hSA hS
        go_wp2
        go_meet
        exact HP.out
    · have q0 : ((a : Int) % 5 == 0) = false := by simp; omega
      have q1 : ((a : Int) % 5 == 1) = false := by simp; omega
      have q2 : ((a : Int) % 5 == 2) = false := by simp; omega
      have q3 : ((a : Int) % 5 == 3) = true := by simp; omega
      clear hk
      obtain ⟨m9, hm9⟩ : ∃ m9, b % 9 = m9 := ⟨_, rfl⟩
      have x1 : (b : Int).tmod 9 = (m9 : Int) := by rw [Int.tmod_eq_emod_of_nonneg (by omega)]; omega
      have x2 : (b : Int) % 9 = (m9 : Int) := by omega
      have hm8 : m9 ≤ 8 := by omega
      have x3 : IntKind.i64.wrap (60 + (m9 : Int)) = 60 + (m9 : Int) := IntWalk.i64_in _ (by omega)
      clear hm9
      have HSO0 : Hid (SpO w.heap.size g now W S w w2) := Lib.hid ⟨HG.out, HO.out, HWf.out, HB.out, hgB, HN.out⟩
      have y1 : now.tmod 8 = now % 8 := Int.tmod_eq_emod_of_nonneg (by omega)
      obtain ⟨v, hv⟩ : ∃ v, now % 8 = v := ⟨_, rfl⟩
      have hv8 : 0 ≤ v ∧ v < 8 := by omega
      rw [hv] at y1
      clear hv
      have y2 : IntKind.i64.wrap (now + 8) = now + 8 := IntWalk.i64_in _ (by omega)
      have y3 : IntKind.i64.wrap (now + 8 - v) = now + 8 - v := IntWalk.i64_in _ (by omega)
      obtain ⟨i0, hi, hz0, hz1, hz2⟩ := info_parts info34
      have hrIn : 0 ≤ (r : Int) ∧ (r : Int) < 8 := ⟨by omega, hrI⟩
      clear hc hf hc0 hf0
      go_wp2_with fail
      go_loopw [11] (fun vi wr => ∃ (i : Nat) (W' : Wl) (S' : Nat → Sli), i ≤ 60 + m9 ∧ vi = .int .i64 (i : Int) ∧ manyN W' ≤ 64 + i ∧ SpO w.heap.size g now W' S' w wr) (fun vi _ => 60 + m9 - (intOf vi).toNat)
      case atStart => exact ⟨0, W, S, Nat.zero_le _, rfl, by omega, HSO0.out⟩
      case round =>
        clear HSO0
        obtain ⟨i, W', S', hi6, rfl, hmW, hSO⟩ := hrel
        by_cases hlt : i < 60 + m9
        · have hltI : (i : Int) < 60 + (m9 : Int) := by omega
          have hn1 : (S' r).n ≤ 200 := by
            have h1 := (hSO.ho.row r hr8).len
            have h2 := len_le W' hr8
            omega
          have hc := hSO.ha.slot hr8
          have hf := hSO.ha.f (1 + r)
          have hc0 := hSO.ha.c 0 (v := .int .i64 now) rfl
          have HSO := Lib.hid hSO
          clear hSO
          have HIdI : Hid (I64 (IntKind.i64.wrap (100 + (i : Int)))) := Lib.hid (i64_wrap _)
          have HTI : Hid (I64 (IntKind.i64.wrap (now + 8 - v + (r : Int)))) := Lib.hid (i64_wrap _)
          have HMN := Lib.hid (many_one W' hr8 ((IntKind.i64.wrap (100 + (i : Int))), (IntKind.i64.wrap (now + 8 - v + (r : Int)))))
          have HSrc : Hid (∀ X, Below wr.heap.size wr X → Src X 2 (S' r).A (S' r).n (S' r).c (tmcs (W'.sl r))) := Lib.hid fun X hX => ((HSO.out.ho.row r hr8).ts.up hX).src (HSO.out.ho.row r hr8).len (HSO.out.ho.at.cap r hr8)
          have hbd0 : Below wr.heap.size wr wr.drew := (Below.refl _ _).drew
          have hbd1 : Below wr.heap.size wr (wr.alloc (.cells #[.int .i64 (IntKind.i64.wrap (100 + (i : Int))), .int .i64 (IntKind.i64.wrap (now + 8 - v + (r : Int)))] 34)).drew := (ba1 wr (.cells #[.int .i64 (IntKind.i64.wrap (100 + (i : Int))), .int .i64 (IntKind.i64.wrap (now + 8 - v + (r : Int)))] 34)).drew
          have hsz0 : wr.heap.size ≤ wr.drew.heap.size := Nat.le_refl _
          have hsz1 : wr.heap.size ≤ (wr.alloc (.cells #[.int .i64 (IntKind.i64.wrap (100 + (i : Int))), .int .i64 (IntKind.i64.wrap (now + 8 - v + (r : Int)))] 34)).drew.heap.size := hbd1.size
          have hcA := (HSO.out.ha.alloc (.cells #[.int .i64 (IntKind.i64.wrap (100 + (i : Int))), .int .i64 (IntKind.i64.wrap (now + 8 - v + (r : Int)))] 34)).slot hr8
          have hL1 : 0 + (S' r).n = (S' r).n := Nat.zero_add _
          go_wp2_with fail
          go_region_law (first | (refine step_app _ (by rfl) _ _ 22 (by rfl) wr.heap.size 34 i0 _ 2 16 (by decide) Try.underlying22 hi hz0 hz1 hz2 rfl (.slice none 0 0) 0 [] (by rfl) (World.ownsRow_nil _ _ _ _) (S' r).A (S' r).n (S' r).c (tmcs (W'.sl r)) (by rfl) (HSrc.out _ hbd0) (tmcs_one _) ?_ ?_ hsz0 (S' r).n hL1 ?_; (unfold maxLen; omega); omega; intro A7 c7 w7 h1 h2 h3; obtain ⟨p1, p2, p3, p4⟩ := app_one hbd0 hsz0 h1 h2; have p5 := p1.up (ba1 w7 (.cells #[.int .i64 (IntKind.i64.wrap (100 + (i : Int))), .int .i64 (IntKind.i64.wrap (now + 8 - v + (r : Int)))] 34)); have p6 := p2.trans ((ba1 w7 (.cells #[.int .i64 (IntKind.i64.wrap (100 + (i : Int))), .int .i64 (IntKind.i64.wrap (now + 8 - v + (r : Int)))] 34)).mono p4); have p7 := src_tm w7 (IntKind.i64.wrap (100 + (i : Int))) (IntKind.i64.wrap (now + 8 - v + (r : Int))); have p8 : wr.heap.size ≤ (w7.alloc (.cells #[.int .i64 (IntKind.i64.wrap (100 + (i : Int))), .int .i64 (IntKind.i64.wrap (now + 8 - v + (r : Int)))] 34)).heap.size := p6.size; have hn7 := (HSO.out.up p2).ha.c 0 (v := .int .i64 now) rfl; clear h1 h2 h3) | (refine step_app _ (by rfl) _ _ 22 (by rfl) wr.heap.size 34 i0 _ 2 16 (by decide) Try.underlying22 hi hz0 hz1 hz2 rfl (.slice none 0 0) 0 [] (by rfl) (World.ownsRow_nil _ _ _ _) (S' r).A (S' r).n (S' r).c (tmcs (W'.sl r)) (by rfl) (HSrc.out _ hbd1) (tmcs_one _) ?_ ?_ hsz1 (S' r).n hL1 ?_; (unfold maxLen; omega); omega; intro A7 c7 w7 h1 h2 h3; obtain ⟨p5, p6, p3, p8⟩ := app_one hbd1 hsz1 h1 h2; have p7 := src_up (src_tm wr (IntKind.i64.wrap (100 + (i : Int))) (IntKind.i64.wrap (now + 8 - v + (r : Int)))) (((Below.refl _ _).drew).trans p3) (by simp); clear h1 h2 h3) | (refine step_app _ (by rfl) _ _ 22 (by rfl) wr.heap.size 34 i0 _ 2 16 (by decide) Try.underlying22 hi hz0 hz1 hz2 rfl (.slice A7 (S' r).n c7) (S' r).n (tmcs (W'.sl r)) (by rfl) p5 _ 1 1 (tmcs [((IntKind.i64.wrap (100 + (i : Int))), (IntKind.i64.wrap (now + 8 - v + (r : Int))))]) (by rfl) p7 (tmcs_one _) ?_ ?_ p8 ((S' r).n + 1) rfl ?_; (unfold maxLen; omega); omega; intro A9 c9 w9 h1 h2 h3; obtain ⟨o1, o2⟩ := app_two p6 p8 p5 h1 h2; have hx9 := HSO.out.up o2; have hc9 := hx9.ha.slot hr8; have hf9 := hx9.ha.f (1 + r); have HP := Lib.hid ((HSO.out.lay hr8 o2 o1 ⟨HIdI.out, HTI.out⟩)); clear h1 h2 h3))
          all_goals (go_wp2_with fail; go_roundw)
          all_goals first | exact ⟨i + 1, _, _, by omega, by go_num, by rw [HMN.out]; omega, HP.out⟩ | (simp [intOf]; omega)
          
        · have : i = 60 + m9 := by omega
          subst this
          have HP := Lib.hid (hSO.r (by omega))
          clear hSO
          go_wp2_with fail
          go_meet
          exact HP.out
    · have q0 : ((a : Int) % 5 == 0) = false := by simp; omega
      have q1 : ((a : Int) % 5 == 1) = false := by simp; omega
      have q2 : ((a : Int) % 5 == 2) = false := by simp; omega
      have q3 : ((a : Int) % 5 == 3) = false := by simp; omega
      clear hk
      obtain ⟨s, hs⟩ : ∃ s, b % 3 = s := ⟨_, rfl⟩
      have y1 : (b : Int).tmod 3 = (s : Int) := by rw [Int.tmod_eq_emod_of_nonneg (by omega)]; omega
      have y2 : (b : Int) % 3 = (s : Int) := by omega
      have hs3 : s < 3 := by omega
      clear hs
      have HP := Lib.hid (sp_bare HG.out HB.out hgB (n := 9007199254740992 - (s : Int)) ⟨by omega, by omega⟩)
      obtain ⟨c0, c1, c2, c3, c4, c5, c6, c7, c8⟩ := g1.nine
      have f1 := g1.f 1
      have f2 := g1.f 2
      have f3 := g1.f 3
      have f4 := g1.f 4
      have f5 := g1.f 5
      have f6 := g1.f 6
      have f7 := g1.f 7
      have f8 := g1.f 8
      go_wp2
      go_meet
      exact HP.out
  case rest =>
    obtain ⟨W', S', hg', ha', hwf', hm', hb'⟩ := hcut
    clear hc hf hc0 hf0 HO HB HWf HG g1 HN hlo h60 hfew
    obtain ⟨now', hn'⟩ : ∃ now', W'.now = now' := ⟨_, rfl⟩
    obtain ⟨q, hq⟩ : ∃ q, IntKind.i64.wrap (now' + 3) = q := ⟨_, rfl⟩
    have hqI : I64 q := by rw [← hq]; exact i64_wrap _
    have HT1 : Hid (∀ X, Below wc.heap.size wc X → Calls Try.prog 9 #[wv now' S', .int .i64 8, .int .i64 q] X (BoolEnds true X)) := Lib.hid (fun X hX => hn' ▸ HT.out W' S' 8 q X (ha'.up hX) hwf' hm' ⟨by decide, by decide⟩ hqI)
    have HT2 : Hid (∀ X, Below wc.heap.size wc X → Calls Try.prog 9 #[wv now' S', .int .i64 nn, .int .i64 nn] X (BoolEnds true X)) := Lib.hid (fun X hX => hn' ▸ HT.out W' S' nn nn X (ha'.up hX) hwf' hm' HNN.out HNN.out)
    rw [hn'] at hg'
    clear ha' hwf' hm' HT hn' hqI
    unfold wv at HT1 HT2
    go_wp2_with fail
    refine (HA.out _).mono ?_
    rintro e w3 ⟨rfl, hb3⟩
    obtain ⟨c0, c1, c2, c3, c4, c5, c6, c7, c8⟩ := (hg'.up hb3).nine
    go_wp2_with fail
    refine (HT1.out _ hb3).mono ?_
    rintro e w4 ⟨rfl, hb4⟩
    clear c0 c1 c2 c3 c4 c5 c6 c7 c8
    obtain ⟨c0, c1, c2, c3, c4, c5, c6, c7, c8⟩ := ((hg'.up hb3).up hb4).nine
    go_wp2_with fail
    refine (HT2.out _ (bon hb3 hb4)).mono ?_
    rintro e w5 ⟨rfl, hb5⟩
    go_wp2
    go_ret
    exact ⟨rfl, bon (bon (bon hb' hb3) hb4) hb5⟩

end Go.Proofs.Ytncbfkoldllbpaa
