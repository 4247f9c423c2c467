/-
  The walks of the document's own own and Has.
-/
import Derived.Test.YtkglgbbekmljcaaRef1
import Derived.Test.YtkglgbbekmljcaaOnceW
import Derived.Test.YtkglgbbekmljcaaChange
import Derived.Deep.DeepCutAuto
namespace Go.Proofs.Ytkglgbbekmljcaa
open Go.RowKit

/-- what own hands back -/
def OwnEnds (T : Tb) (N M F : Nat) (w : World) (e : Ending) (w' : World) : Prop :=
  ∃ Ag cg Ab cb Af cf, e = .returned (tv Ag N cg Ab M cb Af F cf) ∧ Own0 w' w.heap.size T Ag N cg Ab M cb Af F cf ∧ Below w.heap.size w w'

/-- what the walk keeps: the blocks up to g, and the cells of the one that holds the argument -/
def Sg (g : Nat) (W : World) (v0 v1 v2 : Value) (X : World) : Prop := Below (g + 1) W X ∧ X.cell? ⟨g, 0, none⟩ = some v0 ∧ X.cell? ⟨g, 1, none⟩ = some v1 ∧ X.cell? ⟨g, 2, none⟩ = some v2
theorem sg_mk {g : Nat} {W X : World} {v0 v1 v2 : Value} (h0 : W.cell? ⟨g, 0, none⟩ = some v0) (h1 : W.cell? ⟨g, 1, none⟩ = some v1) (h2 : W.cell? ⟨g, 2, none⟩ = some v2) (hb : Below (g + 1) W X) :
    Below (g + 1) W X ∧ X.cell? ⟨g, 0, none⟩ = some v0 ∧ X.cell? ⟨g, 1, none⟩ = some v1 ∧ X.cell? ⟨g, 2, none⟩ = some v2 :=
  ⟨hb, (hb.cell (p := ⟨g, 0, none⟩) (Nat.lt_succ_self _)).trans h0, (hb.cell (p := ⟨g, 1, none⟩) (Nat.lt_succ_self _)).trans h1, (hb.cell (p := ⟨g, 2, none⟩) (Nat.lt_succ_self _)).trans h2⟩
theorem sg_up {g : Nat} {W X w' : World} {v0 v1 v2 : Value} (hg : g + 1 ≤ W.heap.size) (hb : Below X.heap.size X w') (h : Below (g + 1) W X ∧ X.cell? ⟨g, 0, none⟩ = some v0 ∧ X.cell? ⟨g, 1, none⟩ = some v1 ∧ X.cell? ⟨g, 2, none⟩ = some v2) : Below (g + 1) W w' :=
  h.1.trans (hb.mono (Nat.le_trans hg h.1.size))
theorem sg_set {g : Nat} {W X : World} {v0 v1 v2 : Value} (h : Below (g + 1) W X ∧ X.cell? ⟨g, 0, none⟩ = some v0 ∧ X.cell? ⟨g, 1, none⟩ = some v1 ∧ X.cell? ⟨g, 2, none⟩ = some v2) (x y z : Value) : Below (g + 1) W (((X.setCell ⟨g + 1, 0, none⟩ x).setCell ⟨g + 1, 1, none⟩ y).setCell ⟨g + 1, 2, none⟩ z) :=
  below_set3 h.1 (Nat.le_refl _) x y z
theorem blS {g : Nat} {w W X : World} {v0 v1 v2 : Value} (hw : Below w.heap.size w W) (hg : w.heap.size ≤ g + 1) (h : Below (g + 1) W X ∧ X.cell? ⟨g, 0, none⟩ = some v0 ∧ X.cell? ⟨g, 1, none⟩ = some v1 ∧ X.cell? ⟨g, 2, none⟩ = some v2) : Below w.heap.size w X := hw.trans (h.1.mono hg)
theorem szS {g : Nat} {W X : World} {v0 v1 v2 : Value} (h : Below (g + 1) W X ∧ X.cell? ⟨g, 0, none⟩ = some v0 ∧ X.cell? ⟨g, 1, none⟩ = some v1 ∧ X.cell? ⟨g, 2, none⟩ = some v2) : W.heap.size ≤ X.heap.size := h.1.size

theorem own_far3 {w : World} {B n c p : Nat} {t : TypeId} {A : Option Addr} {vs : List Value} {cs : Array Value} (h : w.ownsRow B t 1 (.slice A n c) n vs) (hb : Box w p 25 cs) (ht : 25 ≠ t) (x y z : Value) :
    (((w.setCell ⟨p, 0, none⟩ x).setCell ⟨p, 1, none⟩ y).setCell ⟨p, 2, none⟩ z).ownsRow B t 1 (.slice A n c) n vs := by
  have hne := (Row.of_own h).ne hb ht
  exact own_far (own_far (own_far h (p := ⟨p, 0, none⟩) hne _) (p := ⟨p, 1, none⟩) hne _) (p := ⟨p, 2, none⟩) hne _

section
variable {Ag Ab Af : Option Addr} {N cg M cb F cf : Nat} {T : Tb} {w : World}

set_option maxRecDepth 100000 in
set_option maxHeartbeats 4000000 in
theorem own_any (h : At w T Ag N cg Ab M cb Af F cf) :
    Calls Try.prog 30 #[tv Ag N cg Ab M cb Af F cf] w (OwnEnds T N M F w) := by
  obtain ⟨i3, hi3, hz30, hz31, hz32⟩ := info_parts info3
  obtain ⟨i4, hi4, hz40, hz41, hz42⟩ := info_parts info4
  have hN := h.hN
  have hM := h.hM
  have hF := h.hF
  have HH := Lib.hid h
  clear h
  unfold tv
  go_enter Try.func30, Try.ntmps30
  go_wp2_with fail
  have hA := HH.out
  have HSG := Lib.hid (hA.g.src hA.lg hA.cg0)
  have HSB := Lib.hid (hA.b.src hA.lb hA.cb0)
  have HSF := Lib.hid (hA.f.src hA.lf hA.cf0)
  obtain ⟨⟨p0, p1, p2⟩, _⟩ := ((Box.new w 25 #[.slice Ag N cg, .slice Ab M cb, .slice Af F cf]).alloc (.cells #[.slice none 0 0, .slice none 0 0, .slice none 0 0] 25)).three
  have bR := Box.mk' (w.alloc (.cells #[.slice Ag N cg, .slice Ab M cb, .slice Af F cf] 25)) 25 #[.slice none 0 0, .slice none 0 0, .slice none 0 0] (w.heap.size + 1) (by simp)
  have hw0 := ba2 w (.cells #[.slice Ag N cg, .slice Ab M cb, .slice Af F cf] 25) (.cells #[.slice none 0 0, .slice none 0 0, .slice none 0 0] 25)
  clear hA HH
  generalize (w.alloc (.cells #[.slice Ag N cg, .slice Ab M cb, .slice Af F cf] 25)).alloc (.cells #[.slice none 0 0, .slice none 0 0, .slice none 0 0] 25) = W0 at *
  obtain ⟨⟨d0, d1, d2⟩, e0, e1, e2⟩ := bR.three
  have HW0 := Lib.hid hw0
  clear hw0
  have hgW : w.heap.size + 1 ≤ W0.heap.size := by have := bR.lt; omega
  go_region_held3 (fun w' => Below (w.heap.size + 1) W0 w' ∧ w'.cell? ⟨w.heap.size, 0, none⟩ = some (.slice Ag N cg) ∧ w'.cell? ⟨w.heap.size, 1, none⟩ = some (.slice Ab M cb) ∧ w'.cell? ⟨w.heap.size, 2, none⟩ = some (.slice Af F cf))
    (first | exact sg_mk p0 p1 p2 (sg_up hgW hbF (by assumption)) | exact sg_mk p0 p1 p2 (sg_up hgW hbB (by assumption)) | exact sg_mk p0 p1 p2 (sg_up hgW hbG (by assumption)) | exact sg_mk p0 p1 p2 (sg_set (by assumption) _ _ _) | exact sg_mk p0 p1 p2 (Below.refl _ _).drew)
    (first
      | (refine step_app _ (by rfl) _ _ 22 (by rfl) W0.heap.size 3 i3 (.int .i64 0) 8 Try.underlying22 hi3 hz30 hz31 hz32 rfl _ 0 [] (by rfl) (World.ownsRow_nil _ _ _ _) Ag N cg (T.gens.map (Value.int .i64)) (by rfl) (HSG.out.up (blS HW0.out (Nat.le_succ _) (by assumption))) (one_iv _) ?_ ?_ ?_ N (Nat.zero_add _) ?_; (unfold maxLen; omega); omega; exact szS (by assumption); intro AG cG wG hoG hgG _; have hbG := grown_none hgG)
      | (refine step_app _ (by rfl) _ _ 23 (by rfl) W0.heap.size 4 i4 (.bool false) 1 Try.underlying23 hi4 hz40 hz41 hz42 rfl _ 0 [] (by rfl) (World.ownsRow_nil _ _ _ _) Ab M cb (T.busy.map Value.bool) (by rfl) (HSB.out.up (blS HW0.out (Nat.le_succ _) (by assumption))) (one_bv _) ?_ ?_ ?_ M (Nat.zero_add _) ?_; (unfold maxLen; omega); omega; exact szS (by assumption); intro AB cB wB hoB hgB _; have hbB := grown_none hgB)
      | (refine step_app _ (by rfl) _ _ 22 (by rfl) wB.heap.size 3 i3 (.int .i64 0) 8 Try.underlying22 hi3 hz30 hz31 hz32 rfl _ 0 [] (by rfl) (World.ownsRow_nil _ _ _ _) Af F cf (T.free.map (Value.int .i64)) (by rfl) (HSF.out.up (blS HW0.out (Nat.le_succ _) (by assumption))) (one_iv _) ?_ ?_ ?_ F (Nat.zero_add _) ?_; (unfold maxLen; omega); omega; exact Nat.le_refl _; intro AF cF wF hoF hgF _; have hbF := grown_none hgF; have xF := ((Box.up (w := W0.drew) bR hbG).up hbB).up hbF; obtain ⟨⟨q0, q1, q2⟩, s0, s1, s2⟩ := xF.three))
  rename_i hHeld
  have hfin := hHeld.1
  clear hHeld q0 q1 q2 s0 s1 s2
  obtain ⟨⟨q0, q1, q2⟩, _⟩ := (xF.set3 (.slice AG N cG) (.slice AB M cB) (.slice AF F cF)).three
  have sG : W0.heap.size ≤ wG.heap.size := hbG.size
  have sB := hbB.size
  have sF := hbF.size
  have sW := HW0.out.size
  have fG := own_far3 (own_up (own_up hoG hbB) hbF) xF (by decide) (.slice AG N cG) (.slice AB M cB) (.slice AF F cF)
  have fB := own_far3 (own_up hoB hbF) xF (by decide) (.slice AG N cG) (.slice AB M cB) (.slice AF F cF)
  have fF := own_far3 hoF xF (by decide) (.slice AG N cG) (.slice AB M cB) (.slice AF F cF)
  have hd : ∀ p q, AG = some p → AF = some q → p.block ≠ q.block := by
    intro p q hp hq
    have h1 := ((Row.of_own hoG).blk p hp).2
    have h2 := ((Row.of_own hoF).blk q hq).1
    omega
  have HO : Hid (Own0 (((wF.setCell ⟨w.heap.size + 1, 0, none⟩ (.slice AG N cG)).setCell ⟨w.heap.size + 1, 1, none⟩ (.slice AB M cB)).setCell ⟨w.heap.size + 1, 2, none⟩ (.slice AF F cF)) w.heap.size T AG N cG AB M cB AF F cF) :=
    Lib.hid ⟨own_mono (by simpa using fG) (by omega), own_mono (by simpa using fB) (by omega), own_mono (by simpa using fF) (by omega), hd⟩
  have HB : Hid (Below w.heap.size w (((wF.setCell ⟨w.heap.size + 1, 0, none⟩ (.slice AG N cG)).setCell ⟨w.heap.size + 1, 1, none⟩ (.slice AB M cB)).setCell ⟨w.heap.size + 1, 2, none⟩ (.slice AF F cF))) := Lib.hid (HW0.out.trans (hfin.mono (Nat.le_succ _)))
  clear fG fB fF hd hfin
  go_wp2_with fail
  refine bodyPost_ret (v := tv AG N cG AB M cB AF F cF) (by simp [results, Try.results30, go_sem, q0, q1, q2]) rfl ?_
  exact ⟨AG, cG, AB, cB, AF, cF, rfl, HO.out, HB.out⟩

theorem has_div {n k : Nat} {g id : Int} (hn : 0 < n) (hk : id % (n : Int) = k) : (g = id / (n : Int)) ↔ g * (n : Int) + k = id := by
  have h := Int.emod_add_mul_ediv id (n : Int)
  rw [hk] at h
  constructor
  · rintro rfl
    rw [Int.mul_comm]
    omega
  · intro hh
    rw [← hh, Int.add_comm, Int.add_mul_ediv_right _ _ (by omega)]
    have h1 := Int.emod_lt_of_pos id (show (0 : Int) < n by omega)
    rw [Int.ediv_eq_zero_of_lt (by omega) (by omega)]
    omega

set_option maxHeartbeats 2000000 in
theorem rhas_any (h : At w T Ag N cg Ab M cb Af F cf) (id : Int) (hid : id ≤ 9223372036854775807) :
    Calls Try.prog 20 #[tv Ag N cg Ab M cb Af F cf, .int .i64 id] w fun e w' => e = .returned (.bool (hasT T id)) ∧ Below w.heap.size w w' := by
  have HH := Lib.hid h
  clear h
  unfold tv
  go_enter Try.func20, Try.ntmps20
  go_wp2_with fail
  refine (rright_any (HH.out.up (ba1 _ _))).mono ?_
  rintro e w1 ⟨rfl, hb1⟩
  have b1 := (Box.new w 25 #[.slice Ag N cg, .slice Ab M cb, .slice Af F cf]).up hb1
  have hw1 := bon (ba1 w _) hb1
  clear hb1
  obtain ⟨⟨c0, c1, c2⟩, _⟩ := b1.three
  cases hok : okT T with
  | false =>
    have HE : Hid (hasT T id = false) := Lib.hid (by simp [hasT, hok])
    clear hok
    go_wp2
    go_ret
    exact ⟨ret_bool HE.out.symm, hw1⟩
  | true =>
    obtain ⟨o1, o2, o3, _, _⟩ := ok_true hok
    rw [HH.out.lg] at o1 o2 o3
    have hMN : M = N := by rw [← HH.out.lb]; exact o3
    subst hMN
    by_cases h0 : id < 0
    · have HE : Hid (hasT T id = false) := Lib.hid (by simp [hasT, hasB]; omega)
      clear hok o3
      go_wp2
      go_ret
      exact ⟨ret_bool HE.out.symm, hw1⟩
    · obtain ⟨k, hk⟩ : ∃ k : Nat, id % (M : Int) = k := Int.eq_ofNat_of_zero_le (Int.emod_nonneg _ (by omega))
      have hkN : k < M := by have := Int.emod_lt_of_pos id (show (0 : Int) < M by omega); omega
      have HE : Hid (hasT T id = (bd T.busy k && decide (gd T.gens k = id / (M : Int)))) := Lib.hid (by
        rw [hasT, hok, hasB, HH.out.lg, hk]
        simp only [Int.toNat_natCast, Bool.true_and]
        rw [decide_eq_true (show 0 ≤ id by omega), Bool.true_and]
        congr 1
        rw [Bool.eq_iff_iff, decide_eq_true_iff, decide_eq_true_iff, has_div (by omega) hk])
      obtain ⟨bb, ob, rfl, hbb, hcb⟩ := Bl.at (HH.out.up hw1).b (k := k) (by rw [HH.out.lb]; exact hkN)
      obtain ⟨bg, og, rfl, hbg, hcg⟩ := Is.at (HH.out.up hw1).g (k := k) (by rw [HH.out.lg]; exact hkN)
      have h0' : 0 ≤ id := by omega
      clear hok o3
      cases hbd : bd T.busy k with
      | false =>
        rw [hbd] at hcb HE
        clear hbd
        go_wp2_with fail
        go_quiet (fail)
        go_wp2
        go_ret
        exact ⟨ret_bool (by rw [HE.out]; rfl), below_drewN hw1 _⟩
      | true =>
        rw [hbd] at hcb HE
        clear hbd
        go_wp2_with fail
        go_quiet (fail)
        go_wp2
        go_ret
        exact ⟨ret_bool (by rw [HE.out]; rfl), below_drewN hw1 _⟩

end
end Go.Proofs.Ytkglgbbekmljcaa
