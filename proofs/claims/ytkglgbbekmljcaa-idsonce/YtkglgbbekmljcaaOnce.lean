/-
  The walk of the law IdsOnce.
-/
import Derived.Test.YtkglgbbekmljcaaSl
import Derived.Test.YtkglgbbekmljcaaAwake
import Derived.Deep.LoopGhost
import Derived.Deep.DeepCutAuto
import Derived.Deep.RegionHeld3
import Derived.IntWalk
namespace Go.Proofs.Ytkglgbbekmljcaa
open Go.RowKit

/-- bytes -/
abbrev Us (w : World) (A : Option Addr) (xs : List UInt8) : Prop := Vs (fun b : UInt8 => Value.int .u8 (b.toNat : Int)) 0 w A xs

theorem Inv.sm {n i : Nat} {T : Tb} {all inn : List Int} (h : Inv n i T all inn) : Sm T := by
  obtain ⟨n1, n2, n3⟩ := h.np
  have hl := h.l
  have hg := h.len
  refine ⟨by omega, by omega, by omega, fun x hx => ?_⟩
  have := ok_free h.ok hx
  exact wf_small (by omega) (by omega)

theorem Inv.bound {n i : Nat} {T : Tb} {all inn : List Int} (h : Inv n i T all inn) {x : Int} (hx : x ∈ inn) : 0 ≤ x ∧ x ≤ 9223372036854775807 := by
  obtain ⟨n1, n2, n3⟩ := h.np
  obtain ⟨x1, _, x3⟩ := has_true (h.h x hx)
  rw [h.len] at x3
  refine ⟨x1, ?_⟩
  obtain ⟨_, _, _, o4, _⟩ := ok_true h.ok
  have e0 := Int.emod_nonneg x (show (n : Int) ≠ 0 by omega)
  have e1 := Int.emod_lt_of_pos x (show (0 : Int) < n by omega)
  obtain ⟨k0, k1⟩ := o4 (x % (n : Int)).toNat (by rw [h.len]; omega)
  have hq : gd T.gens (x % (n : Int)).toNat * (n : Int) ≤ 9007199254740992 * 64 := Int.mul_le_mul k1 (by omega) (by omega) (by omega)
  omega

/-- what stands between two rounds -/
def OnceR (n i B g : Nat) (w : World) (va vi : Value) (wr : World) : Prop :=
  ∃ T all inn Ag N cg Ab M cb Af F cf Aa La ca Ai Li ci, va = .slice Aa La ca ∧ vi = .slice Ai Li ci ∧ Hid (Inv n i T all inn) ∧ OnceW B g w T all inn Ag N cg Ab M cb Af F cf Aa La ca Ai Li ci wr

theorem OnceW.inAt {B g : Nat} {w wr : World} {T : Tb} {all inn : List Int} {Ag : Option Addr} {N cg : Nat} {Ab : Option Addr} {M cb : Nat} {Af : Option Addr} {F cf : Nat} {Aa : Option Addr} {La ca : Nat} {Ai : Option Addr} {Li ci : Nat}
    (h : OnceW B g w T all inn Ag N cg Ab M cb Af F cf Aa La ca Ai Li ci wr) {j : Nat} (hj : j < Li) : ∃ gi, Ai = some ⟨gi, 0, none⟩ ∧ gi < wr.heap.size ∧ wr.cell? ⟨gi, j, none⟩ = some (.int .i64 (gd inn j)) ∧ gd inn j ∈ inn := by
  obtain ⟨gi, h1, _, h2, h3⟩ := own_at h.i (by omega)
  have hl : j < inn.length := by rw [h.li]; exact hj
  refine ⟨gi, h1, h2, ?_, ?_⟩
  · rw [(h3 j hj).1, List.getElem?_map, List.getElem?_eq_getElem hl, gd_eq hl]
    rfl
  · rw [gd_eq hl]
    exact List.getElem_mem hl

theorem onS {W X w' : World} {a0 a1 a2 a3 : Addr} {v0 v1 v2 v3 : Value} (hb : Below X.heap.size X w')
    (h : Below W.heap.size W X ∧ X.cell? a0 = some v0 ∧ X.cell? a1 = some v1 ∧ X.cell? a2 = some v2 ∧ X.cell? a3 = some v3) :
    Below W.heap.size W w' ∧ w'.cell? a0 = some v0 ∧ w'.cell? a1 = some v1 ∧ w'.cell? a2 = some v2 ∧ w'.cell? a3 = some v3 :=
  ⟨bon h.1 hb, cell_up hb h.2.1, cell_up hb h.2.2.1, cell_up hb h.2.2.2.1, cell_up hb h.2.2.2.2⟩

theorem onS3 {W X : World} {a0 a1 a2 a3 : Addr} {v0 v1 v2 v3 : Value} (h0 : W.cell? a0 = some v0) (h1 : W.cell? a1 = some v1) (h2 : W.cell? a2 = some v2) (h3 : W.cell? a3 = some v3) (g' : Nat) (hg : W.heap.size ≤ g') (x y z : Value)
    (h : Below W.heap.size W X ∧ X.cell? a0 = some v0 ∧ X.cell? a1 = some v1 ∧ X.cell? a2 = some v2 ∧ X.cell? a3 = some v3) :
    Below W.heap.size W (((X.setCell ⟨g', 0, none⟩ x).setCell ⟨g', 1, none⟩ y).setCell ⟨g', 2, none⟩ z) ∧ (((X.setCell ⟨g', 0, none⟩ x).setCell ⟨g', 1, none⟩ y).setCell ⟨g', 2, none⟩ z).cell? a0 = some v0 ∧ (((X.setCell ⟨g', 0, none⟩ x).setCell ⟨g', 1, none⟩ y).setCell ⟨g', 2, none⟩ z).cell? a1 = some v1 ∧ (((X.setCell ⟨g', 0, none⟩ x).setCell ⟨g', 1, none⟩ y).setCell ⟨g', 2, none⟩ z).cell? a2 = some v2 ∧ (((X.setCell ⟨g', 0, none⟩ x).setCell ⟨g', 1, none⟩ y).setCell ⟨g', 2, none⟩ z).cell? a3 = some v3 := by
  have hb := below_set3 h.1 hg x y z
  exact ⟨hb, cell_up hb h0, cell_up hb h1, cell_up hb h2, cell_up hb h3⟩

/-- what stands behind Give -/
def CutGive (T' : Tb) (wr : World) (c15 c16 : Value) (wx : World) : Prop :=
  ∃ gq Ag N cg Ab M cb Af F cf, c15 = .pointer (some ⟨gq, 0, none⟩) ∧ c16 = .int .i64 0 ∧ Box wx gq 25 #[.slice Ag N cg, .slice Ab M cb, .slice Af F cf] ∧ RowT wx wr.heap.size T' Ag N cg Ab M cb Af F cf ∧ Below wr.heap.size wr wx ∧ wr.heap.size ≤ gq

theorem cg_a {T' : Tb} {wr wP : World} {Ag : Option Addr} {N cg : Nat} {Ab : Option Addr} {M cb : Nat} {Af : Option Addr} {F cf : Nat} (hr : RowT wP wr.drew.heap.size T' Ag N cg Ab M cb Af F cf) (hb : Below wr.drew.heap.size wr.drew wP) :
    CutGive T' wr (.pointer (some ⟨wP.heap.size, 0, none⟩)) (.int .i64 0) (wP.alloc (.cells #[.slice Ag N cg, .slice Ab M cb, .slice Af F cf] 25)) :=
  ⟨wP.heap.size, Ag, N, cg, Ab, M, cb, Af, F, cf, rfl, rfl, Box.new _ _ _, hr.up (ba1 _ _), bon (bon (Below.refl wr.heap.size wr).drew hb) (ba1 _ _), hb.size⟩

theorem cg_b {T' : Tb} {wr wP : World} {Ag : Option Addr} {N cg : Nat} {Ab : Option Addr} {M cb : Nat} {Af : Option Addr} {F cf : Nat} {cs : Array Value} (hcs : cs = #[.slice none 0 0, .slice none 0 0, .slice none 0 0]) (hr : RowT wP (wr.alloc (.cells cs 25)).drew.heap.size T' Ag N cg Ab M cb Af F cf) (hb : Below (wr.alloc (.cells cs 25)).drew.heap.size (wr.alloc (.cells cs 25)).drew wP) :
    CutGive T' wr (.pointer (some ⟨wr.heap.size, 0, none⟩)) (.int .i64 0) (((wP.setCell ⟨wr.heap.size, 0, none⟩ (.slice Ag N cg)).setCell ⟨wr.heap.size, 1, none⟩ (.slice Ab M cb)).setCell ⟨wr.heap.size, 2, none⟩ (.slice Af F cf)) := by
  subst hcs
  have bq : Box wP wr.heap.size 25 #[.slice none 0 0, .slice none 0 0, .slice none 0 0] := Box.up (w := (wr.alloc (.cells #[.slice none 0 0, .slice none 0 0, .slice none 0 0] 25)).drew) (Box.new wr 25 _) hb
  have h1 : Below wr.heap.size wr wP := bon (w1 := (wr.alloc (.cells #[.slice none 0 0, .slice none 0 0, .slice none 0 0] 25)).drew) (ba1 wr _).drew hb
  exact ⟨wr.heap.size, Ag, N, cg, Ab, M, cb, Af, F, cf, rfl, rfl, bq.set3 _ _ _, (hr.far3 bq (by decide) (by decide) _ _ _).mono (by show wr.heap.size ≤ (wr.alloc _).heap.size; simp), below_set3 h1 (Nat.le_refl _) _ _ _, Nat.le_refl _⟩

theorem has_in {n i : Nat} {T : Tb} {all inn : List Int} (h : Inv n i T all inn) {x : Int} (hx : x ∈ inn) : hasT T x = true := by rw [hasT, h.ok, h.h x hx]; rfl

/-- the loop's relation -/
def OnceL (n L B g : Nat) (w : World) (va vi ik : Value) (wr : World) : Prop :=
  ∃ k : Nat, ik = .int .i64 (k : Int) ∧ k ≤ L ∧ k ≤ 100 ∧ OnceR n k B g w va vi wr

set_option maxRecDepth 100000 in
set_option maxHeartbeats 4000000 in
theorem once_any (R : Nat) (hR : R < 256) (A : Option Addr) (L c : Nat) (ys : List UInt8) (w : World) (HY : Hid (ys.length = L)) (hL : L ≤ maxLen) (hB : Us w A ys) :
    Calls Try.prog 6 #[.int .u8 (R : Int), .slice A L c] w fun e w' => e = .returned (.bool true) ∧ Below w.heap.size w w' := by
  unfold maxLen at hL
  go_enter Try.func6, Try.ntmps6
  go_wp2_with fail
  refine (awake_any _).mono ?_
  rintro e w1 ⟨rfl, hb1⟩
  go_wp2_with fail
  obtain ⟨n, hn⟩ : ∃ n : Nat, n = 1 + R % 64 := ⟨_, rfl⟩
  have hn1 : 1 ≤ n := by omega
  have hn2 : n ≤ 64 := by omega
  have eN : (1 + (R : Int) % 64) = (n : Int) := by omega
  rw [eN]
  refine (new_any n w1).mono ?_
  rintro e w2 ⟨Ag0, N0, cg0, Ab0, M0, cb0, Af0, F0, cf0, rfl, h2, hb2⟩
  have hw2 := bon hb1 hb2
  have HN := Lib.hid eN
  clear eN hn
  go_wp2_with fail
  have hW : OnceW w.heap.size w2.heap.size w (newT n) [] [] Ag0 N0 cg0 Ab0 M0 cb0 Af0 F0 cf0 none 0 0 none 0 0 (w2.alloc (.cells #[.slice Ag0 N0 cg0, .slice Ab0 M0 cb0, .slice Af0 F0 cf0] 25)) :=
    ⟨Box.new _ _ _, (h2.up (ba1 _ _)).mono hb1.size, World.ownsRow_nil _ _ _ _, World.ownsRow_nil _ _ _ _, Off.nil _, Off.nil _, Off.nil _, Off.nil _, Off.nil _, bon hw2 (ba1 _ _), hw2.size⟩
  clear hb1 hb2 h2
  generalize w2.alloc (.cells #[.slice Ag0 N0 cg0, .slice Ab0 M0 cb0, .slice Af0 F0 cf0] 25) = w3 at *
  generalize w2.heap.size = g at *
  go_loopw [7, 8, 9] (OnceL n L w.heap.size g w) (fun _ _ i _ => 100 - (intOf i).toNat)
  case atStart => exact ⟨0, rfl, by omega, by omega, _, _, _, _, _, _, _, _, _, _, _, _, _, _, _, _, _, _, rfl, rfl, Lib.hid (inv_new hn1 hn2), hW⟩
  case round =>
    obtain ⟨k, rfl, hk1, hk2, T, all, inn, Ag, N, cg, Ab, M, cb, Af, F, cf, Aa, La, ca, Ai, Li, ci, rfl, rfl, HI, hW⟩ := hrel
    by_cases hlt : k < L
    · by_cases hlt2 : k < 100
      · obtain ⟨b, off, rfl, hbl, hcell⟩ := hB (by rw [HY.out]; omega)
        have hy0 : wr.cell? ⟨b, off + k, none⟩ = some (.int .u8 ((ys[k]?.getD 0).toNat : Int)) := (hW.l.cell (p := ⟨b, off + k, none⟩) hbl).trans (hcell k (by rw [HY.out]; omega))
        generalize ys[k]?.getD 0 = y at hy0
        have hyl : y.toNat < 256 := UInt8.toNat_lt y
        obtain ⟨z, hz⟩ : ∃ z : Nat, z = y.toNat := ⟨_, rfl⟩
        rw [← hz] at hy0 hyl
        have HW := Lib.hid hW
        clear hcell hB hz hW
        go_upto_if 41 with fail
        go_cut [7, 8] (OnceR n (k + 1) w.heap.size g w)
        case first =>
          obtain ⟨⟨p0, p1, p2⟩, e0, e1, e2⟩ := HW.out.b.three
          have HL64 : Li ≤ 64 := by have := HI.out.l; have := HI.out.np; have := HW.out.li; omega
          have HLa : La ≤ 100 := by have := HI.out.la; have := HW.out.la; omega
          by_cases hev : z % 3 = 0
          · have hev' : ¬ (0 : Int) < (z : Int) % 3 := by omega
            clear hev
            by_cases hLi0 : Li = 0
            · subst hLi0
              have HI1 : Hid (Inv n (k + 1) T all inn) := Lib.hid { HI.out with g := fun q hq => (by have := HI.out.g q hq; omega), la := by have := HI.out.la; omega }
              go_wp2
              go_meet
              exact ⟨_, _, _, _, _, _, _, _, _, _, _, _, _, _, _, _, _, _, rfl, rfl, HI1, HW.out⟩
            · obtain ⟨j, hj⟩ : ∃ j : Nat, j = z / 3 % Li := ⟨_, rfl⟩
              have hjl : j < Li := by rw [hj]; exact Nat.mod_lt _ (by omega)
              obtain ⟨gi, rfl, hgi, hcj, hmj⟩ := HW.out.inAt hjl
              obtain ⟨T', i1, i2, i3⟩ := HI.out.give (j := j) (by rw [HW.out.li]; exact hjl) (by omega)
              have hbd := (HI.out.bound hmj).2
              have HG : Hid (∀ W, Below wr.heap.size wr W → Calls Try.prog 14 #[.agg #[.slice Ag N cg, .slice Ab M cb, .slice Af F cf], .int .i64 (gd inn j)] W (GiveEnds (T', 0) W)) := Lib.hid (fun W hb => give_at (HW.out.r.up hb) HI.out.sm (gd inn j) hbd i1)
              have HI3 := Lib.hid i3
              have HH2 := Lib.hid i2
              have t1 : IntKind.i64.wrap (z : Int) = (z : Int) := IntWalk.i64_in _ (by omega)
              have t2 : IntKind.i64.wrap ((z : Int).tdiv 3) = (z : Int) / 3 := by rw [Int.tdiv_eq_ediv_of_nonneg (by omega)]; exact IntWalk.i64_in _ (by omega)
              have t4 : IntKind.i64.wrap ((z : Int) / 3) = (z : Int) / 3 := IntWalk.i64_in _ (by omega)
              have t3 : ((z : Int) / 3).tmod (Li : Int) = (j : Int) := by rw [Int.tmod_eq_emod_of_nonneg (by omega), hj]; simp
              have HM := Lib.hid hmj
              clear hmj i1 i2 i3 hj
              generalize gd inn j = x at *
              have hLi1 : (0 : Int) < (Li : Int) := by omega
              have hLi2 : ¬ (Li : Int) = 0 := by omega
              go_wp2_with fail
              go_cut [15, 16] (CutGive T' wr)
              case first =>
                have hS0 := Lib.hid (And.intro (Below.refl wr.heap.size wr) (And.intro p0 (And.intro p1 (And.intro p2 hcj))))
                go_region_held3 (fun w' => Below wr.heap.size wr w' ∧ w'.cell? ⟨g, 0, none⟩ = some (.slice Ag N cg) ∧ w'.cell? ⟨g, 1, none⟩ = some (.slice Ab M cb) ∧ w'.cell? ⟨g, 2, none⟩ = some (.slice Af F cf) ∧ w'.cell? ⟨gi, j, none⟩ = some (.int .i64 x))
                  (first | exact onS hbP (by assumption) | exact onS (ba1 _ _) (by assumption) | exact onS (bon hbP (ba1 _ _)) (onS (Below.refl _ _).drew hS0.out) | exact onS3 p0 p1 p2 hcj _ (Nat.le_refl _) _ _ _ (onS hbP (onS (ba1 _ _).drew hS0.out)) | exact onS (ba1 _ _).drew hS0.out | exact onS (Below.refl _ _).drew hS0.out)
                  (first
                    | (go_at_call 14; refine (HG.out _ ?_).mono ?_; exact (Below.refl wr.heap.size wr).drew; rintro e wP ⟨A5, N5, c5, B5, M5, d5, C5, F5, f5, rfl, h5, hbP⟩)
                    | (go_at_call 14; refine (HG.out _ ?_).mono ?_; exact (ba1 wr _).drew; rintro e wP ⟨A5, N5, c5, B5, M5, d5, C5, F5, f5, rfl, h5, hbP⟩; obtain ⟨⟨q0, q1, q2⟩, r0, r1, r2⟩ := (Box.up (w := (wr.alloc (.cells #[.slice none 0 0, .slice none 0 0, .slice none 0 0] 25)).drew) (Box.new wr 25 #[.slice none 0 0, .slice none 0 0, .slice none 0 0]) hbP).three))
                all_goals (go_wp2_with fail; go_meet)
                · exact cg_a h5 hbP
                · exact cg_b rfl h5 hbP
              case rest =>
                obtain ⟨gq, A5, N5, c5, B5, M5, d5, C5, F5, f5, rfl, rfl, bq, hr5, hbx, hgq⟩ := hcut
                have hcj5 := cell_up hbx hcj
                obtain ⟨⟨q0, q1, q2⟩, _⟩ := bq.three
                have HX := Lib.hid (fun W hb => has_at (W := W) (hr5.up hb) HI3.out.sm x hbd HH2.out)
                have HR5 := Lib.hid hr5
                have HBX := Lib.hid hbx
                clear p0 p1 p2 e0 e1 e2 hcj hr5 hbx t1 t2 t3 t4 HG
                go_wp2_with fail
                go_region_held3 (fun w' => Below wc.heap.size wc w' ∧ w'.cell? ⟨gq, 0, none⟩ = some (.slice A5 N5 c5) ∧ w'.cell? ⟨gq, 1, none⟩ = some (.slice B5 M5 d5) ∧ w'.cell? ⟨gq, 2, none⟩ = some (.slice C5 F5 f5) ∧ w'.cell? ⟨gi, j, none⟩ = some (.int .i64 x))
                  (first | exact onS hbS (by assumption) | exact ⟨(Below.refl _ _).drew, q0, q1, q2, hcj5⟩)
                  (first | (go_at_call 15; refine (HX.out _ ?_).mono ?_; (simp only [*]); rintro e wS ⟨rfl, hbS⟩))
                rename_i hHeld
                have hbb : Below wc.heap.size wc wS := hHeld.1
                have k6 := bq.up hbb
                have HW7 := Lib.hid (HW.out.turn (HR5.out.up hbb) (bon HBX.out hbb))
                have g6 := HW.out.b.up (bon HBX.out hbb)
                clear hHeld hbS q0 q1 q2 hcj5 HX
                obtain ⟨⟨q0, q1, q2⟩, _⟩ := k6.three
                obtain ⟨⟨s0, s1, s2⟩, r0, r1, r2⟩ := g6.three
                have hle := (Row.of_own HW.out.i).le
                have hj1 : (0 : Int) ≤ (j : Int) := by omega
                have hj2 : (j : Int) ≤ (ci : Int) := by omega
                have hj3 : (j : Int) + 1 ≤ (Li : Int) := by omega
                have hj4 : (Li : Int) ≤ (ci : Int) := by omega
                have hj5 : IntKind.i64.wrap ((j : Int) + 1) = (j : Int) + 1 := IntWalk.i64_in _ (by omega)
                go_wp2_with fail
                clear q0 q1 q2 s0 s1 s2 r0 r1 r2 k6 g6 bq HW HR5 HBX hbb
                generalize ((wS.setCell ⟨g, 0, none⟩ (.slice A5 N5 c5)).setCell ⟨g, 1, none⟩ (.slice B5 M5 d5)).setCell ⟨g, 2, none⟩ (.slice C5 F5 f5) = W7 at *
                obtain ⟨i0, hi, hz0, hz1, hz2⟩ := info_parts info3
                have hS1 := Lib.hid (src_take (j := j) HW7.out.i (by omega))
                by_cases hci : ci = j + 1
                · subst hci
                  obtain rfl : Li = j + 1 := by omega
                  have hS2 : Hid (Src W7 (some ⟨gi, 0, none⟩) 0 0 ((inn.drop (j + 1)).map (Value.int .i64))) := Lib.hid (by have := src_none (W := W7) (A := ⟨gi, 0, none⟩) (c := 0) HW7.out.li (Nat.le_refl (j + 1)); simpa using this)
                  have hq1 := sl_to gi (j + 1) (j + 1) j (by omega)
                  have hq2 := sl_from1 gi j
                  go_region_held3 (fun w' => Below W7.heap.size W7 w')
                    (first | exact hb9 | exact hb8 | exact (Below.refl _ _).drew)
                    (first
                      | (refine step_app _ (by rfl) _ _ 22 (by rfl) W7.heap.size 3 i0 (.int .i64 0) 8 Try.underlying22 hi hz0 hz1 hz2 rfl _ _ _ (by rfl) hown8 (some ⟨gi, 0, none⟩) 0 0 ((inn.drop (j + 1)).map (Value.int .i64)) (by rfl) (hS2.out.up hb8) (one_iv _) ?_ ?_ ?_ j ?_ ?_; (unfold maxLen; omega); omega; exact hb8.size; omega; intro A9 c9 w9 hown9 hgrow9 _; have hz9 := anew_two (Li := j + 1) hb8 hown8 rfl hown9 hgrow9; have hb9 := hz9.2)
                      | (refine step_app _ (by rfl) _ _ 22 (by rfl) W7.heap.size 3 i0 (.int .i64 0) 8 Try.underlying22 hi hz0 hz1 hz2 rfl _ 0 [] (by rfl) (World.ownsRow_nil _ _ _ _) (some ⟨gi, 0, none⟩) j (j + 1) ((inn.take j).map (Value.int .i64)) (by rfl) (hS1.out.up (Below.refl _ _).drew) (one_iv _) ?_ ?_ ?_ j (Nat.zero_add _) ?_; (unfold maxLen; omega); omega; exact Nat.le_refl _; intro A8 c8 w8 hown8 hgrow8 _; have hb8 : Below W7.heap.size W7 w8 := bon (Below.refl _ _).drew (grown_none hgrow8)))
                  have HW9 := Lib.hid (HW7.out.anew hz9.1 hz9.2)
                  clear hown8 hown9 hgrow8 hgrow9 hz9 hb8 hb9
                  go_wp2_with fail
                  go_meet
                  exact ⟨_, _, _, _, _, _, _, _, _, _, _, _, _, _, _, _, _, _, rfl, rfl, HI3, HW9.out⟩
                · have hS2 := Lib.hid (src_drop (o := j + 1) (c := ci - (j + 1)) HW7.out.i)
                  have hq1 := sl_to gi Li ci j (by omega)
                  have hq2 := sl_from gi Li ci j (by omega) hci
                  go_region_held3 (fun w' => Below W7.heap.size W7 w')
                    (first | exact hb9 | exact hb8 | exact (Below.refl _ _).drew)
                    (first
                      | (refine step_app _ (by rfl) _ _ 22 (by rfl) W7.heap.size 3 i0 (.int .i64 0) 8 Try.underlying22 hi hz0 hz1 hz2 rfl _ _ _ (by rfl) hown8 (some ⟨gi, j + 1, none⟩) (Li - (j + 1)) (ci - (j + 1)) ((inn.drop (j + 1)).map (Value.int .i64)) (by rfl) (hS2.out.up hb8) (one_iv _) ?_ ?_ ?_ (Li - 1) ?_ ?_; (unfold maxLen; omega); omega; exact hb8.size; omega; intro A9 c9 w9 hown9 hgrow9 _; have hz9 := anew_two hb8 hown8 rfl hown9 hgrow9; have hb9 := hz9.2)
                      | (refine step_app _ (by rfl) _ _ 22 (by rfl) W7.heap.size 3 i0 (.int .i64 0) 8 Try.underlying22 hi hz0 hz1 hz2 rfl _ 0 [] (by rfl) (World.ownsRow_nil _ _ _ _) (some ⟨gi, 0, none⟩) j ci ((inn.take j).map (Value.int .i64)) (by rfl) (hS1.out.up (Below.refl _ _).drew) (one_iv _) ?_ ?_ ?_ j (Nat.zero_add _) ?_; (unfold maxLen; omega); omega; exact Nat.le_refl _; intro A8 c8 w8 hown8 hgrow8 _; have hb8 : Below W7.heap.size W7 w8 := bon (Below.refl _ _).drew (grown_none hgrow8)))
                  have HW9 := Lib.hid (HW7.out.anew hz9.1 hz9.2)
                  clear hown8 hown9 hgrow8 hgrow9 hz9 hb8 hb9
                  go_wp2_with fail
                  go_meet
                  exact ⟨_, _, _, _, _, _, _, _, _, _, _, _, _, _, _, _, _, _, rfl, rfl, HI3, HW9.out⟩
          · have hev' : (0 : Int) < (z : Int) % 3 := by omega
            cases hfr : T.free with
            | nil =>
              obtain ⟨i1, i2, i3⟩ := HI.out.full hfr
              have HT := Lib.hid (take_at HW.out.r HI.out.sm i1)
              have hLi : (Li : Int) = 1 + (R : Int) % 64 := by rw [HN.out]; have := HW.out.li; omega
              have hLi' : ((Li : Int) == 1 + (R : Int) % 64) = true := by simp [hLi]
              clear hLi
              have HI3 := Lib.hid i3
              clear hfr i1 i2 i3 hev
              go_wp2_with fail
              refine HT.out.mono ?_
              rintro e w5 ⟨A5, N5, c5, B5, M5, d5, C5, F5, f5, rfl, h5, hb5⟩
              have HW5 := Lib.hid ((HW.out.turn h5 hb5).up (ba1 _ (.cells #[.slice A5 N5 c5, .slice B5 M5 d5, .slice C5 F5 f5] 25)))
              obtain ⟨⟨q0, q1, q2⟩, r0, r1, r2⟩ := (HW.out.b.up hb5).three
              have hgs := (HW.out.b.up hb5).lt
              clear p0 p1 p2 e0 e1 e2 h5 hb5
              go_wp2_with fail
              go_loopw [13] (fun i w' => i = .int .i64 0 ∧ Hid (OnceW w.heap.size g w T all inn A5 N5 c5 B5 M5 d5 C5 F5 f5 Aa La ca Ai Li ci w')) (fun _ _ => 0)
              case atStart => exact ⟨rfl, HW5⟩
              case round =>
                obtain ⟨rfl, HW6⟩ := hrel
                by_cases hLa : 0 < La
                · go_wp2
                  go_meet
                  exact ⟨_, _, _, _, _, _, _, _, _, _, _, _, _, _, _, _, _, _, rfl, rfl, HI3, HW6.out⟩
                · go_wp2
                  go_meet
                  exact ⟨_, _, _, _, _, _, _, _, _, _, _, _, _, _, _, _, _, _, rfl, rfl, HI3, HW6.out⟩
            | cons x r =>
              obtain ⟨hx0, _, _⟩ := ok_free HI.out.ok (x := x) (by rw [hfr]; simp)
              obtain ⟨kk, rfl⟩ := Int.eq_ofNat_of_zero_le hx0
              obtain ⟨i1, i2, i3, i4, i5, i6, i7⟩ := HI.out.take hfr
              have HT := Lib.hid (take_at HW.out.r HI.out.sm i1)
              have hLi : ¬ (Li : Int) = 1 + (R : Int) % 64 := by rw [HN.out]; have := HW.out.li; omega
              have hLi' : ((Li : Int) == 1 + (R : Int) % 64) = false := by simp [hLi]
              clear hLi
              have HI7 := Lib.hid i7
              have HNA := Lib.hid i3
              clear hfr i1 i2 i3 i4 i5 i6 i7 hev hx0
              generalize gd T.gens kk * (n : Int) + (kk : Int) = X at *
              go_wp2_with fail
              refine HT.out.mono ?_
              rintro e w5 ⟨A5, N5, c5, B5, M5, d5, C5, F5, f5, rfl, h5, hb5⟩
              have HW5 := Lib.hid ((HW.out.turn h5 hb5).up (ba1 _ (.cells #[.slice A5 N5 c5, .slice B5 M5 d5, .slice C5 F5 f5] 25)))
              obtain ⟨⟨q0, q1, q2⟩, r0, r1, r2⟩ := (HW.out.b.up hb5).three
              have hgs := (HW.out.b.up hb5).lt
              clear p0 p1 p2 e0 e1 e2 h5 hb5
              go_wp2_with fail
              go_loopw [13] (fun i w' => ∃ j : Nat, j ≤ La ∧ i = .int .i64 (j : Int) ∧ Hid (OnceW w.heap.size g w ⟨T.gens, T.busy.set kk true, r⟩ all inn A5 N5 c5 B5 M5 d5 C5 F5 f5 Aa La ca Ai Li ci w')) (fun i _ => La - (intOf i).toNat)
              case atStart => exact ⟨0, by omega, rfl, HW5⟩
              case round =>
                obtain ⟨j, hj, rfl, HW6⟩ := hrel
                by_cases hjl : j < La
                · obtain ⟨ga, rfl, hga, hcj, hmj⟩ := HW6.out.swap.inAt hjl
                  have hne : gd all j ≠ X := fun e => HNA.out (e ▸ hmj)
                  clear hmj
                  generalize gd all j = xx at *
                  have hne' : (xx == X) = false := by simp [hne]
                  go_wp2
                  go_roundw
                  case rel => exact ⟨j + 1, by omega, by go_num, HW6⟩
                  case measure => simp [intOf]; omega
                · have : j = La := by omega
                  subst this
                  obtain ⟨i0, hi, hz0, hz1, hz2⟩ := info_parts info3
                  have tok1 : True := trivial
                  have hsz := HW6.out.size
                  go_wp2_with (first
                    | (at_builtin; have _t := tok1; refine wpList_app _ rfl _ _ 22 rfl w.heap.size 3 i0 (.int .i64 0) 8 Try.underlying22 hi hz0 hz1 hz2 rfl _ _ _ rfl (own_up HW6.out.a (ba1 _ _)) (some ⟨wr.heap.size, 0, none⟩) 1 1 [.int .i64 X] rfl (.inr ⟨_, rfl, rfl, cell_one_new _ _ _⟩) (one_iv [X]) ?hm1 ?hy1 ?hb1 (j + 1) rfl ?_; rotate_right; intro A7 c7 w7 hown7 hgrow7 hloc7; have HW7 := Lib.hid (HW6.out.app hown7 hgrow7 hloc7); have hsz7 := HW7.out.size; clear tok1 hown7 hgrow7 hloc7 hsz)
                    | (at_builtin; have _t := hsz7; refine wpList_app _ rfl _ _ 22 rfl w.heap.size 3 i0 (.int .i64 0) 8 Try.underlying22 hi hz0 hz1 hz2 rfl _ _ _ rfl (own_up HW7.out.i (ba1 _ _)) (some ⟨w7.heap.size, 0, none⟩) 1 1 [.int .i64 X] rfl (.inr ⟨_, rfl, rfl, cell_one_new _ _ _⟩) (one_iv [X]) ?hm2 ?hy2 ?hb2 (Li + 1) rfl ?_; rotate_right; intro A8 c8 w8 hown8 hgrow8 hloc8; have HW8 := Lib.hid (HW7.out.swap.app hown8 hgrow8 hloc8).swap; clear hown8 hgrow8 hloc8)
                    | fail)
                  case hm1 => unfold maxLen; omega
                  case hy1 => omega
                  case hb1 => simp; omega
                  case hm2 => unfold maxLen; omega
                  case hy2 => omega
                  case hb2 => simp; omega
                  go_meet
                  exact ⟨_, _, _, _, _, _, _, _, _, _, _, _, _, _, _, _, _, _, rfl, rfl, HI7, HW8.out⟩
        case rest =>
          clear HI HW hy0 hyl
          obtain ⟨T', all', inn', Ag', N', cg', Ab', M', cb', Af', F', cf', Aa', La', ca', Ai', Li', ci', rfl, rfl, HI, hW⟩ := hcut
          have HL64 : Li' ≤ 64 := by have := HI.out.l; have := HI.out.np; have := hW.li; omega
          have HW := Lib.hid hW
          clear hW
          go_wp2_with fail
          go_loopw [17] (fun i w' => ∃ j : Nat, j ≤ Li' ∧ i = .int .i64 (j : Int) ∧ Hid (OnceW w.heap.size g w T' all' inn' Ag' N' cg' Ab' M' cb' Af' F' cf' Aa' La' ca' Ai' Li' ci' w'))
            (fun i _ => Li' - (intOf i).toNat)
          case atStart => exact ⟨0, by omega, rfl, HW⟩
          case round =>
            obtain ⟨j, hj, rfl, HW2⟩ := hrel
            by_cases hjl : j < Li'
            · obtain ⟨gi, rfl, hgi, hcj, hmj⟩ := HW2.out.inAt hjl
              obtain ⟨⟨p0, p1, p2⟩, _⟩ := HW2.out.b.three
              have HX := Lib.hid (fun W hb => has_at (W := W) (HW2.out.r.up hb) HI.out.sm (gd inn' j) (HI.out.bound hmj).2 (has_in HI.out hmj))
              clear hmj
              generalize gd inn' j = x at *
              go_wp2_with fail
              go_region_held3 (fun w' => Below wr.heap.size wr w' ∧ w'.cell? ⟨g, 0, none⟩ = some (.slice Ag' N' cg') ∧ w'.cell? ⟨g, 1, none⟩ = some (.slice Ab' M' cb') ∧ w'.cell? ⟨g, 2, none⟩ = some (.slice Af' F' cf') ∧ w'.cell? ⟨gi, j, none⟩ = some (.int .i64 x))
                (first | exact onS hbS (by assumption) | exact ⟨(Below.refl _ _).drew, p0, p1, p2, hcj⟩)
                (first | (go_at_call 15; refine (HX.out _ ?_).mono ?_; (simp only [*]); rintro e wS ⟨rfl, hbS⟩))
              rename_i hHeld
              have hbb : Below wr.heap.size wr wS := hHeld.1
              clear hHeld hbS
              go_wp2
              go_roundw
              case rel => exact ⟨j + 1, by omega, by go_num, Lib.hid (HW2.out.up hbb)⟩
              case measure => simp [intOf]; omega
            · have : j = Li' := by omega
              subst this
              obtain ⟨⟨p0, p1, p2⟩, _⟩ := HW2.out.b.three
              go_wp2_with fail
              refine (right_at HW2.out.r HI.out.sm HI.out.ok).mono ?_
              rintro e w5 ⟨rfl, hb5⟩
              have HW5 := Lib.hid (HW2.out.up hb5)
              clear p0 p1 p2 hb5
              go_wp2
              exact ⟨⟨k + 1, by go_num, by omega, by omega, _, _, _, _, _, _, _, _, _, _, _, _, _, _, _, _, _, _, rfl, rfl, HI, HW5.out⟩, by simp [intOf]; omega⟩
      · have hWl := hW.l
        go_wp2
        go_ret
        exact ⟨rfl, hWl⟩
    · have hWl := hW.l
      go_wp2
      go_ret
      exact ⟨rfl, hWl⟩

end Go.Proofs.Ytkglgbbekmljcaa
