/-
  The walk of the laws' own 'Made': a table by numbers, and the ids that are in use.
-/
import Derived.Test.YtkglgbbekmljcaaSl
import Derived.Test.YtkglgbbekmljcaaTold
import Derived.Test.YtkglgbbekmljcaaRef5
import Derived.Test.YtkglgbbekmljcaaInv
import Derived.Deep.LoopGhost
import Derived.Deep.DeepCutAuto
import Derived.Deep.RegionHeld3
import Derived.Deep.RegionLaw
import Derived.IntWalk
namespace Go.Proofs.Ytkglgbbekmljcaa
open Go.RowKit

/-- bytes -/
abbrev Uq (w : World) (A : Option Addr) (xs : List UInt8) : Prop := Vs (fun b : UInt8 => Value.int .u8 (b.toNat : Int)) 0 w A xs

/-- what stands between two rounds of Made -/
def MadeR (n i B g : Nat) (w : World) (vi : Value) (wr : World) : Prop :=
  ∃ T all inn Ag N cg Ab M cb Af F cf Ai Li ci, vi = .slice Ai Li ci ∧ Hid (Inv n i T all inn) ∧ OnceW B g w T [] inn Ag N cg Ab M cb Af F cf none 0 0 Ai Li ci wr

def MadeL (n L B g : Nat) (w : World) (vi ik : Value) (wr : World) : Prop :=
  ∃ k : Nat, ik = .int .i64 (k : Int) ∧ k ≤ L ∧ k ≤ 60 ∧ MadeR n k B g w vi wr

/-- what stands behind Give -/
def CutM (j B g : Nat) (W0 : World) (T' : Tb) (inn : List Int) (Ai : Option Addr) (Li ci : Nat) (v : Value) (wx : World) : Prop :=
  ∃ Ag N cg Ab M cb Af F cf, v = .int .i64 (j : Int) ∧ OnceW B g W0 T' [] inn Ag N cg Ab M cb Af F cf none 0 0 Ai Li ci wx

theorem cutM_mk {j B g : Nat} {W0 wr wP : World} {T T' : Tb} {inn : List Int} {Ai : Option Addr} {Li ci : Nat} {Ag : Option Addr} {N cg : Nat} {Ab : Option Addr} {M cb : Nat} {Af : Option Addr} {F cf : Nat} {Ag' : Option Addr} {N' cg' : Nat} {Ab' : Option Addr} {M' cb' : Nat} {Af' : Option Addr} {F' cf' : Nat}
    (h : OnceW B g W0 T [] inn Ag N cg Ab M cb Af F cf none 0 0 Ai Li ci wr) (hr : RowT wP wr.drew.heap.size T' Ag' N' cg' Ab' M' cb' Af' F' cf') (hb : Below wr.drew.heap.size wr.drew wP) :
    CutM j B g W0 T' inn Ai Li ci (.int .i64 (j : Int)) (((wP.setCell ⟨g, 0, none⟩ (.slice Ag' N' cg')).setCell ⟨g, 1, none⟩ (.slice Ab' M' cb')).setCell ⟨g, 2, none⟩ (.slice Af' F' cf')) :=
  ⟨_, _, _, _, _, _, _, _, _, rfl, h.turn hr (bon (Below.refl wr.heap.size wr).drew hb)⟩

/-- what Made hands back -/
def MadeEnds (n : Nat) (w : World) (e : Ending) (w' : World) : Prop :=
  ∃ i T all inn Ag N cg Ab M cb Af F cf Ai Li ci, e = .returned (.tuple #[tv Ag N cg Ab M cb Af F cf, .slice Ai Li ci]) ∧ Hid (Inv n i T all inn) ∧ i ≤ 60 ∧ RowT w' w.heap.size T Ag N cg Ab M cb Af F cf ∧ w'.ownsRow w.heap.size 3 1 (.slice Ai Li ci) Li (inn.map (Value.int .i64)) ∧ Below w.heap.size w w'

theorem made_fin {g : Nat} {w W0 wr : World} {T : Tb} {inn : List Int} {Ai : Option Addr} {Li ci : Nat} {Ag : Option Addr} {N cg : Nat} {Ab : Option Addr} {M cb : Nat} {Af : Option Addr} {F cf : Nat} {cs : Array Value}
    (h : OnceW W0.heap.size g W0 T [] inn Ag N cg Ab M cb Af F cf none 0 0 Ai Li ci wr) (hR : Box wr w.heap.size 25 cs) (hw0 : Below w.heap.size w W0) (hs : W0.heap.size = w.heap.size + 1) (x y z : Value) :
    RowT (((wr.setCell ⟨w.heap.size, 0, none⟩ x).setCell ⟨w.heap.size, 1, none⟩ y).setCell ⟨w.heap.size, 2, none⟩ z) w.heap.size T Ag N cg Ab M cb Af F cf ∧
    (((wr.setCell ⟨w.heap.size, 0, none⟩ x).setCell ⟨w.heap.size, 1, none⟩ y).setCell ⟨w.heap.size, 2, none⟩ z).ownsRow w.heap.size 3 1 (.slice Ai Li ci) Li (inn.map (Value.int .i64)) ∧
    Below w.heap.size w (((wr.setCell ⟨w.heap.size, 0, none⟩ x).setCell ⟨w.heap.size, 1, none⟩ y).setCell ⟨w.heap.size, 2, none⟩ z) :=
  ⟨(h.r.far3 hR (by decide) (by decide) x y z).mono (by omega), own_mono (own_far3 h.i hR (by decide) x y z) (by omega), below_set3 (hw0.trans (h.l.mono (by omega))) (Nat.le_refl _) x y z⟩

theorem rtake_at {W : World} {B : Nat} {T : Tb} {Ag Ab Af : Option Addr} {N cg M cb F cf : Nat} {q : Tb × Int × Int} (h : RowT W B T Ag N cg Ab M cb Af F cf) (hs : Sm T) (hq : takeT T = q) : Calls Try.prog 17 #[.agg #[.slice Ag N cg, .slice Ab M cb, .slice Af F cf]] W (TakeEnds q W) := hq ▸ rtake_any (h.sm hs)
theorem rgive_at {W : World} {B : Nat} {T : Tb} {Ag Ab Af : Option Addr} {N cg M cb F cf : Nat} {q : Tb × Int} (h : RowT W B T Ag N cg Ab M cb Af F cf) (hs : Sm T) (id : Int) (hid : id ≤ 9223372036854775807) (hq : giveT T id = q) : Calls Try.prog 18 #[.agg #[.slice Ag N cg, .slice Ab M cb, .slice Af F cf], .int .i64 id] W (GiveEnds q W) := hq ▸ rgive_any (h.sm hs) id hid

set_option maxRecDepth 100000 in
set_option maxHeartbeats 4000000 in
theorem mk_any (R : Nat) (hR : R < 256) (A : Option Addr) (L c : Nat) (ys : List UInt8) (w : World) (HY : Hid (ys.length = L)) (hL : L ≤ maxLen) (hB : Uq w A ys) :
    ∃ n : Nat, n = 1 + R % 8 ∧ Calls Try.prog 12 #[.int .u8 (R : Int), .slice A L c] w (MadeEnds n w) := by
  unfold maxLen at hL
  obtain ⟨n, hn⟩ : ∃ n : Nat, n = 1 + R % 8 := ⟨_, rfl⟩
  refine ⟨n, hn, ?_⟩
  have hn1 : 1 ≤ n := by omega
  have hn2 : n ≤ 8 := by omega
  have eN : (1 + (R : Int) % 8) = (n : Int) := by omega
  clear hn
  go_enter Try.func12, Try.ntmps12
  go_wp2_with fail
  clear eN
  refine (rnew_any n _).mono ?_
  rintro e w2 ⟨Ag0, N0, cg0, Ab0, M0, cb0, Af0, F0, cf0, rfl, h2, hb2⟩
  have bz := (Box.new w 25 #[.slice none 0 0, .slice none 0 0, .slice none 0 0])
  have hw0 := ba1 w (.cells #[.slice none 0 0, .slice none 0 0, .slice none 0 0] 25)
  have sz0 : (w.alloc (.cells #[.slice none 0 0, .slice none 0 0, .slice none 0 0] 25)).heap.size = w.heap.size + 1 := by simp
  generalize w.alloc (.cells #[.slice none 0 0, .slice none 0 0, .slice none 0 0] 25) = W0 at *
  have HBZ := Lib.hid bz
  have HW0 := Lib.hid hw0
  have HSZ := Lib.hid sz0
  have hUq := Lib.hid (hB.up hw0)
  clear bz hw0 sz0 hB
  go_wp2_with fail
  have hW : OnceW W0.heap.size w2.heap.size W0 (newT n) [] [] Ag0 N0 cg0 Ab0 M0 cb0 Af0 F0 cf0 none 0 0 none 0 0 (w2.alloc (.cells #[.slice Ag0 N0 cg0, .slice Ab0 M0 cb0, .slice Af0 F0 cf0] 25)) :=
    ⟨Box.new _ _ _, h2.up (ba1 _ _), World.ownsRow_nil _ _ _ _, World.ownsRow_nil _ _ _ _, Off.nil _, Off.nil _, Off.nil _, Off.nil _, Off.nil _, bon hb2 (ba1 _ _), hb2.size⟩
  clear hb2 h2
  generalize w2.alloc (.cells #[.slice Ag0 N0 cg0, .slice Ab0 M0 cb0, .slice Af0 F0 cf0] 25) = w3 at *
  generalize w2.heap.size = g at *
  go_loopw [7, 8] (MadeL n L W0.heap.size g W0) (fun _ i _ => 60 - (intOf i).toNat)
  case atStart => exact ⟨0, rfl, by omega, by omega, _, _, _, _, _, _, _, _, _, _, _, _, _, _, _, rfl, Lib.hid (inv_new hn1 (by omega)), hW⟩
  case round =>
    clear hW
    obtain ⟨k, rfl, hk1, hk2, T, all, inn, Ag, N, cg, Ab, M, cb, Af, F, cf, Ai, Li, ci, rfl, HI, hW⟩ := hrel
    by_cases hlt : k < L
    · by_cases hlt2 : k < 60
      · obtain ⟨b, off, rfl, hbl, hcell⟩ := hUq.out (by rw [HY.out]; omega)
        have hy0 : wr.cell? ⟨b, off + k, none⟩ = some (.int .u8 ((ys[k]?.getD 0).toNat : Int)) := (hW.l.cell (p := ⟨b, off + k, none⟩) hbl).trans (hcell k (by rw [HY.out]; omega))
        generalize ys[k]?.getD 0 = y at hy0
        have hyl : y.toNat < 256 := UInt8.toNat_lt y
        obtain ⟨z, hz⟩ : ∃ z : Nat, z = y.toNat := ⟨_, rfl⟩
        rw [← hz] at hy0 hyl
        obtain ⟨⟨p0, p1, p2⟩, e0, e1, e2⟩ := hW.b.three
        have hgl := hW.b.lt
        have HL64 : Li ≤ 64 := by have := HI.out.l; have := HI.out.np; have := hW.li; omega
        have HW := Lib.hid hW
        clear hcell hz hW
        by_cases hev : z % 3 = 0
        · have hev' : ¬ (0 : Int) < (z : Int) % 3 := by omega
          clear hev
          by_cases hLi0 : Li = 0
          · subst hLi0
            have HI1 : Hid (Inv n (k + 1) T all inn) := Lib.hid { HI.out with g := fun q hq => (by have := HI.out.g q hq; omega), la := by have := HI.out.la; omega }
            go_wp2
            exact ⟨⟨k + 1, by go_num, by omega, by omega, _, _, _, _, _, _, _, _, _, _, _, _, _, _, _, rfl, HI1, HW.out⟩, by simp [intOf]; omega⟩
          · obtain ⟨j, hj⟩ : ∃ j : Nat, j = z / 3 % Li := ⟨_, rfl⟩
            have hjl : j < Li := by rw [hj]; exact Nat.mod_lt _ (by omega)
            obtain ⟨gi, rfl, hgi, hcj, hmj⟩ := HW.out.inAt hjl
            obtain ⟨T', i1, i2, i3⟩ := HI.out.give (j := j) (by rw [HW.out.li]; exact hjl) (by omega)
            have hbd := (HI.out.bound hmj).2
            have HG : Hid (∀ W, Below wr.heap.size wr W → Calls Try.prog 18 #[.agg #[.slice Ag N cg, .slice Ab M cb, .slice Af F cf], .int .i64 (gd inn j)] W (GiveEnds (T', 0) W)) := Lib.hid (fun W hb => rgive_at (HW.out.r.up hb) HI.out.sm (gd inn j) hbd i1)
            have HI3 := Lib.hid i3
            have t1 : IntKind.i64.wrap (z : Int) = (z : Int) := IntWalk.i64_in _ (by omega)
            have t2 : IntKind.i64.wrap ((z : Int).tdiv 3) = (z : Int) / 3 := by rw [Int.tdiv_eq_ediv_of_nonneg (by omega)]; exact IntWalk.i64_in _ (by omega)
            have t4 : IntKind.i64.wrap ((z : Int) / 3) = (z : Int) / 3 := IntWalk.i64_in _ (by omega)
            have t3 : ((z : Int) / 3).tmod (Li : Int) = (j : Int) := by rw [Int.tmod_eq_emod_of_nonneg (by omega), hj]; simp
            clear hmj i1 i2 i3 hj
            generalize gd inn j = x at *
            have hLi1 : (0 : Int) < (Li : Int) := by omega
            have hLi2 : ¬ (Li : Int) = 0 := by omega
            have hjI : (j : Int) < (Li : Int) := by omega
            go_wp2_with fail
            go_cut [12] (CutM j W0.heap.size g W0 T' inn (some ⟨gi, 0, none⟩) Li ci)
            case first =>
              go_region_law (first | (go_simp; go_at_call 18; refine (HG.out _ ?_).mono ?_; exact (Below.refl wr.heap.size wr).drew; rintro e wP ⟨A5, N5, c5, B5, M5, d5, C5, F5, f5, rfl, h5, hbP⟩; obtain ⟨⟨q0, q1, q2⟩, r0, r1, r2⟩ := (Box.up (w := wr.drew) HW.out.b hbP).three))
              all_goals (go_wp2_with fail; go_meet; exact cutM_mk HW.out h5 hbP)
            case rest =>
              obtain ⟨A5, N5, c5, B5, M5, d5, C5, F5, f5, rfl, hW7⟩ := hcut
              have HW7 := Lib.hid hW7
              have hle := (Row.of_own HW.out.i).le
              clear p0 p1 p2 e0 e1 e2 hcj HG HW hW7 t1 t2 t3 t4 hy0
              have hj5 : IntKind.i64.wrap ((j : Int) + 1) = (j : Int) + 1 := IntWalk.i64_in _ (by omega)
              obtain ⟨i0, hi, hz0, hz1, hz2⟩ := info_parts info3
              have hS1 := Lib.hid (src_take (j := j) HW7.out.i (by omega))
              go_wp2_with fail
              by_cases hci : ci = j + 1
              · subst hci
                obtain rfl : Li = j + 1 := by omega
                have hS2 : Hid (Src wc (some ⟨gi, 0, none⟩) 0 0 ((inn.drop (j + 1)).map (Value.int .i64))) := Lib.hid (by have := src_none (W := wc) (A := ⟨gi, 0, none⟩) (c := 0) HW7.out.li (Nat.le_refl (j + 1)); simpa using this)
                have hq1 := sl_to gi (j + 1) (j + 1) j (by omega)
                have hq2 := sl_from1 gi j
                go_region_held3 (fun w' => Below wc.heap.size wc w')
                  (first | exact hb9 | exact hb8 | exact (Below.refl _ _).drew)
                  (first
                    | (refine step_app _ (by rfl) _ _ 22 (by rfl) wc.heap.size 3 i0 (.int .i64 0) 8 Try.underlying22 hi hz0 hz1 hz2 rfl _ _ _ (by rfl) hown8 (some ⟨gi, 0, none⟩) 0 0 ((inn.drop (j + 1)).map (Value.int .i64)) (by rfl) (hS2.out.up hb8) (one_iv _) ?_ ?_ ?_ j ?_ ?_; (unfold maxLen; omega); omega; exact hb8.size; omega; intro A9 c9 w9 hown9 hgrow9 _; have hz9 := anew_two (Li := j + 1) hb8 hown8 rfl hown9 hgrow9; have hb9 := hz9.2)
                    | (refine step_app _ (by rfl) _ _ 22 (by rfl) wc.heap.size 3 i0 (.int .i64 0) 8 Try.underlying22 hi hz0 hz1 hz2 rfl _ 0 [] (by rfl) (World.ownsRow_nil _ _ _ _) (some ⟨gi, 0, none⟩) j (j + 1) ((inn.take j).map (Value.int .i64)) (by rfl) (hS1.out.up (Below.refl _ _).drew) (one_iv _) ?_ ?_ ?_ j (Nat.zero_add _) ?_; (unfold maxLen; omega); omega; exact Nat.le_refl _; intro A8 c8 w8 hown8 hgrow8 _; have hb8 : Below wc.heap.size wc w8 := bon (Below.refl _ _).drew (grown_none hgrow8)))
                have HW9 := Lib.hid (HW7.out.anew hz9.1 hz9.2)
                clear hown8 hown9 hgrow8 hgrow9 hz9 hb8 hb9
                go_wp2
                exact ⟨⟨k + 1, by go_num, by omega, by omega, _, _, _, _, _, _, _, _, _, _, _, _, _, _, _, rfl, HI3, HW9.out⟩, by simp [intOf]; omega⟩
              · have hS2 := Lib.hid (src_drop (o := j + 1) (c := ci - (j + 1)) HW7.out.i)
                have hq1 := sl_to gi Li ci j (by omega)
                have hq2 := sl_from gi Li ci j (by omega) hci
                go_region_held3 (fun w' => Below wc.heap.size wc w')
                  (first | exact hb9 | exact hb8 | exact (Below.refl _ _).drew)
                  (first
                    | (refine step_app _ (by rfl) _ _ 22 (by rfl) wc.heap.size 3 i0 (.int .i64 0) 8 Try.underlying22 hi hz0 hz1 hz2 rfl _ _ _ (by rfl) hown8 (some ⟨gi, j + 1, none⟩) (Li - (j + 1)) (ci - (j + 1)) ((inn.drop (j + 1)).map (Value.int .i64)) (by rfl) (hS2.out.up hb8) (one_iv _) ?_ ?_ ?_ (Li - 1) ?_ ?_; (unfold maxLen; omega); omega; exact hb8.size; omega; intro A9 c9 w9 hown9 hgrow9 _; have hz9 := anew_two hb8 hown8 rfl hown9 hgrow9; have hb9 := hz9.2)
                    | (refine step_app _ (by rfl) _ _ 22 (by rfl) wc.heap.size 3 i0 (.int .i64 0) 8 Try.underlying22 hi hz0 hz1 hz2 rfl _ 0 [] (by rfl) (World.ownsRow_nil _ _ _ _) (some ⟨gi, 0, none⟩) j ci ((inn.take j).map (Value.int .i64)) (by rfl) (hS1.out.up (Below.refl _ _).drew) (one_iv _) ?_ ?_ ?_ j (Nat.zero_add _) ?_; (unfold maxLen; omega); omega; exact Nat.le_refl _; intro A8 c8 w8 hown8 hgrow8 _; have hb8 : Below wc.heap.size wc w8 := bon (Below.refl _ _).drew (grown_none hgrow8)))
                have HW9 := Lib.hid (HW7.out.anew hz9.1 hz9.2)
                clear hown8 hown9 hgrow8 hgrow9 hz9 hb8 hb9
                go_wp2
                exact ⟨⟨k + 1, by go_num, by omega, by omega, _, _, _, _, _, _, _, _, _, _, _, _, _, _, _, rfl, HI3, HW9.out⟩, by simp [intOf]; omega⟩
        · have hev' : (0 : Int) < (z : Int) % 3 := by omega
          cases hfr : T.free with
          | nil =>
            obtain ⟨i1, i2, i3⟩ := HI.out.full hfr
            have HT := Lib.hid (rtake_at HW.out.r HI.out.sm i1)
            have HI3 := Lib.hid i3
            clear hfr i1 i2 i3 hev
            go_wp2_with fail
            refine HT.out.mono ?_
            rintro e w5 ⟨A5, N5, c5, B5, M5, d5, C5, F5, f5, rfl, h5, hb5⟩
            have HW5 := Lib.hid ((HW.out.turn h5 hb5).up (ba1 _ (.cells #[.slice A5 N5 c5, .slice B5 M5 d5, .slice C5 F5 f5] 25)))
            obtain ⟨⟨q0, q1, q2⟩, r0, r1, r2⟩ := (HW.out.b.up hb5).three
            have hgs := (HW.out.b.up hb5).lt
            clear p0 p1 p2 e0 e1 e2 h5 hb5
            go_wp2
            exact ⟨⟨k + 1, by go_num, by omega, by omega, _, _, _, _, _, _, _, _, _, _, _, _, _, _, _, rfl, HI3, HW5.out⟩, by simp [intOf]; omega⟩
          | cons x r =>
            obtain ⟨hx0, _, _⟩ := ok_free HI.out.ok (x := x) (by rw [hfr]; simp)
            obtain ⟨kk, rfl⟩ := Int.eq_ofNat_of_zero_le hx0
            obtain ⟨i1, i2, i3, i4, i5, i6, i7⟩ := HI.out.take hfr
            have HT := Lib.hid (rtake_at HW.out.r HI.out.sm i1)
            have HI7 := Lib.hid i7
            clear hfr i1 i2 i3 i4 i5 i6 i7 hev hx0
            generalize gd T.gens kk * (n : Int) + (kk : Int) = X at *
            go_wp2_with fail
            refine HT.out.mono ?_
            rintro e w5 ⟨A5, N5, c5, B5, M5, d5, C5, F5, f5, rfl, h5, hb5⟩
            have hW5 := (HW.out.turn h5 hb5).up (ba1 _ (.cells #[.slice A5 N5 c5, .slice B5 M5 d5, .slice C5 F5 f5] 25))
            have hsz5 : ((((w5.setCell ⟨g, 0, none⟩ (.slice A5 N5 c5)).setCell ⟨g, 1, none⟩ (.slice B5 M5 d5)).setCell ⟨g, 2, none⟩ (.slice C5 F5 f5)).alloc (.cells #[.slice A5 N5 c5, .slice B5 M5 d5, .slice C5 F5 f5] 25)).heap.size = w5.heap.size + 1 := by simp [World.setCell]
            have HSZ5 := Lib.hid hsz5
            have HW5 := Lib.hid hW5
            have hs5 := hW5.size
            rw [hsz5] at hs5
            obtain ⟨⟨q0, q1, q2⟩, r0, r1, r2⟩ := (HW.out.b.up hb5).three
            have hgs := (HW.out.b.up hb5).lt
            clear p0 p1 p2 e0 e1 e2 h5 hb5 hW5 hsz5
            obtain ⟨i0, hi, hz0, hz1, hz2⟩ := info_parts info3
            go_wp2_with (first
              | (at_builtin; refine wpList_app _ rfl _ _ 22 rfl W0.heap.size 3 i0 (.int .i64 0) 8 Try.underlying22 hi hz0 hz1 hz2 rfl _ _ _ rfl (own_up HW5.out.i (ba1 _ _)) (some ⟨w5.heap.size + 1, 0, none⟩) 1 1 [.int .i64 X] rfl (.inr ⟨_, rfl, rfl, one_new HSZ5.out _ _⟩) (one_iv [X]) ?hm1 ?hy1 ?hb1 (Li + 1) rfl ?_; rotate_right; intro A8 c8 w8 hown8 hgrow8 hloc8; have HW8 := Lib.hid (HW5.out.swap.app hown8 hgrow8 hloc8).swap; clear hown8 hgrow8 hloc8)
              | fail)
            case hm1 => unfold maxLen; omega
            case hy1 => omega
            case hb1 => rw [World.size_alloc, HSZ5.out]; omega
            exact ⟨⟨k + 1, by go_num, by omega, by omega, _, _, _, _, _, _, _, _, _, _, _, _, _, _, _, rfl, HI7, HW8.out⟩, by simp [intOf]; omega⟩
      · obtain ⟨⟨p0, p1, p2⟩, _⟩ := hW.b.three
        have xR := Box.below HBZ.out hW.l (by rw [HSZ.out]; omega)
        obtain ⟨⟨d0, d1, d2⟩, e0, e1, e2⟩ := xR.three
        have hgR : ¬ g = w.heap.size := by have := hW.hg; have := HSZ.out; omega
        have hgR' : ¬ w.heap.size = g := fun e => hgR e.symm
        have HF := Lib.hid (made_fin hW xR HW0.out HSZ.out (.slice Ag N cg) (.slice Ab M cb) (.slice Af F cf))
        clear hW xR
        go_wp2
        refine bodyPost_ret (v := .tuple #[tv Ag N cg Ab M cb Af F cf, .slice Ai Li ci]) (by simp [results, Try.results12, go_sem, d0, d1, d2]) rfl ?_
        exact ⟨k, T, all, inn, Ag, N, cg, Ab, M, cb, Af, F, cf, Ai, Li, ci, rfl, HI, by omega, HF.out⟩
    · obtain ⟨⟨p0, p1, p2⟩, _⟩ := hW.b.three
      have xR := Box.below HBZ.out hW.l (by rw [HSZ.out]; omega)
      obtain ⟨⟨d0, d1, d2⟩, e0, e1, e2⟩ := xR.three
      have hgR : ¬ g = w.heap.size := by have := hW.hg; have := HSZ.out; omega
      have hgR' : ¬ w.heap.size = g := fun e => hgR e.symm
      have HF := Lib.hid (made_fin hW xR HW0.out HSZ.out (.slice Ag N cg) (.slice Ab M cb) (.slice Af F cf))
      clear hW xR
      go_wp2
      refine bodyPost_ret (v := .tuple #[tv Ag N cg Ab M cb Af F cf, .slice Ai Li ci]) (by simp [results, Try.results12, go_sem, d0, d1, d2]) rfl ?_
      exact ⟨k, T, all, inn, Ag, N, cg, Ab, M, cb, Af, F, cf, Ai, Li, ci, rfl, HI, by omega, HF.out⟩

end Go.Proofs.Ytkglgbbekmljcaa
