/-
  The walk of the law JsonBack, over what the laws' own Value tells.
-/
import Derived.Test.YtnkhghjcfhpeiaaGreatDoorJSa
import Derived.Test.YtnkhghjcfhpeiaaGreatDoorJWords
namespace Go.Proofs.YtnkhghjcfhpeiaaGreatDoor
open Go.RowKit

/-- a value as the laws make them: right, and not too great -/
def GoodJ (v : Jv) : Prop := rightJ v = true ∧ (textJ v).length ≤ 4000
/-- a value that was made is handed back -/
def MakEnds (gm : Nat) (w : World) (E : Ending) (w' : World) : Prop := ∃ (v : Jv) (K S : Sli), E = .returned (jx v K S) ∧ GoodJ v ∧ JV w' anyB v (jx v K S) ∧ But gm w w'
/-- what the law asks of Value, for a maker that has just been made -/
def JVl (A : Option Addr) (L c : Nat) (ys : List UInt8) : Prop := ∀ (gm : Nat) (w : World), Us w gm A ys → Box w gm 35 #[.slice A L c, .int .i64 0] → Calls Tryz.prog 11 #[.pointer (some ⟨gm, 0, none⟩), .int .i64 4] w (MakEnds gm w)

set_option maxRecDepth 100000 in
set_option maxHeartbeats 8000000 in
theorem jsonBack_any (hR : JPR) (hP : JPP) (hJ : JPJ) (hS : JPS) (A : Option Addr) (L c : Nat) (ys : List UInt8) (A2 : Option Addr) (L2 c2 : Nat) (ys2 : List UInt8) (hV1 : JVl A L c ys) (hV2 : JVl A2 L2 c2 ys2) (w : World) (hU : Us w w.heap.size A ys) (hU2 : Us w w.heap.size A2 ys2) (hT : TJ w) : Calls Tryz.prog 5 #[.slice A L c, .slice A2 L2 c2] w (BoolEnds true w) := by
  have HT := Lib.hid hT
  have HAw := Lib.hid (awakeJ hR hP hJ hS w hT)
  have HP := Lib.hid hP
  have HJ := Lib.hid hJ
  have HS := Lib.hid hS
  have HV1 := Lib.hid hV1
  have HV2 := Lib.hid hV2
  have HU := Lib.hid hU
  have HU2 := Lib.hid hU2
  clear hT hU hU2 hR hP hJ hS hV1 hV2
  go_enter Tryz.func5, Tryz.ntmps5
  go_wp2_with fail
  refine HAw.out.mono ?_
  rintro E w1 ⟨rfl, hd1⟩
  have HB1 := Lib.hid hd1
  clear hd1 HAw
  go_wp2_with fail
  have hbA := ba1 w1 (.cells #[.slice A L c, .int .i64 0] 35)
  have bm := Lib.hid (Box.new w1 35 #[.slice A L c, .int .i64 0])
  obtain ⟨m1, hm1⟩ : ∃ m1, w1.heap.size = m1 := ⟨_, rfl⟩
  rw [hm1] at bm ⊢
  have hwm : Hid (w.heap.size ≤ m1) := Lib.hid (by rw [← hm1]; exact HB1.out.size)
  clear hm1
  generalize w1.alloc (.cells #[.slice A L c, .int .i64 0] 35) = W1 at *
  have HBa := Lib.hid (bon HB1.out hbA)
  refine (HV1.out m1 W1 ((HU.out.low HBa.out).mono hwm.out) bm.out).mono ?_
  rintro E w2 ⟨v, K, S, rfl, hg1, hv1, hbut⟩
  have HB2 : Hid (Below w.heap.size w w2) := Lib.hid (But.below HBa.out hbut hwm.out HBa.out.size)
  have HVa : Hid (JV w2 (fun b => b < w2.heap.size) v (jx v K S)) := Lib.hid (JV.to (Keeps.same (fun _ _ h => h)) _ _ hv1)
  have HG1 := Lib.hid hg1
  clear hv1 hbut hg1 HBa HB1 hbA bm HV1
  simp only [jx] at HVa ⊢
  obtain ⟨KA, Kn, Kc⟩ := K
  obtain ⟨SA, Sn, Sc⟩ := S
  simp only at HVa ⊢
  go_wp2_with fail
  have hbA := ba1 w2 (.cells #[.slice A2 L2 c2, .int .i64 0] 35)
  have bm := Lib.hid (Box.new w2 35 #[.slice A2 L2 c2, .int .i64 0])
  obtain ⟨m2, hm2⟩ : ∃ m2, w2.heap.size = m2 := ⟨_, rfl⟩
  rw [hm2] at bm HVa ⊢
  have hwm2 : Hid (w.heap.size ≤ m2) := Lib.hid (by rw [← hm2]; exact HB2.out.size)
  clear hm2
  generalize w2.alloc (.cells #[.slice A2 L2 c2, .int .i64 0] 35) = W2 at *
  have HBa := Lib.hid (bon HB2.out hbA)
  have HVb := Lib.hid (HVa.out.up hbA)
  refine (HV2.out m2 W2 ((HU2.out.low HBa.out).mono hwm2.out) bm.out).mono ?_
  rintro E w3 ⟨u, K2, S2, rfl, hg2, hu1, hbut⟩
  have HB3 : Hid (Below w.heap.size w w3) := Lib.hid (But.below HBa.out hbut hwm2.out HBa.out.size)
  have HVc : Hid (JV w3 anyB v (.agg #[.int .i64 v.k, .string (tb v.t), .slice KA Kn Kc, .slice SA Sn Sc])) := Lib.hid (JV.to (Keeps.but hbut (fun b hb => by omega) (fun _ _ _ => trivial)) _ _ HVb.out)
  have HWc := Lib.hid hu1
  have HG2 := Lib.hid hg2
  clear hu1 hbut hg2 HBa HB2 hbA bm HV2 HVa HVb
  simp only [jx] at HWc ⊢
  obtain ⟨KA2, Kn2, Kc2⟩ := K2
  obtain ⟨SA2, Sn2, Sc2⟩ := S2
  simp only at HWc ⊢
  go_upto_region 5 with fail
  have hbA := ba2 w3 (.cells #[.int .i64 v.k, .string (tb v.t), .slice KA Kn Kc, .slice SA Sn Sc] 25) (.cells #[.int .i64 u.k, .string (tb u.t), .slice KA2 Kn2 Kc2, .slice SA2 Sn2 Sc2] 25)
  have bv := Lib.hid ((Box.new w3 25 #[.int .i64 v.k, .string (tb v.t), .slice KA Kn Kc, .slice SA Sn Sc]).alloc (.cells #[.int .i64 u.k, .string (tb u.t), .slice KA2 Kn2 Kc2, .slice SA2 Sn2 Sc2] 25))
  have bu := Lib.hid (Box.mk' (w3.alloc (.cells #[.int .i64 v.k, .string (tb v.t), .slice KA Kn Kc, .slice SA Sn Sc] 25)) 25 #[.int .i64 u.k, .string (tb u.t), .slice KA2 Kn2 Kc2, .slice SA2 Sn2 Sc2] (w3.heap.size + 1) (by simp))
  obtain ⟨g1, hg1⟩ : ∃ g1, w3.heap.size = g1 := ⟨_, rfl⟩
  rw [hg1] at bv bu ⊢
  clear hg1
  generalize (w3.alloc (.cells #[.int .i64 v.k, .string (tb v.t), .slice KA Kn Kc, .slice SA Sn Sc] 25)).alloc (.cells #[.int .i64 u.k, .string (tb u.t), .slice KA2 Kn2 Kc2, .slice SA2 Sn2 Sc2] 25) = W4 at *
  have HB4 := Lib.hid (bon HB3.out hbA)
  have HV4 := Lib.hid (HVc.out.up hbA)
  have HW4 := Lib.hid (HWc.out.up hbA)
  clear hbA HB3 HVc HWc
  have wv := wt_right HG1.out.1
  have wu := wt_right HG2.out.1
  have hl1 := HG1.out.2
  have hl2 := HG2.out.2
  have HPv := Lib.hid (fun W (h : JV W anyB v (jx v ⟨KA, Kn, Kc⟩ ⟨SA, Sn, Sc⟩)) t => HP.out v ⟨KA, Kn, Kc⟩ ⟨SA, Sn, Sc⟩ W (by omega) h t)
  have HPu := Lib.hid (fun W (h : JV W anyB u (jx u ⟨KA2, Kn2, Kc2⟩ ⟨SA2, Sn2, Sc2⟩)) t => HP.out u ⟨KA2, Kn2, Kc2⟩ ⟨SA2, Sn2, Sc2⟩ W (by omega) h t)
  have HJv := Lib.hid (fun W t => HJ.out (textJ v) W (by omega) t)
  have HS1 := Lib.hid (fun (K S : Sli) W (h : JV W anyB v (jx v K S)) (h2 : JV W anyB v (jx v ⟨KA, Kn, Kc⟩ ⟨SA, Sn, Sc⟩)) t => HS.out v v K S ⟨KA, Kn, Kc⟩ ⟨SA, Sn, Sc⟩ W (by omega) h h2 t)
  have HS2 := Lib.hid (fun W (h : JV W anyB v (jx v ⟨KA, Kn, Kc⟩ ⟨SA, Sn, Sc⟩)) (h2 : JV W anyB u (jx u ⟨KA2, Kn2, Kc2⟩ ⟨SA2, Sn2, Sc2⟩)) t => HS.out v u ⟨KA, Kn, Kc⟩ ⟨SA, Sn, Sc⟩ ⟨KA2, Kn2, Kc2⟩ ⟨SA2, Sn2, Sc2⟩ W (by omega) h h2 t)
  rw [jparse_print HG1.out.1 hl1] at HJv
  rw [printJ, if_pos HG1.out.1] at HPv
  rw [printJ, if_pos HG2.out.1] at HPu
  rw [(same_iff v v).2 rfl] at HS1
  have HEq : Hid ((textJ v = textJ u ∧ sameJ v u = true) ∨ (textJ v ≠ textJ u ∧ sameJ v u = false)) := Lib.hid (by
    by_cases h : textJ v = textJ u
    · exact .inl ⟨h, (same_iff v u).2 (text_inj HG1.out.1 HG2.out.1 h)⟩
    · refine .inr ⟨h, ?_⟩
      cases hs : sameJ v u with
      | false => rfl
      | true => exact absurd (by rw [(same_iff v u).1 hs]) h)
  clear hl1 hl2 wv wu HG1 HG2 HP HJ HS
  obtain ⟨X, hX⟩ : ∃ X, textJ v = X := ⟨_, rfl⟩
  obtain ⟨Y, hY⟩ : ∃ Y, textJ u = Y := ⟨_, rfl⟩
  obtain ⟨z, hz⟩ : ∃ z, sameJ v u = z := ⟨_, rfl⟩
  rw [hX] at HPv HJv HEq
  rw [hY] at HPu HEq
  rw [hz] at HS2 HEq
  clear hX hY hz
  simp only [jx] at HPv HPu HS1 HS2
  obtain ⟨c0, c1, c2, c3⟩ := box4 bv.out
  go_wp2_with fail
  refine (HPv.out _ HV4.out (HT.out.up HB4.out)).mono ?_
  rintro E w5 ⟨rfl, hb5⟩
  have HB5 := Lib.hid (bon HB4.out hb5)
  have HV5 := Lib.hid (HV4.out.up hb5)
  have HW5 := Lib.hid (HW4.out.up hb5)
  have bv5 := Lib.hid (bv.out.up hb5)
  have bu5 := Lib.hid (bu.out.up hb5)
  clear hb5 HV4 HW4 HB4 bv bu c0 c1 c2 c3 HPv
  obtain ⟨d0, d1, d2, d3⟩ := box4 bu5.out
  simp only
  go_wp2_with fail
  refine (HPu.out _ HW5.out (HT.out.up HB5.out)).mono ?_
  rintro E w6 ⟨rfl, hb6⟩
  have HB6 := Lib.hid (bon HB5.out hb6)
  have HV6 := Lib.hid (HV5.out.up hb6)
  have HW6 := Lib.hid (HW5.out.up hb6)
  have bv6 := Lib.hid (bv5.out.up hb6)
  have bu6 := Lib.hid (bu5.out.up hb6)
  clear hb6 HV5 HW5 HB5 bv5 bu5 d0 d1 d2 d3 HPu
  simp only
  go_wp2_with fail
  refine (HJv.out _ (HT.out.up HB6.out)).mono ?_
  rintro E w7 ⟨K3, S3, rfl, hx7, hb7⟩
  have HB7 := Lib.hid (bon HB6.out hb7)
  have HV7 := Lib.hid (HV6.out.up hb7)
  have HW7 := Lib.hid (HW6.out.up hb7)
  have HX7 := Lib.hid hx7
  have bv7 := Lib.hid (bv6.out.up hb7)
  have bu7 := Lib.hid (bu6.out.up hb7)
  clear hb7 HV6 HW6 HB6 bv6 bu6 HJv hx7
  obtain ⟨KA3, Kn3, Kc3⟩ := K3
  obtain ⟨SA3, Sn3, Sc3⟩ := S3
  simp only [jx] at HX7 ⊢
  go_upto_region 8 with fail
  have hbA := ba1 w7 (.cells #[.int .i64 v.k, .string (tb v.t), .slice KA3 Kn3 Kc3, .slice SA3 Sn3 Sc3] 25)
  have bx := Lib.hid (Box.new w7 25 #[.int .i64 v.k, .string (tb v.t), .slice KA3 Kn3 Kc3, .slice SA3 Sn3 Sc3])
  obtain ⟨g3, hg3⟩ : ∃ g3, w7.heap.size = g3 := ⟨_, rfl⟩
  rw [hg3] at bx ⊢
  clear hg3
  generalize w7.alloc (.cells #[.int .i64 v.k, .string (tb v.t), .slice KA3 Kn3 Kc3, .slice SA3 Sn3 Sc3] 25) = W8 at *
  have HB8 := Lib.hid (bon HB7.out hbA)
  have HV8 := Lib.hid (HV7.out.up hbA)
  have HW8 := Lib.hid (HW7.out.up hbA)
  have HX8 := Lib.hid (HX7.out.up hbA)
  have bv8 := Lib.hid (bv7.out.up hbA)
  have bu8 := Lib.hid (bu7.out.up hbA)
  clear hbA HV7 HW7 HX7 HB7 bv7 bu7
  obtain ⟨c0, c1, c2, c3⟩ := box4 bv8.out
  obtain ⟨e0, e1, e2, e3⟩ := box4 bx.out
  go_wp2_with fail
  refine (HS1.out ⟨KA3, Kn3, Kc3⟩ ⟨SA3, Sn3, Sc3⟩ _ HX8.out HV8.out (HT.out.up HB8.out)).mono ?_
  rintro E w9 ⟨rfl, hb9⟩
  have HB9 := Lib.hid (bon HB8.out hb9)
  have HV9 := Lib.hid (HV8.out.up hb9)
  have HW9 := Lib.hid (HW8.out.up hb9)
  have bv9 := Lib.hid (bv8.out.up hb9)
  have bu9 := Lib.hid (bu8.out.up hb9)
  clear hb9 HV8 HW8 HX8 HB8 bv8 bu8 bx c0 c1 c2 c3 e0 e1 e2 e3
  obtain ⟨c0, c1, c2, c3⟩ := box4 bv9.out
  obtain ⟨d0, d1, d2, d3⟩ := box4 bu9.out
  rcases HEq.out with ⟨rfl, rfl⟩ | ⟨hne, rfl⟩
  · clear HEq
    go_wp2_with fail
    refine (HS2.out _ HV9.out HW9.out (HT.out.up HB9.out)).mono ?_
    rintro E w10 ⟨rfl, hb10⟩
    have HB10 := bon HB9.out hb10
    go_wp2
    go_ret
    exact ⟨rfl, HB10⟩
  · have hne2 := tl_neq hne
    clear HEq hne
    go_wp2_with fail
    refine (HS2.out _ HV9.out HW9.out (HT.out.up HB9.out)).mono ?_
    rintro E w10 ⟨rfl, hb10⟩
    have HB10 := bon HB9.out hb10
    go_wp2
    go_ret
    exact ⟨rfl, HB10⟩
end Go.Proofs.YtnkhghjcfhpeiaaGreatDoor
