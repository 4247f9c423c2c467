/-
  The walk of the law JsonAny, over the calls' contracts.
-/
import Derived.Test.YtnkhghjcfhpeiaaGreatDoorJK
namespace Go.Proofs.YtnkhghjcfhpeiaaGreatDoor
open Go.RowKit

set_option maxRecDepth 100000 in
set_option maxHeartbeats 4000000 in
theorem jsonAny_any (hR : JPR) (hP : JPP) (hJ : JPJ) (hS : JPS) (rR : RPR) (rP : RPP) (v u : Jv) (K S K2 S2 : Sli) (w : World) (hv : JV w anyB v (jx v K S)) (hu : JV w anyB u (jx u K2 S2)) (sv : ShJ v) (su : ShJ u) (hT : TJ w) :
    Calls Tryz.prog 3 #[jx v K S, jx u K2 S2] w (BoolEnds true w) := by
  have HAw := Lib.hid (fun W t => awakeJ hR hP hJ hS W t)
  have HF1 := Lib.hid (fun W (h : JV W anyB v (jx v K S)) => few_any anyB 1500 v (jx v K S) 1500 W (by decide) (by decide) (by decide) h sv)
  have HF2 := Lib.hid (fun W (h : JV W anyB u (jx u K2 S2)) => few_any anyB 1500 u (jx u K2 S2) 1500 W (by decide) (by decide) (by decide) h su)
  have HTo := Lib.hid (fun W (hw : wtJ v ≤ 10000) (h : JV W anyB v (jx v K S)) (h2 : JV W anyB u (jx u K2 S2)) (t : TJ W) => told_any hR hP hS rR rP v u K S K2 S2 W hw h h2 t)
  have HV := Lib.hid hv
  have HU := Lib.hid hu
  have HT := Lib.hid hT
  clear hR hP hJ hS rR rP hv hu sv su hT
  simp only [jx] at HF1 HF2 HTo HV HU ⊢
  obtain ⟨vk, hvk⟩ : ∃ k, v.k = k := ⟨_, rfl⟩
  obtain ⟨uk, huk⟩ : ∃ k, u.k = k := ⟨_, rfl⟩
  obtain ⟨vt, hvt⟩ : ∃ t, v.t = t := ⟨_, rfl⟩
  obtain ⟨ut, hut⟩ : ∃ t, u.t = t := ⟨_, rfl⟩
  rw [hvk, hvt] at HF1 HTo HV ⊢
  rw [huk, hut] at HF2 HTo HU ⊢
  clear hvk huk hvt hut
  obtain ⟨n1, hn1⟩ : ∃ n, wtJ v = n := ⟨_, rfl⟩
  obtain ⟨n2, hn2⟩ : ∃ n, wtJ u = n := ⟨_, rfl⟩
  rw [hn1] at HF1 HTo
  rw [hn2] at HF2
  clear hn1 hn2
  obtain ⟨KA, Kn, Kc⟩ := K
  obtain ⟨SA, Sn, Sc⟩ := S
  obtain ⟨KA2, Kn2, Kc2⟩ := K2
  obtain ⟨SA2, Sn2, Sc2⟩ := S2
  simp only at HF1 HF2 HTo HV HU ⊢
  go_enter Tryz.func3, Tryz.ntmps3
  have HB0 := Lib.hid (bon (ba1 w (.cells #[.int .i64 vk, .string (tb vt), .slice KA Kn Kc, .slice SA Sn Sc] 25)) (ba1 (w.alloc (.cells #[.int .i64 vk, .string (tb vt), .slice KA Kn Kc, .slice SA Sn Sc] 25)) (.cells #[.int .i64 uk, .string (tb ut), .slice KA2 Kn2 Kc2, .slice SA2 Sn2 Sc2] 25)))
  have hbx := Lib.hid ((Box.new w 25 #[.int .i64 vk, .string (tb vt), .slice KA Kn Kc, .slice SA Sn Sc]).up (ba1 (w.alloc (.cells #[.int .i64 vk, .string (tb vt), .slice KA Kn Kc, .slice SA Sn Sc] 25)) (.cells #[.int .i64 uk, .string (tb ut), .slice KA2 Kn2 Kc2, .slice SA2 Sn2 Sc2] 25)))
  have hby := Lib.hid (Box.new (w.alloc (.cells #[.int .i64 vk, .string (tb vt), .slice KA Kn Kc, .slice SA Sn Sc] 25)) 25 #[.int .i64 uk, .string (tb ut), .slice KA2 Kn2 Kc2, .slice SA2 Sn2 Sc2])
  have HV0 := Lib.hid (HV.out.up HB0.out)
  have HU0 := Lib.hid (HU.out.up HB0.out)
  go_upto_region 1 with fail
  have hsz : (w.alloc (.cells #[.int .i64 vk, .string (tb vt), .slice KA Kn Kc, .slice SA Sn Sc] 25)).heap.size = w.heap.size + 1 := by show (w.heap.push _).size = _; simp
  rw [hsz] at hby
  clear hsz HV HU
  generalize ((w.alloc (.cells #[.int .i64 vk, .string (tb vt), .slice KA Kn Kc, .slice SA Sn Sc] 25)).alloc (.cells #[.int .i64 uk, .string (tb ut), .slice KA2 Kn2 Kc2, .slice SA2 Sn2 Sc2] 25)) = W0 at *
  go_wp2_with fail
  refine (HAw.out W0 (HT.out.up HB0.out)).mono ?_
  rintro E w1 ⟨rfl, hb1⟩
  have HB1 := Lib.hid (bon HB0.out hb1)
  have HV1 := Lib.hid (HV0.out.up hb1)
  have HU1 := Lib.hid (HU0.out.up hb1)
  have hbx1 := Lib.hid (hbx.out.up hb1)
  have hby1 := Lib.hid (hby.out.up hb1)
  clear hb1 HB0 HV0 HU0 hbx hby HAw
  obtain ⟨c0, c1, c2, c3⟩ := box4 hbx1.out
  go_wp2_with fail
  refine (HF1.out w1 HV1.out).mono ?_
  rintro E w2 ⟨r1, rfl, _, _, hr1, hb2⟩
  have HB2 := Lib.hid (bon HB1.out hb2)
  have HV2 := Lib.hid (HV1.out.up hb2)
  have HU2 := Lib.hid (HU1.out.up hb2)
  have hbx2 := Lib.hid (hbx1.out.up hb2)
  have hby2 := Lib.hid (hby1.out.up hb2)
  have HR1 := Lib.hid hr1
  clear hb2 HB1 HV1 HU1 hbx1 hby1 c0 c1 c2 c3 HF1 hr1
  by_cases hr : r1 ≤ 0
  case pos =>
    go_wp2
    go_ret
    exact ⟨by first | rfl | simp, HB2.out⟩
  case neg =>
  have hn1 : n1 ≤ 10000 := by have := HR1.out (.inl (by omega)); omega
  obtain ⟨d0, d1, d2, d3⟩ := box4 hby2.out
  go_wp2_with fail
  refine (HF2.out w2 HU2.out).mono ?_
  rintro E w3 ⟨r2, rfl, _, _, _, hb3⟩
  have HB3 := Lib.hid (bon HB2.out hb3)
  have HV3 := Lib.hid (HV2.out.up hb3)
  have HU3 := Lib.hid (HU2.out.up hb3)
  have hbx3 := Lib.hid (hbx2.out.up hb3)
  have hby3 := Lib.hid (hby2.out.up hb3)
  clear hb3 HB2 HV2 HU2 hbx2 hby2 d0 d1 d2 d3 HF2
  by_cases hr2 : r2 ≤ 0
  case pos =>
    go_wp2
    go_ret
    exact ⟨by first | rfl | simp, HB3.out⟩
  case neg =>
  obtain ⟨c0, c1, c2, c3⟩ := box4 hbx3.out
  obtain ⟨d0, d1, d2, d3⟩ := box4 hby3.out
  go_wp2_with fail
  refine (HTo.out w3 hn1 HV3.out HU3.out (HT.out.up HB3.out)).mono ?_
  rintro E w4 ⟨rfl, hb4⟩
  have HB4 := bon HB3.out hb4
  go_wp2
  go_ret
  exact ⟨by first | rfl | simp, HB4⟩
end Go.Proofs.YtnkhghjcfhpeiaaGreatDoor
