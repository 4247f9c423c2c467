/-
  The walk of the laws' Text, over the calls' contracts.
-/
import Derived.Test.YtnkhghjcfhpeiaaGreatDoorJI
namespace Go.Proofs.YtnkhghjcfhpeiaaGreatDoor
open Go.RowKit

set_option maxRecDepth 100000 in
set_option maxHeartbeats 4000000 in
theorem text11_any (hJ : JPJ) (rJ : RPJ) (s : Bs) (w : World) (hl : s.length ≤ 1000000) (hT : TJ w) :
    Calls Tryz.prog 10 #[.string (tb s)] w (BoolEnds true w) := by
  have HJ := Lib.hid (fun W (t : TJ W) => hJ s W hl t)
  have HJ2 := Lib.hid (fun W (t : TJ W) => rJ s W hl t)
  have HT := Lib.hid hT
  obtain ⟨⟨z, ze, zn⟩, hz⟩ : ∃ z, parseJ s = z := ⟨_, rfl⟩
  rw [hz] at HJ HJ2
  have HSm := Lib.hid (fun K S K2 S2 W h h2 => RPS z z K S K2 S2 W h h2)
  rw [(same_iff z z).2 rfl] at HSm
  clear hJ rJ hl hT hz
  simp only [jx] at HSm
  obtain ⟨vk, hvk⟩ : ∃ k, z.k = k := ⟨_, rfl⟩
  obtain ⟨vt, hvt⟩ : ∃ t, z.t = t := ⟨_, rfl⟩
  rw [hvk, hvt] at HSm
  have HK := Lib.hid hvk
  have HTx := Lib.hid hvt
  clear hvk hvt
  go_enter Tryz.func10, Tryz.ntmps10
  go_wp2_with fail
  refine (HJ.out w HT.out).mono ?_
  rintro E w1 ⟨K, S, rfl, hv, hb1⟩
  simp only [jx, HK.out, HTx.out] at hv ⊢
  obtain ⟨KA, Kn, Kc⟩ := K
  obtain ⟨SA, Sn, Sc⟩ := S
  have HB1 := Lib.hid (bon hb1 (ba1 w1 (.cells #[.int .i64 vk, .string (tb vt), .slice KA Kn Kc, .slice SA Sn Sc] 25)))
  have HV1 := Lib.hid (hv.up (ba1 w1 (.cells #[.int .i64 vk, .string (tb vt), .slice KA Kn Kc, .slice SA Sn Sc] 25)))
  have hbx := Lib.hid (Box.new w1 25 #[.int .i64 vk, .string (tb vt), .slice KA Kn Kc, .slice SA Sn Sc])
  clear hb1 hv HJ
  simp only at HV1 HB1 hbx ⊢
  go_upto_region 2 with fail
  obtain ⟨g1, hg1⟩ : ∃ g1, w1.heap.size = g1 := ⟨_, rfl⟩
  rw [hg1] at hbx ⊢
  clear hg1
  generalize w1.alloc (.cells #[.int .i64 vk, .string (tb vt), .slice KA Kn Kc, .slice SA Sn Sc] 25) = W1 at *
  go_wp2_with fail
  refine (HJ2.out W1 (HT.out.up HB1.out)).mono ?_
  rintro E w2 ⟨K2, S2, rfl, hv, hb2⟩
  simp only [jx, HK.out, HTx.out] at hv ⊢
  obtain ⟨KA2, Kn2, Kc2⟩ := K2
  obtain ⟨SA2, Sn2, Sc2⟩ := S2
  have hb3 := Lib.hid (bon hb2 (ba1 w2 (.cells #[.int .i64 vk, .string (tb vt), .slice KA2 Kn2 Kc2, .slice SA2 Sn2 Sc2] 25)))
  have HV2 := Lib.hid (hv.up (ba1 w2 (.cells #[.int .i64 vk, .string (tb vt), .slice KA2 Kn2 Kc2, .slice SA2 Sn2 Sc2] 25)))
  have hby := Lib.hid (Box.new w2 25 #[.int .i64 vk, .string (tb vt), .slice KA2 Kn2 Kc2, .slice SA2 Sn2 Sc2])
  have hbx2 := Lib.hid (hbx.out.up hb3.out)
  have HV3 := Lib.hid (HV1.out.up hb3.out)
  have HB3 := Lib.hid (bon HB1.out hb3.out)
  clear hb2 hv HJ2 hbx HV1 HB1 hb3
  simp only at HV2 hby HV3 HB3 hbx2 ⊢
  go_upto_region 3 with fail
  obtain ⟨g2, hg2⟩ : ∃ g2, w2.heap.size = g2 := ⟨_, rfl⟩
  rw [hg2] at hby ⊢
  clear hg2
  generalize w2.alloc (.cells #[.int .i64 vk, .string (tb vt), .slice KA2 Kn2 Kc2, .slice SA2 Sn2 Sc2] 25) = W2 at *
  obtain ⟨c0, c1, c2, c3⟩ := box4 hbx2.out
  obtain ⟨d0, d1, d2, d3⟩ := box4 hby.out
  go_wp2_with fail
  refine (HSm.out ⟨KA, Kn, Kc⟩ ⟨SA, Sn, Sc⟩ ⟨KA2, Kn2, Kc2⟩ ⟨SA2, Sn2, Sc2⟩ W2 HV3.out HV2.out).mono ?_
  rintro E w4 ⟨rfl, hb4⟩
  have HB4 := bon HB3.out hb4
  go_wp2
  go_ret
  exact ⟨by first | rfl | simp, HB4⟩
end Go.Proofs.YtnkhghjcfhpeiaaGreatDoor
