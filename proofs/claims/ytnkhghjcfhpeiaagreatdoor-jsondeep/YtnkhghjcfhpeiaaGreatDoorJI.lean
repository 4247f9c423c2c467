/-
  The walk of the laws' told and Text, over the calls' contracts.
-/
import Derived.Test.YtnkhghjcfhpeiaaGreatDoorJH
namespace Go.Proofs.YtnkhghjcfhpeiaaGreatDoor
open Go.RowKit

def RPR : Prop := ∀ (v : Jv) (K S : Sli) (W : World), wtJ v ≤ 10000 → JV W anyB v (jx v K S) → TJ W → Calls Tryz.prog 18 #[jx v K S] W (BoolEnds (rightJ v) W)
def RPP : Prop := ∀ (v : Jv) (K S : Sli) (W : World), wtJ v ≤ 10000 → JV W anyB v (jx v K S) → TJ W → Calls Tryz.prog 17 #[jx v K S] W (PriEnds (printJ v) W)
def RPJ : Prop := ∀ (s : Bs) (W : World), s.length ≤ 1000000 → TJ W → Calls Tryz.prog 20 #[.string (tb s)] W (ParEnds (parseJ s) W)
theorem RPS (a b : Jv) (K S K2 S2 : Sli) (W : World) (ha : JV W anyB a (jx a K S)) (hb : JV W anyB b (jx b K2 S2)) : Calls Tryz.prog 19 #[jx a K S, jx b K2 S2] W (BoolEnds (sameJ a b) W) := rsame11_any anyB (nodesJ a) a b _ _ W (Nat.le_refl _) ha hb
theorem held8 {W X w' : World} {a0 a1 a2 a3 a4 a5 a6 a7 : Addr} {v0 v1 v2 v3 v4 v5 v6 v7 : Value} (hb : Below X.heap.size X w')
    (h : Below W.heap.size W X ∧ X.cell? a0 = some v0 ∧ X.cell? a1 = some v1 ∧ X.cell? a2 = some v2 ∧ X.cell? a3 = some v3 ∧ X.cell? a4 = some v4 ∧ X.cell? a5 = some v5 ∧ X.cell? a6 = some v6 ∧ X.cell? a7 = some v7) :
    Below W.heap.size W w' ∧ w'.cell? a0 = some v0 ∧ w'.cell? a1 = some v1 ∧ w'.cell? a2 = some v2 ∧ w'.cell? a3 = some v3 ∧ w'.cell? a4 = some v4 ∧ w'.cell? a5 = some v5 ∧ w'.cell? a6 = some v6 ∧ w'.cell? a7 = some v7 := by
  obtain ⟨h, h0, h1, h2, h3, h4, h5, h6, h7⟩ := h
  exact ⟨bon h hb, cell_up hb h0, cell_up hb h1, cell_up hb h2, cell_up hb h3, cell_up hb h4, cell_up hb h5, cell_up hb h6, cell_up hb h7⟩
set_option maxRecDepth 100000 in
set_option maxHeartbeats 8000000 in
theorem told_any (hR : JPR) (hP : JPP) (hS : JPS) (rR : RPR) (rP : RPP) (v u : Jv) (K S K2 S2 : Sli) (w : World) (hwv : wtJ v ≤ 10000) (hv : JV w anyB v (jx v K S)) (hu : JV w anyB u (jx u K2 S2)) (hT : TJ w) :
    Calls Tryz.prog 9 #[jx v K S, jx u K2 S2] w (BoolEnds true w) := by
  have HR := Lib.hid (fun W (h : JV W anyB v (jx v K S)) (t : TJ W) => hR v K S W hwv h t)
  have HP := Lib.hid (fun W (h : JV W anyB v (jx v K S)) (t : TJ W) => hP v K S W hwv h t)
  have HS := Lib.hid (fun W (h : JV W anyB v (jx v K S)) (h2 : JV W anyB u (jx u K2 S2)) (t : TJ W) => hS v u K S K2 S2 W hwv h h2 t)
  have HR2 := Lib.hid (fun W (h : JV W anyB v (jx v K S)) (t : TJ W) => rR v K S W hwv h t)
  have HP2 := Lib.hid (fun W (h : JV W anyB v (jx v K S)) (t : TJ W) => rP v K S W hwv h t)
  have HS2 := Lib.hid (fun W (h : JV W anyB v (jx v K S)) (h2 : JV W anyB u (jx u K2 S2)) => RPS v u K S K2 S2 W h h2)
  have HV := Lib.hid hv
  have HU := Lib.hid hu
  have HT := Lib.hid hT
  obtain ⟨⟨pz, pe⟩, hp⟩ : ∃ p, printJ v = p := ⟨_, rfl⟩
  obtain ⟨rz, hr⟩ : ∃ r, rightJ v = r := ⟨_, rfl⟩
  obtain ⟨sz, hs⟩ : ∃ s, sameJ v u = s := ⟨_, rfl⟩
  rw [hp] at HP HP2
  rw [hr] at HR HR2
  rw [hs] at HS HS2
  clear hR hP hS rR rP hwv hv hu hT hp hr hs
  simp only [jx] at HR HP HS HR2 HP2 HS2 HV HU ⊢
  obtain ⟨vk, hvk⟩ : ∃ k, v.k = k := ⟨_, rfl⟩
  obtain ⟨uk, huk⟩ : ∃ k, u.k = k := ⟨_, rfl⟩
  obtain ⟨vt, hvt⟩ : ∃ t, v.t = t := ⟨_, rfl⟩
  obtain ⟨ut, hut⟩ : ∃ t, u.t = t := ⟨_, rfl⟩
  rw [hvk, hvt] at HR HP HS HR2 HP2 HS2 HV ⊢
  rw [huk, hut] at HS HS2 HU ⊢
  clear hvk huk hvt hut
  obtain ⟨KA, Kn, Kc⟩ := K
  obtain ⟨SA, Sn, Sc⟩ := S
  obtain ⟨KA2, Kn2, Kc2⟩ := K2
  obtain ⟨SA2, Sn2, Sc2⟩ := S2
  simp only at HR HP HS HR2 HP2 HS2 HV HU ⊢
  go_enter Tryz.func9, Tryz.ntmps9
  have HB0 := Lib.hid (bon (ba1 w (.cells #[.int .i64 vk, .string (tb vt), .slice KA Kn Kc, .slice SA Sn Sc] 25)) (ba1 (w.alloc (.cells #[.int .i64 vk, .string (tb vt), .slice KA Kn Kc, .slice SA Sn Sc] 25)) (.cells #[.int .i64 uk, .string (tb ut), .slice KA2 Kn2 Kc2, .slice SA2 Sn2 Sc2] 25)))
  have hbx := Lib.hid ((Box.new w 25 #[.int .i64 vk, .string (tb vt), .slice KA Kn Kc, .slice SA Sn Sc]).up (ba1 (w.alloc (.cells #[.int .i64 vk, .string (tb vt), .slice KA Kn Kc, .slice SA Sn Sc] 25)) (.cells #[.int .i64 uk, .string (tb ut), .slice KA2 Kn2 Kc2, .slice SA2 Sn2 Sc2] 25)))
  have hby := Lib.hid (Box.new (w.alloc (.cells #[.int .i64 vk, .string (tb vt), .slice KA Kn Kc, .slice SA Sn Sc] 25)) 25 #[.int .i64 uk, .string (tb ut), .slice KA2 Kn2 Kc2, .slice SA2 Sn2 Sc2])
  have HV0 := Lib.hid (HV.out.up HB0.out)
  have HU0 := Lib.hid (HU.out.up HB0.out)
  go_upto_region 1 with fail
  have hsz : (w.alloc (.cells #[.int .i64 vk, .string (tb vt), .slice KA Kn Kc, .slice SA Sn Sc] 25)).heap.size = w.heap.size + 1 := by show (w.heap.push _).size = _; simp
  rw [hsz] at hby
  clear hsz HV HU
  generalize ((w.alloc (.cells #[.int .i64 vk, .string (tb vt), .slice KA Kn Kc, .slice SA Sn Sc] 25)).alloc (.cells #[.int .i64 uk, .string (tb ut), .slice KA2 Kn2 Kc2, .slice SA2 Sn2 Sc2] 25)) = W0 at *
  obtain ⟨c0, c1, c2, c3⟩ := box4 hbx.out
  go_wp2_with fail
  refine (HP.out W0 HV0.out (HT.out.up HB0.out)).mono ?_
  rintro E w1 ⟨rfl, hb1⟩
  have HB1 := Lib.hid (bon HB0.out hb1)
  have HV1 := Lib.hid (HV0.out.up hb1)
  have HU1 := Lib.hid (HU0.out.up hb1)
  have hbx1 := Lib.hid (hbx.out.up hb1)
  have hby1 := Lib.hid (hby.out.up hb1)
  clear hb1 HB0 HV0 HU0 hbx hby c0 c1 c2 c3 HP
  obtain ⟨c0, c1, c2, c3⟩ := box4 hbx1.out
  go_wp2_with fail
  refine (HP2.out w1 HV1.out (HT.out.up HB1.out)).mono ?_
  rintro E w2 ⟨rfl, hb2⟩
  have HB2 := Lib.hid (bon HB1.out hb2)
  have HV2 := Lib.hid (HV1.out.up hb2)
  have HU2 := Lib.hid (HU1.out.up hb2)
  have hbx2 := Lib.hid (hbx1.out.up hb2)
  have hby2 := Lib.hid (hby1.out.up hb2)
  clear hb2 HB1 HV1 HU1 hbx1 hby1 c0 c1 c2 c3 HP2
  obtain ⟨c0, c1, c2, c3⟩ := box4 hbx2.out
  obtain ⟨d0, d1, d2, d3⟩ := box4 hby2.out
  go_upto_region 3 with fail
  go_region_held3 (fun W' => Below w2.heap.size w2 W' ∧ W'.cell? ⟨w.heap.size, 0, none⟩ = some (.int .i64 vk) ∧ W'.cell? ⟨w.heap.size, 1, none⟩ = some (.string (tb vt)) ∧ W'.cell? ⟨w.heap.size, 2, none⟩ = some (.slice KA Kn Kc) ∧ W'.cell? ⟨w.heap.size, 3, none⟩ = some (.slice SA Sn Sc) ∧ W'.cell? ⟨w.heap.size + 1, 0, none⟩ = some (.int .i64 uk) ∧ W'.cell? ⟨w.heap.size + 1, 1, none⟩ = some (.string (tb ut)) ∧ W'.cell? ⟨w.heap.size + 1, 2, none⟩ = some (.slice KA2 Kn2 Kc2) ∧ W'.cell? ⟨w.heap.size + 1, 3, none⟩ = some (.slice SA2 Sn2 Sc2))
    (first | exact held8 hbD (by assumption) | exact held8 hbC (by assumption) | exact held8 hbB (by assumption) | exact held8 hbA (by assumption) | exact ⟨(Below.refl _ _).drew, c0, c1, c2, c3, d0, d1, d2, d3⟩ | fail)
    (first
      | (go_at_call 16; refine (HR.out w2.drew (HV2.out.up (Below.refl _ _).drew) (HT.out.up (bon HB2.out (Below.refl _ _).drew))).mono ?_; rintro E wA ⟨rfl, hbA⟩; have hA2 := bon ((Below.refl w2.heap.size w2).drew) hbA)
      | (go_at_call 18; refine (HR2.out wA (HV2.out.up hA2) (HT.out.up (bon HB2.out hA2))).mono ?_; rintro E wB ⟨rfl, hbB⟩; have hB2 := bon hA2 hbB)
      | (go_at_call 14; refine (HS.out wB (HV2.out.up hB2) (HU2.out.up hB2) (HT.out.up (bon HB2.out hB2))).mono ?_; rintro E wC ⟨rfl, hbC⟩; have hC2 := bon hB2 hbC)
      | (go_at_call 19; refine (HS2.out wC (HV2.out.up hC2) (HU2.out.up hC2)).mono ?_; rintro E wD ⟨rfl, hbD⟩)
      | fail)
  rename_i hHeld
  have hd := bon HB2.out hHeld.1
  clear hHeld
  go_wp2
  go_ret
  exact ⟨by first | rfl | simp, hd⟩
end Go.Proofs.YtnkhghjcfhpeiaaGreatDoor
