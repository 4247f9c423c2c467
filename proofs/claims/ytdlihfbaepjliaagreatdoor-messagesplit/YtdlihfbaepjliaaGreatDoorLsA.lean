/-
  The law's own 'same': what is read is what the document says.
-/
import Derived.Test.YtdlihfbaepjliaaGreatDoorJPw
import Derived.Test.YtdlihfbaepjliaaGreatDoorRt
import Derived.Test.YtdlihfbaepjliaaGreatDoorJPv
import Derived.Test.YtdlihfbaepjliaaGreatDoorJPu
namespace Go.Proofs.YtdlihfbaepjliaaGreatDoor
open Go.RowKit
attribute [local go_sem ↓] exec_ldR exec_ldH exec_ldK exec_ldM exec_stR exec_stH exec_stK exec_stM exec_bdM exec_bsM
attribute [local go_sem] run_bdM run_bsM run_ldR run_ldH run_ldK run_ldM run_stR run_stH run_stK run_stM ldO_at stO_at rcs_size hcs_size kcs_size mca_size rcs_one hcs_one kcs_one mca_one rcs_oneN hcs_oneN kcs_oneN mca_oneN rcs_now rcs_ck mca_head hpat_drew hpat_new
attribute [local go_sem ↓] exec_stP exec_bdP
attribute [local go_sem] run_stP run_bdP pcs_size pcs_one pcs_oneN pcs_rd pcs_now pcs_ck pspl_now pspl_ck pspl_rd
attribute [local go_sem] zM_one zM_size
/-- a slice of the one message in a block -/
theorem ms_one {w : World} {a : Nat} {M : Mg} {T : Sli} (hb : Box w a 49 (mca M T)) (hF : Fs w T (mkF M.h.fs)) : Ms w ⟨some ⟨a, 0, none⟩, 1, 1⟩ [(M, T)] :=
  ⟨rfl, fun _ => ⟨a, 0, rfl, hb.lt, fun j u hu => by rw [Nat.zero_add]; exact hb.c j (by rw [show mvs [(M, T)] = (mca M T).toList from rfl] at hu; simpa using hu)⟩, (fun h => by cases h), ⟨Nat.le_refl _, by show 1 ≤ maxLen; unfold maxLen; omega⟩, fun x hx => by obtain rfl := List.mem_singleton.1 hx; exact hF⟩
/-- a message in two boxes -/
def TwoM (M : Mg) (T1 T2 : Sli) (W : World) (i j : Nat) : Prop := Box W i 49 (mca M T1) ∧ Box W j 49 (mca M T2)
theorem two_a (w : World) (M : Mg) (T1 T2 : Sli) : TwoM M T1 T2 ((w.alloc (.cells (mca M T1) 49)).alloc (.cells (mca M T2) 49)) w.heap.size (w.heap.size + 1) :=
  ⟨(Box.new w 49 (mca M T1)).up (ba1 _ _), by have := Box.new (w.alloc (.cells (mca M T1) 49)) 49 (mca M T2); simpa using this⟩
theorem two_b (w : World) (M : Mg) (T1 T2 : Sli) : TwoM M T1 T2 ((w.alloc (.cells (mca M T2) 49)).alloc (.cells (mca M T1) 49)) (w.heap.size + 1) w.heap.size :=
  ⟨by have := Box.new (w.alloc (.cells (mca M T2) 49)) 49 (mca M T1); simpa using this, (Box.new w 49 (mca M T2)).up (ba1 _ _)⟩
theorem two_same (M : Mg) (T1 T2 : Sli) (W : World) (i j : Nat) (h : TwoM M T1 T2 W i j) (h1 : Fs W T1 (mkF M.h.fs)) (h2 : Fs W T2 (mkF M.h.fs)) : Calls Tryz.prog 22 #[.slice (some ⟨i, 0, none⟩) 1 1, .slice (some ⟨j, 0, none⟩) 1 1] W (BoolEnds true W) :=
  rsameM_c ⟨some ⟨i, 0, none⟩, 1, 1⟩ ⟨some ⟨j, 0, none⟩, 1, 1⟩ [(M, T1)] [(M, T2)] W (ms_one h.1 h1) (ms_one h.2 h2) rfl
set_option maxRecDepth 100000 in
set_option maxHeartbeats 8000000 in
theorem same9_c (R : Rr) (S : Sli) (s : Bs) (w : World) (hF : Fs w S (mkF R.now.fs)) (hS : SmR R) (hs : s.length ≤ 1000000) (hmx : Mx w) : Calls Tryz.prog 12 #[.agg (rcs R S), .string (tb s)] w (BoolEnds true w) := by
  obtain ⟨⟨R1, l1, e1⟩, hZ⟩ : ∃ Z, feedR R s = Z := ⟨_, rfl⟩
  obtain ⟨⟨M1, f1, x1⟩, hY⟩ : ∃ Z, endR R = Z := ⟨_, rfl⟩
  obtain ⟨K, hK⟩ : ∃ K, decide (okR R) = K := ⟨_, rfl⟩
  obtain ⟨L, hL⟩ : ∃ L, tb s = L := ⟨_, rfl⟩
  have CP : Hid (∀ W, Fs W S (mkF R.now.fs) → Mx W → Calls Tryz.prog 19 #[.agg (rcs R S), .string L] W (Feed9Ends (R1, l1, e1) none [] W)) := Lib.hid (fun W h m => by rw [← hZ, ← hL]; exact pfeed9_c R S s W h hS hs m)
  have CR : Hid (∀ W, Fs W S (mkF R.now.fs) → Calls Tryz.prog 16 #[.agg (rcs R S), .string L] W (Feed9Ends (R1, l1, e1) S.A (mkF R.now.fs) W)) := Lib.hid (fun W h => by rw [← hZ, ← hL]; exact rfeed9_c R S s W h hS hs)
  have CE : Hid (∀ W, Fs W S (mkF R.now.fs) → Calls Tryz.prog 26 #[.agg (rcs R S)] W (End9Ends (M1, f1, x1) W)) := Lib.hid (fun W h => by rw [← hY]; exact pend9_c R S W h hS)
  have CF : Hid (∀ W, Fs W S (mkF R.now.fs) → Calls Tryz.prog 28 #[.agg (rcs R S)] W (End9Ends (M1, f1, x1) W)) := Lib.hid (fun W h => by rw [← hY]; exact rend9_c R S W h hS)
  have CG : Hid (∀ W, Fs W S (mkF R.now.fs) → Calls Tryz.prog 27 #[.agg (rcs R S)] W (BoolEnds K W)) := Lib.hid (fun W h => by rw [← hK]; exact pright9_c R S W h hS)
  have CH : Hid (∀ W, Fs W S (mkF R.now.fs) → Calls Tryz.prog 29 #[.agg (rcs R S)] W (BoolEnds K W)) := Lib.hid (fun W h => by rw [← hK]; exact rright9_c R S W h hS)
  have b0 := Box.new w 32 (rcs R S)
  have hd0 := ba1 w (.cells (rcs R S) 32)
  have hF0 := hF.up hd0
  have HMx := Lib.hid (hmx.up hd0)
  rw [hL]
  clear hZ hY hK hL hF hmx hS hs
  go_enter Tryz.func12, Tryz.ntmps12
  go_upto_region 1 with fail
  obtain ⟨g, hg⟩ : ∃ g, w.heap.size = g := ⟨_, rfl⟩
  rw [hg] at b0 ⊢
  clear hg
  generalize w.alloc (.cells (rcs R S) 32) = W0 at *
  have hbg : hpat W0 g = some (.cells (rcs R S) 32 (0, 0)) := b0
  go_wp2_with fail
  refine (CP.out W0 hF0 HMx.out).mono ?_
  rintro E w1 ⟨S1, O1, ms1, rfl, hF1, -, hM1, hm1, hc1⟩
  simp only at hF1 hm1 ⊢
  clear hbg
  go_upto_region 2 with fail
  have hbA : Below w1.heap.size w1 ((w1.alloc (.cells #[.bool false, .string ⟨#[]⟩, .string ⟨#[]⟩, .int .i64 0, .int .i64 0, .string ⟨#[]⟩, .int .i64 0, .int .i64 0, .string ⟨#[]⟩, .int .i64 0, .string ⟨#[]⟩, .string ⟨#[]⟩, .int .i64 0, .string ⟨#[]⟩, .int .i64 0, .slice none 0 0, .int .i64 0] 32)).setRow w1.heap.size (rcs R1 S1)) := below_row (ba1 w1 _) (Nat.le_refl _) _
  have b1 := box_row (rcs R1 S1) (Box.new w1 32 #[.bool false, .string ⟨#[]⟩, .string ⟨#[]⟩, .int .i64 0, .int .i64 0, .string ⟨#[]⟩, .int .i64 0, .int .i64 0, .string ⟨#[]⟩, .int .i64 0, .string ⟨#[]⟩, .string ⟨#[]⟩, .int .i64 0, .string ⟨#[]⟩, .int .i64 0, .slice none 0 0, .int .i64 0])
  have hu := bon hc1 hbA
  replace hF1 := hF1.up hbA
  replace hM1 := hM1.up hbA
  replace b0 := b0.up hu
  replace hF0 := hF0.up hu
  replace HMx := Lib.hid (HMx.out.up hu)
  have hd1 := bon hd0 hu
  obtain ⟨g1, hg⟩ : ∃ k, w1.heap.size = k := ⟨_, rfl⟩
  rw [hg] at b1 b0 hF0 hF1 hM1 hd1 HMx ⊢
  clear hg hu hbA hc1 hd0
  generalize (w1.alloc (.cells #[.bool false, .string ⟨#[]⟩, .string ⟨#[]⟩, .int .i64 0, .int .i64 0, .string ⟨#[]⟩, .int .i64 0, .int .i64 0, .string ⟨#[]⟩, .int .i64 0, .string ⟨#[]⟩, .string ⟨#[]⟩, .int .i64 0, .string ⟨#[]⟩, .int .i64 0, .slice none 0 0, .int .i64 0] 32)).setRow g1 (rcs R1 S1) = W1 at *
  have hbg : hpat W1 g = some (.cells (rcs R S) 32 (0, 0)) := b0
  go_wp2_with fail
  refine (CR.out W1 hF0).mono ?_
  rintro E w2 ⟨S2, O2, ms2, rfl, hF2, -, hM2, hm2, hc2⟩
  simp only at hF2 hm2 ⊢
  clear HMx
  clear hbg
  go_upto_region 3 with fail
  have hbA : Below w2.heap.size w2 ((w2.alloc (.cells #[.bool false, .string ⟨#[]⟩, .string ⟨#[]⟩, .int .i64 0, .int .i64 0, .string ⟨#[]⟩, .int .i64 0, .int .i64 0, .string ⟨#[]⟩, .int .i64 0, .string ⟨#[]⟩, .string ⟨#[]⟩, .int .i64 0, .string ⟨#[]⟩, .int .i64 0, .slice none 0 0, .int .i64 0] 32)).setRow w2.heap.size (rcs R1 S2)) := below_row (ba1 w2 _) (Nat.le_refl _) _
  have b2 := box_row (rcs R1 S2) (Box.new w2 32 #[.bool false, .string ⟨#[]⟩, .string ⟨#[]⟩, .int .i64 0, .int .i64 0, .string ⟨#[]⟩, .int .i64 0, .int .i64 0, .string ⟨#[]⟩, .int .i64 0, .string ⟨#[]⟩, .string ⟨#[]⟩, .int .i64 0, .string ⟨#[]⟩, .int .i64 0, .slice none 0 0, .int .i64 0])
  have hu := bon hc2 hbA
  replace hF2 := hF2.up hbA
  replace hM2 := hM2.up hbA
  replace b0 := b0.up hu
  replace hF0 := hF0.up hu
  replace b1 := b1.up hu
  replace hF1 := hF1.up hu
  replace hM1 := hM1.up hu

  have hd2 := bon hd1 hu
  obtain ⟨g2, hg⟩ : ∃ k, w2.heap.size = k := ⟨_, rfl⟩
  rw [hg] at b2 b0 hF0 b1 hF1 hM1 hF2 hM2 hd2 ⊢
  clear hg hu hbA hc2 hd1
  generalize (w2.alloc (.cells #[.bool false, .string ⟨#[]⟩, .string ⟨#[]⟩, .int .i64 0, .int .i64 0, .string ⟨#[]⟩, .int .i64 0, .int .i64 0, .string ⟨#[]⟩, .int .i64 0, .string ⟨#[]⟩, .string ⟨#[]⟩, .int .i64 0, .string ⟨#[]⟩, .int .i64 0, .slice none 0 0, .int .i64 0] 32)).setRow g2 (rcs R1 S2) = W2 at *
  have hbg : hpat W2 g = some (.cells (rcs R S) 32 (0, 0)) := b0
  go_wp2_with fail
  refine (CE.out W2 hF0).mono ?_
  rintro E w3 ⟨T1, rfl, hG1, hc3⟩
  simp only at hG1 ⊢
  clear hbg
  go_upto_region 4 with fail
  have hbA : Below w3.heap.size w3 ((w3.alloc (.cells #[.string ⟨#[]⟩, .string ⟨#[]⟩, .int .i64 0, .string ⟨#[]⟩, .int .i64 0, .slice none 0 0, .string ⟨#[]⟩] 49)).setRow w3.heap.size (mca M1 T1)) := below_row (ba1 w3 _) (Nat.le_refl _) _
  have b3 := box_row (mca M1 T1) (Box.new w3 49 #[.string ⟨#[]⟩, .string ⟨#[]⟩, .int .i64 0, .string ⟨#[]⟩, .int .i64 0, .slice none 0 0, .string ⟨#[]⟩])
  have hu := bon hc3 hbA
  replace hG1 := hG1.up hbA
  replace b0 := b0.up hu
  replace hF0 := hF0.up hu
  replace b1 := b1.up hu
  replace hF1 := hF1.up hu
  replace hM1 := hM1.up hu
  replace b2 := b2.up hu
  replace hF2 := hF2.up hu
  replace hM2 := hM2.up hu

  have hd3 := bon hd2 hu
  obtain ⟨g3, hg⟩ : ∃ k, w3.heap.size = k := ⟨_, rfl⟩
  rw [hg] at b3 b0 hF0 b1 hF1 hM1 b2 hF2 hM2 hG1 hd3 ⊢
  clear hg hu hbA hc3 hd2
  generalize (w3.alloc (.cells #[.string ⟨#[]⟩, .string ⟨#[]⟩, .int .i64 0, .string ⟨#[]⟩, .int .i64 0, .slice none 0 0, .string ⟨#[]⟩] 49)).setRow g3 (mca M1 T1) = W3 at *
  have hbg : hpat W3 g = some (.cells (rcs R S) 32 (0, 0)) := b0
  go_wp2_with fail
  refine (CF.out W3 hF0).mono ?_
  rintro E w4 ⟨T2, rfl, hG2, hc4⟩
  simp only at hG2 ⊢
  clear hbg
  go_upto_region 5 with fail
  have hbA : Below w4.heap.size w4 ((w4.alloc (.cells #[.string ⟨#[]⟩, .string ⟨#[]⟩, .int .i64 0, .string ⟨#[]⟩, .int .i64 0, .slice none 0 0, .string ⟨#[]⟩] 49)).setRow w4.heap.size (mca M1 T2)) := below_row (ba1 w4 _) (Nat.le_refl _) _
  have b4 := box_row (mca M1 T2) (Box.new w4 49 #[.string ⟨#[]⟩, .string ⟨#[]⟩, .int .i64 0, .string ⟨#[]⟩, .int .i64 0, .slice none 0 0, .string ⟨#[]⟩])
  have hu := bon hc4 hbA
  replace hG2 := hG2.up hbA
  replace b0 := b0.up hu
  replace hF0 := hF0.up hu
  replace b1 := b1.up hu
  replace hF1 := hF1.up hu
  replace hM1 := hM1.up hu
  replace b2 := b2.up hu
  replace hF2 := hF2.up hu
  replace hM2 := hM2.up hu
  replace b3 := b3.up hu
  replace hG1 := hG1.up hu

  have hd4 := bon hd3 hu
  obtain ⟨g4, hg⟩ : ∃ k, w4.heap.size = k := ⟨_, rfl⟩
  rw [hg] at b4 b0 hF0 b1 hF1 hM1 b2 hF2 hM2 b3 hG1 hG2 hd4 ⊢
  clear hg hu hbA hc4 hd3
  generalize (w4.alloc (.cells #[.string ⟨#[]⟩, .string ⟨#[]⟩, .int .i64 0, .string ⟨#[]⟩, .int .i64 0, .slice none 0 0, .string ⟨#[]⟩] 49)).setRow g4 (mca M1 T2) = W4 at *
  have h1 : hpat W4 g1 = some (.cells (rcs R1 S1) 32 (0, 0)) := b1
  have h2 : hpat W4 g2 = some (.cells (rcs R1 S2) 32 (0, 0)) := b2
  have hmm : ms1.map (·.1) = ms2.map (·.1) := hm1.trans hm2.symm
  have HMM := Lib.hid hmm
  clear hm1 hm2 hmm
  have h5S := fun W (hb : Below W4.heap.size W4 W) => (⟨hb, b0.up hb, b1.up hb, b2.up hb, b3.up hb, b4.up hb⟩ : Below W4.heap.size W4 W ∧ hpat W g = some (.cells (rcs R S) 32 (0, 0)) ∧ hpat W g1 = some (.cells (rcs R1 S1) 32 (0, 0)) ∧ hpat W g2 = some (.cells (rcs R1 S2) 32 (0, 0)) ∧ hpat W g3 = some (.cells (mca M1 T1) 49 (0, 0)) ∧ hpat W g4 = some (.cells (mca M1 T2) 49 (0, 0)))
  have HM2 := Lib.hid (two_same M1 T1 T2)
  have HR := Lib.hid (fun W A B (h1 : Fs W A (mkF R1.now.fs)) (h2 : Fs W B (mkF R1.now.fs)) => rsameR_c R1 A B W h1 h2)
  go_region_held3 (fun W' => Below W4.heap.size W4 W' ∧ hpat W' g = some (.cells (rcs R S) 32 (0, 0)) ∧ hpat W' g1 = some (.cells (rcs R1 S1) 32 (0, 0)) ∧ hpat W' g2 = some (.cells (rcs R1 S2) 32 (0, 0)) ∧ hpat W' g3 = some (.cells (mca M1 T1) 49 (0, 0)) ∧ hpat W' g4 = some (.cells (mca M1 T2) 49 (0, 0)))
    (first | exact h5S _ hdD | exact h5S _ hdC | exact h5S _ (bon hdB (ba2 wB _ _)) | exact h5S _ (bon hdB (ba1 wB _)) | exact h5S _ hdB | exact h5S _ hdA | exact h5S _ ((Below.refl _ _).drew) | fail)
    (first
    | (go_simp; go_at_call 21; refine (HR.out _ S1 S2 (hF1.up (Below.refl _ _).drew) (hF2.up (Below.refl _ _).drew)).mono ?_; rintro E wA ⟨rfl, hbA⟩; have hdA : Below W4.heap.size W4 wA := bon (Below.refl _ _).drew hbA)
    | (go_simp; go_at_call 22; refine (HM2.out _ _ _ ?_ (hG1.up (bon hdB (ba2 _ _ _))) (hG2.up (bon hdB (ba2 _ _ _)))).mono ?_; (with_reducible first | exact two_a _ _ _ _ | exact two_b _ _ _ _); rintro E wC ⟨rfl, hbC⟩; have hdC : Below W4.heap.size W4 wC := bon hdB (bon (ba2 wB _ _) hbC))
    | (go_simp; go_at_call 22; refine (rsameM_c O1 O2 ms1 ms2 wA (hM1.up hdA) (hM2.up hdA) HMM.out).mono ?_; rintro E wB ⟨rfl, hbB⟩; have hdB := bon hdA hbB; skip)
    | (go_simp; go_at_call 27; (first | refine (CG.out wC (hF0.up hdC)).mono ?_ | refine (CG.out wD (hF0.up hdD)).mono ?_); rintro E wD ⟨rfl, hbD⟩; have hdD : Below W4.heap.size W4 wD := (by first | exact bon hdC hbD | exact bon hdD hbD); have hbgD : hpat wD g = some (.cells (rcs R S) 32 (0, 0)) := b0.up hdD)
    | (go_simp; go_at_call 29; (first | refine (CH.out wC (hF0.up hdC)).mono ?_ | refine (CH.out wD (hF0.up hdD)).mono ?_); rintro E wD ⟨rfl, hbD⟩; have hdD : Below W4.heap.size W4 wD := (by first | exact bon hdC hbD | exact bon hdD hbD); have hbgD : hpat wD g = some (.cells (rcs R S) 32 (0, 0)) := b0.up hdD)
    | fail)
  all_goals
    have hfin := bon hd4 hdD
    have HFin := Lib.hid hfin
    clear hfin h1 h2 h5S
    go_wp2
    go_ret
    exact ⟨by first | rfl | simp, HFin.out⟩
end Go.Proofs.YtdlihfbaepjliaaGreatDoor
