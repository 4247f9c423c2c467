/-
  The walk of the law MessageSpoilt.
-/
import Derived.Test.YtdlihfbaepjliaaGreatDoorLsD
import Derived.Test.YtdlihfbaepjliaaGreatDoorLsF
import Derived.Deep.CutBlock
namespace Go.Proofs.YtdlihfbaepjliaaGreatDoor
open Go.RowKit
attribute [local go_sem ↓] exec_ldR exec_ldH exec_ldK exec_ldM exec_stR exec_stH exec_stK exec_stM exec_bdM exec_bsM
attribute [local go_sem] run_bdM run_bsM run_ldR run_ldH run_ldK run_ldM run_stR run_stH run_stK run_stM ldO_at stO_at rcs_size hcs_size kcs_size mca_size rcs_one hcs_one kcs_one mca_one rcs_oneN hcs_oneN kcs_oneN mca_oneN rcs_now rcs_ck mca_head hpat_drew hpat_new
attribute [local go_sem ↓] exec_stP exec_bdP
attribute [local go_sem] run_stP run_bdP pcs_size pcs_one pcs_oneN pcs_rd pcs_now pcs_ck pspl_now pspl_ck pspl_rd
attribute [local go_sem] zM_one zM_size
/-- a reader with one thing spoilt -/
def CutS (w : World) (g : Nat) (W : World) : Prop := ∃ (R : Rr) (S : Sli), Box W g 32 (rcs R S) ∧ SmR R ∧ Fs W S (mkF R.now.fs) ∧ Below w.heap.size w W
set_option maxRecDepth 100000 in
set_option maxHeartbeats 8000000 in
theorem messageSpoilt_any (A : Option Addr) (L c : Nat) (ys : List UInt8) (a : Bool) (h : Nat) (n : Int) (t : Bs) (w : World) (hh : h < 256) (hl : ys.length = L) (hm : L ≤ maxLen) (hU : Us w w.heap.size A ys) (ht : t.length ≤ 140737488355328) (hT : Tabs w) : Calls Tryz.prog 5 #[.slice A L c, .bool a, .int .u8 (h : Int), .int .i64 n, .string (tb t)] w (BoolEnds true w) := by
  have HTb := Lib.hid hT
  have HMd := Lib.hid (fun W (hW : Below w.heap.size w W) => made9_any A L c ys a W hl hm (hU.up hW))
  have HRd := Lib.hid (reader9_any a A L c ys false w hl hm hU)
  have HSame := Lib.hid (fun (R : Rr) (S : Sli) (s : Bs) (hs : s.length ≤ 1000) W (hF : Fs W S (mkF R.now.fs)) (hk : SmR R) (hM : Mx W) => same9_c R S s W hF hk (by omega) hM)
  have zs : (tb t).size = t.length := tb_size t
  clear hT hl hm hU
  go_enter Tryz.func5, Tryz.ntmps5
  go_wp2_with fail
  refine HRd.out.mono ?_
  rintro E w1 ⟨R, S1, rfl, hok, hF1, hc⟩
  have HSm := Lib.hid (sm_of_ok hok)
  have HAw : Hid (Away w1.heap.size S1.A (mkF R.now.fs)) := Lib.hid (fun hne ad hA => by have := hF1.lt hne hA; omega)
  have HG : Hid (w.heap.size ≤ w1.heap.size) := Lib.hid hc.size
  clear hok HRd
  go_upto_region 2 with fail
  have hbA : Below w1.heap.size w1 ((w1.alloc (.cells #[.bool false, .string ⟨#[]⟩, .string ⟨#[]⟩, .int .i64 0, .int .i64 0, .string ⟨#[]⟩, .int .i64 0, .int .i64 0, .string ⟨#[]⟩, .int .i64 0, .string ⟨#[]⟩, .string ⟨#[]⟩, .int .i64 0, .string ⟨#[]⟩, .int .i64 0, .slice none 0 0, .int .i64 0] 32)).setRow w1.heap.size (rcs R S1)) := below_row (ba1 w1 _) (Nat.le_refl _) _
  have b1 := box_row (rcs R S1) (Box.new w1 32 #[.bool false, .string ⟨#[]⟩, .string ⟨#[]⟩, .int .i64 0, .int .i64 0, .string ⟨#[]⟩, .int .i64 0, .int .i64 0, .string ⟨#[]⟩, .int .i64 0, .string ⟨#[]⟩, .string ⟨#[]⟩, .int .i64 0, .string ⟨#[]⟩, .int .i64 0, .slice none 0 0, .int .i64 0])
  have hu := bon hc hbA

  replace hF1 := hF1.up hbA
  have hd1 := bon (Below.refl _ _) hu
  obtain ⟨g1, hg⟩ : ∃ k, w1.heap.size = k := ⟨_, rfl⟩
  rw [hg] at b1 hd1 hF1 HAw HG ⊢
  clear hg hu hbA hc
  generalize (w1.alloc (.cells #[.bool false, .string ⟨#[]⟩, .string ⟨#[]⟩, .int .i64 0, .int .i64 0, .string ⟨#[]⟩, .int .i64 0, .int .i64 0, .string ⟨#[]⟩, .int .i64 0, .string ⟨#[]⟩, .string ⟨#[]⟩, .int .i64 0, .string ⟨#[]⟩, .int .i64 0, .slice none 0 0, .int .i64 0] 32)).setRow g1 (rcs R S1) = W1 at *
  by_cases hbig : 300 < t.length
  case pos =>
    have i1 : (300 : Int) < ((tb t).size : Int) := by omega
    go_wp2_with fail
    refine (awake9_any _ (HTb.out.up hd1)).mono ?_
    rintro E w2 ⟨rfl, hb2⟩
    go_wp2
    go_ret
    exact ⟨by rfl, bon hd1 hb2⟩
  case neg =>
    have i1 : ¬ (300 : Int) < ((tb t).size : Int) := by omega
    have hh0 : h % 9 = 0 ∨ h % 9 = 1 ∨ h % 9 = 2 ∨ h % 9 = 3 ∨ h % 9 = 4 ∨ h % 9 = 5 ∨ h % 9 = 6 ∨ h % 9 = 7 ∨ h % 9 = 8 := by omega
    go_upto_block 0 with fail
    go_cut [] (CutS w g1)
    case first =>
      rcases hh0 with h0 | h0 | h0 | h0 | h0 | h0 | h0 | h0 | h0
      · have t0 : (h : Int).tmod 9 = 0 := by rw [Int.tmod_eq_emod_of_nonneg (by omega)]; omega
        have t1 : (h : Int) % 9 = 0 := by omega
        obtain ⟨R2, hR2⟩ : ∃ R2 : Rr, ({ R with k := n } : Rr) = R2 := ⟨_, rfl⟩
        have HSm2 : Hid (SmR R2) := Lib.hid (by rw [← hR2]; exact ⟨HSm.out.hd, HSm.out.b, HSm.out.ln, HSm.out.m, HSm.out.t, HSm.out.r, HSm.out.n, HSm.out.fs⟩)
        have HQ : Hid (W1.setCell ⟨g1, 3, none⟩ (.int .i64 n) = W1.setRow g1 (rcs R2 S1)) := Lib.hid (by rw [← hR2]; exact b1.row_eq 3 _ rfl)
        have HN : Hid (R2.now = R.now) := Lib.hid (by rw [← hR2])
        have f0 := b1.f 3
        obtain ⟨q0, q1, q2, q3, q4, q5, q6, q7, q8, q9, q10, q11, q12, q13, q14, q15, q16⟩ := b1.cr
        clear hR2
        go_upto_region 7 with fail
        clear t0 t1 h0
        go_wp2
        go_meet
        rw [HQ.out]
        exact ⟨R2, S1, box_row _ b1, HSm2.out, by rw [HN.out]; exact Fs.row hF1 HAw.out _, below_row hd1 HG.out _⟩
      · have t0 : (h : Int).tmod 9 = 1 := by rw [Int.tmod_eq_emod_of_nonneg (by omega)]; omega
        have t1 : (h : Int) % 9 = 1 := by omega
        obtain ⟨R2, hR2⟩ : ∃ R2 : Rr, ({ R with z := n } : Rr) = R2 := ⟨_, rfl⟩
        have HSm2 : Hid (SmR R2) := Lib.hid (by rw [← hR2]; exact ⟨HSm.out.hd, HSm.out.b, HSm.out.ln, HSm.out.m, HSm.out.t, HSm.out.r, HSm.out.n, HSm.out.fs⟩)
        have HQ : Hid (W1.setCell ⟨g1, 4, none⟩ (.int .i64 n) = W1.setRow g1 (rcs R2 S1)) := Lib.hid (by rw [← hR2]; exact b1.row_eq 4 _ rfl)
        have HN : Hid (R2.now = R.now) := Lib.hid (by rw [← hR2])
        have f0 := b1.f 4
        obtain ⟨q0, q1, q2, q3, q4, q5, q6, q7, q8, q9, q10, q11, q12, q13, q14, q15, q16⟩ := b1.cr
        clear hR2
        go_upto_region 9 with fail
        clear t0 t1 h0
        go_wp2
        go_meet
        rw [HQ.out]
        exact ⟨R2, S1, box_row _ b1, HSm2.out, by rw [HN.out]; exact Fs.row hF1 HAw.out _, below_row hd1 HG.out _⟩
      · have t0 : (h : Int).tmod 9 = 2 := by rw [Int.tmod_eq_emod_of_nonneg (by omega)]; omega
        have t1 : (h : Int) % 9 = 2 := by omega
        obtain ⟨R2, hR2⟩ : ∃ R2 : Rr, ({ R with hd := t } : Rr) = R2 := ⟨_, rfl⟩
        have HSm2 : Hid (SmR R2) := Lib.hid (by rw [← hR2]; exact ⟨(by show t.length ≤ 4096; omega), HSm.out.b, HSm.out.ln, HSm.out.m, HSm.out.t, HSm.out.r, HSm.out.n, HSm.out.fs⟩)
        have HQ : Hid (W1.setCell ⟨g1, 2, none⟩ (.string (tb t)) = W1.setRow g1 (rcs R2 S1)) := Lib.hid (by rw [← hR2]; exact b1.row_eq 2 _ rfl)
        have HN : Hid (R2.now = R.now) := Lib.hid (by rw [← hR2])
        have f0 := b1.f 2
        obtain ⟨q0, q1, q2, q3, q4, q5, q6, q7, q8, q9, q10, q11, q12, q13, q14, q15, q16⟩ := b1.cr
        clear hR2
        go_upto_region 11 with fail
        clear t0 t1 h0
        go_wp2
        go_meet
        rw [HQ.out]
        exact ⟨R2, S1, box_row _ b1, HSm2.out, by rw [HN.out]; exact Fs.row hF1 HAw.out _, below_row hd1 HG.out _⟩
      · have t0 : (h : Int).tmod 9 = 3 := by rw [Int.tmod_eq_emod_of_nonneg (by omega)]; omega
        have t1 : (h : Int) % 9 = 3 := by omega
        obtain ⟨R2, hR2⟩ : ∃ R2 : Rr, ({ R with b := t } : Rr) = R2 := ⟨_, rfl⟩
        have HSm2 : Hid (SmR R2) := Lib.hid (by rw [← hR2]; exact ⟨HSm.out.hd, (by show t.length ≤ 4611686018427387904; omega), HSm.out.ln, HSm.out.m, HSm.out.t, HSm.out.r, HSm.out.n, HSm.out.fs⟩)
        have HQ : Hid (W1.setCell ⟨g1, 5, none⟩ (.string (tb t)) = W1.setRow g1 (rcs R2 S1)) := Lib.hid (by rw [← hR2]; exact b1.row_eq 5 _ rfl)
        have HN : Hid (R2.now = R.now) := Lib.hid (by rw [← hR2])
        have f0 := b1.f 5
        obtain ⟨q0, q1, q2, q3, q4, q5, q6, q7, q8, q9, q10, q11, q12, q13, q14, q15, q16⟩ := b1.cr
        clear hR2
        go_upto_region 13 with fail
        clear t0 t1 h0
        go_wp2
        go_meet
        rw [HQ.out]
        exact ⟨R2, S1, box_row _ b1, HSm2.out, by rw [HN.out]; exact Fs.row hF1 HAw.out _, below_row hd1 HG.out _⟩
      · have t0 : (h : Int).tmod 9 = 4 := by rw [Int.tmod_eq_emod_of_nonneg (by omega)]; omega
        have t1 : (h : Int) % 9 = 4 := by omega
        obtain ⟨R2, hR2⟩ : ∃ R2 : Rr, ({ R with ck := { R.ck with s := n } } : Rr) = R2 := ⟨_, rfl⟩
        have HSm2 : Hid (SmR R2) := Lib.hid (by rw [← hR2]; exact ⟨HSm.out.hd, HSm.out.b, HSm.out.ln, HSm.out.m, HSm.out.t, HSm.out.r, HSm.out.n, HSm.out.fs⟩)
        have HQ : Hid (W1.setCell ⟨g1, 6, none⟩ (.int .i64 n) = W1.setRow g1 (rcs R2 S1)) := Lib.hid (by rw [← hR2]; exact b1.row_eq 6 _ rfl)
        have HN : Hid (R2.now = R.now) := Lib.hid (by rw [← hR2])
        have f0 := b1.f 6
        obtain ⟨q0, q1, q2, q3, q4, q5, q6, q7, q8, q9, q10, q11, q12, q13, q14, q15, q16⟩ := b1.cr
        clear hR2
        go_upto_region 15 with fail
        clear t0 t1 h0
        go_wp2
        go_meet
        rw [HQ.out]
        exact ⟨R2, S1, box_row _ b1, HSm2.out, by rw [HN.out]; exact Fs.row hF1 HAw.out _, below_row hd1 HG.out _⟩
      · have t0 : (h : Int).tmod 9 = 5 := by rw [Int.tmod_eq_emod_of_nonneg (by omega)]; omega
        have t1 : (h : Int) % 9 = 5 := by omega
        obtain ⟨R2, hR2⟩ : ∃ R2 : Rr, ({ R with e := n } : Rr) = R2 := ⟨_, rfl⟩
        have HSm2 : Hid (SmR R2) := Lib.hid (by rw [← hR2]; exact ⟨HSm.out.hd, HSm.out.b, HSm.out.ln, HSm.out.m, HSm.out.t, HSm.out.r, HSm.out.n, HSm.out.fs⟩)
        have HQ : Hid (W1.setCell ⟨g1, 16, none⟩ (.int .i64 n) = W1.setRow g1 (rcs R2 S1)) := Lib.hid (by rw [← hR2]; exact b1.row_eq 16 _ rfl)
        have HN : Hid (R2.now = R.now) := Lib.hid (by rw [← hR2])
        have f0 := b1.f 16
        obtain ⟨q0, q1, q2, q3, q4, q5, q6, q7, q8, q9, q10, q11, q12, q13, q14, q15, q16⟩ := b1.cr
        clear hR2
        go_upto_region 17 with fail
        clear t0 t1 h0
        go_wp2
        go_meet
        rw [HQ.out]
        exact ⟨R2, S1, box_row _ b1, HSm2.out, by rw [HN.out]; exact Fs.row hF1 HAw.out _, below_row hd1 HG.out _⟩
      · have t0 : (h : Int).tmod 9 = 6 := by rw [Int.tmod_eq_emod_of_nonneg (by omega)]; omega
        have t1 : (h : Int) % 9 = 6 := by omega
        obtain ⟨R2, hR2⟩ : ∃ R2 : Rr, ({ R with a := !R.a } : Rr) = R2 := ⟨_, rfl⟩
        have HSm2 : Hid (SmR R2) := Lib.hid (by rw [← hR2]; exact ⟨HSm.out.hd, HSm.out.b, HSm.out.ln, HSm.out.m, HSm.out.t, HSm.out.r, HSm.out.n, HSm.out.fs⟩)
        have HQ : Hid (W1.setCell ⟨g1, 0, none⟩ (.bool (!R.a)) = W1.setRow g1 (rcs R2 S1)) := Lib.hid (by rw [← hR2]; exact b1.row_eq 0 _ rfl)
        have HN : Hid (R2.now = R.now) := Lib.hid (by rw [← hR2])
        have f0 := b1.f 0
        obtain ⟨q0, q1, q2, q3, q4, q5, q6, q7, q8, q9, q10, q11, q12, q13, q14, q15, q16⟩ := b1.cr
        clear hR2
        go_upto_region 19 with fail
        clear t0 t1 h0
        go_wp2
        go_meet
        rw [HQ.out]
        exact ⟨R2, S1, box_row _ b1, HSm2.out, by rw [HN.out]; exact Fs.row hF1 HAw.out _, below_row hd1 HG.out _⟩
      · have t0 : (h : Int).tmod 9 = 7 := by rw [Int.tmod_eq_emod_of_nonneg (by omega)]; omega
        have t1 : (h : Int) % 9 = 7 := by omega
        go_upto_region 21 with fail
        clear t0 t1 h0
        go_wp2_with fail
        refine (HMd.out _ hd1).mono ?_
        rintro E w3 ⟨H, S3, rfl, hr, -, hF3, hfr3, hb3⟩
        obtain ⟨R2, hR2⟩ : ∃ R2 : Rr, ({ R with now := H } : Rr) = R2 := ⟨_, rfl⟩
        have hsH := right_sm9 hr
        have HSm2 : Hid (SmR R2) := Lib.hid (by rw [← hR2]; exact sm_mk HSm.out.hd HSm.out.b HSm.out.ln hsH)
        have hsp : spl (rcs R S1) 10 (hcs H S3).toList = rcs R2 S3 := by rw [← hR2]; rfl
        have HN : Hid (R2.now = H) := Lib.hid (by rw [← hR2])
        have b3 := b1.up hb3
        have hpg : hpat w3 g1 = some (.cells (rcs R S1) 32 (0, 0)) := b3
        obtain ⟨q0, q1, q2, q3, q4, q5, q6, q7, q8, q9, q10, q11, q12, q13, q14, q15, q16⟩ := b3.cr
        have HE : Hid (Box (w3.setRow g1 (rcs R2 S3)) g1 32 (rcs R2 S3) ∧ Fs (w3.setRow g1 (rcs R2 S3)) S3 (mkF R2.now.fs) ∧ Below w.heap.size w (w3.setRow g1 (rcs R2 S3))) := Lib.hid ⟨box_row _ b3, by rw [HN.out]; exact Fs.row hF3 (fun _ ad hA => by have := hfr3 ad hA; have := b1.lt; omega) _, below_row (bon hd1 hb3) HG.out _⟩
        clear hR2 hr hsH b3 hF3 hfr3 hb3 b1 hF1 hd1
        go_wp2
        go_meet
        exact ⟨R2, S3, HE.out.1, HSm2.out, HE.out.2.1, HE.out.2.2⟩
      · have t0 : (h : Int).tmod 9 = 8 := by rw [Int.tmod_eq_emod_of_nonneg (by omega)]; omega
        have t1 : (h : Int) % 9 = 8 := by omega
        obtain ⟨R2, hR2⟩ : ∃ R2 : Rr, ({ R with ck := { R.ck with m := n } } : Rr) = R2 := ⟨_, rfl⟩
        have HSm2 : Hid (SmR R2) := Lib.hid (by rw [← hR2]; exact ⟨HSm.out.hd, HSm.out.b, HSm.out.ln, HSm.out.m, HSm.out.t, HSm.out.r, HSm.out.n, HSm.out.fs⟩)
        have HQ : Hid (W1.setCell ⟨g1, 9, none⟩ (.int .i64 n) = W1.setRow g1 (rcs R2 S1)) := Lib.hid (by rw [← hR2]; exact b1.row_eq 9 _ rfl)
        have HN : Hid (R2.now = R.now) := Lib.hid (by rw [← hR2])
        have f0 := b1.f 9
        obtain ⟨q0, q1, q2, q3, q4, q5, q6, q7, q8, q9, q10, q11, q12, q13, q14, q15, q16⟩ := b1.cr
        clear hR2
        go_upto_region 5 with fail
        clear t0 t1 h0
        go_wp2
        go_meet
        rw [HQ.out]
        exact ⟨R2, S1, box_row _ b1, HSm2.out, by rw [HN.out]; exact Fs.row hF1 HAw.out _, below_row hd1 HG.out _⟩
    case rest =>
      obtain ⟨R2, S2, b2, hsm, hF2, hd2⟩ := hcut
      have HSm2 := Lib.hid hsm
      clear b1 hF1 hd1 HAw HSm hsm
      go_wp2_with fail
      refine (awake9_any _ (HTb.out.up hd2)).mono ?_
      rintro E w2 ⟨rfl, hc⟩
      replace b2 := b2.up hc
      replace hF2 := hF2.up hc
      replace hd2 := bon hd2 hc
      clear hc
      have hpg : hpat w2 g1 = some (.cells (rcs R2 S2) 32 (0, 0)) := b2
      go_wp2_with fail
      refine (HSame.out R2 S2 [120] (by decide) _ hF2 HSm2.out (HTb.out.up hd2).mx).mono ?_
      rintro E w3 ⟨rfl, hc⟩
      replace b2 := b2.up hc
      replace hF2 := hF2.up hc
      replace hd2 := bon hd2 hc
      clear hc hpg
      have hpg : hpat w3 g1 = some (.cells (rcs R2 S2) 32 (0, 0)) := b2
      go_wp2_with fail
      refine (HSame.out R2 S2 t (by omega) _ hF2 HSm2.out (HTb.out.up hd2).mx).mono ?_
      rintro E w4 ⟨rfl, hc⟩
      go_wp2
      go_ret
      exact ⟨by first | rfl | simp, bon hd2 hc⟩
end Go.Proofs.YtdlihfbaepjliaaGreatDoor
