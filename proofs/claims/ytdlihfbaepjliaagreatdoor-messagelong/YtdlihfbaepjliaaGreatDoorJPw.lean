/-
  The walk of message's own Print.
-/
import Derived.Test.YtdlihfbaepjliaaGreatDoorJPu
import Derived.Test.YtdlihfbaepjliaaGreatDoorJRefI
import Derived.Test.YtdlihfbaepjliaaGreatDoorJHdK
namespace Go.Proofs.YtdlihfbaepjliaaGreatDoor
open Go.RowKit
attribute [local go_sem ↓] exec_ldR exec_ldH exec_ldK exec_ldM exec_stR exec_stH exec_stK exec_stM exec_bdM exec_bsM
attribute [local go_sem] run_bdM run_bsM run_ldR run_ldH run_ldK run_ldM run_stR run_stH run_stK run_stM ldO_at stO_at rcs_size hcs_size kcs_size mca_size rcs_one hcs_one kcs_one mca_one rcs_oneN hcs_oneN kcs_oneN mca_oneN rcs_now rcs_ck mca_head hpat_drew hpat_new
attribute [local go_sem ↓] exec_stP exec_bdP
attribute [local go_sem] run_stP run_bdP pcs_size pcs_one pcs_oneN pcs_rd pcs_now pcs_ck pspl_now pspl_ck pspl_rd

theorem drop_mkF (fs : List (Bs × Bs)) (ns : List ByteArray) (hn : ns.map (fun y => lowerL (dl y)) = [clB, teB]) : dropL (mkF fs) ns = mkF (dropB fs) := by
  have h : ∀ x : ByteArray, hitL x ns = (decide (lowerL (dl x) = clB) || decide (lowerL (dl x) = teB)) := by
    intro x
    have e : hitL x ns = (ns.map (fun y => lowerL (dl y))).any fun l => decide (lowerL (dl x) = l) := by
      unfold hitL
      rw [List.any_map]
      rfl
    rw [e, hn]
    simp
  unfold dropL dropB mkF
  rw [List.filter_map]
  refine congrArg _ ?_
  refine List.filter_congr fun f _ => ?_
  simp only [Function.comp_apply, h]
theorem mkF_app (a b : List (Bs × Bs)) : mkF (a ++ b) = mkF a ++ mkF b := List.map_append
theorem dropB_len (fs : List (Bs × Bs)) : (dropB fs).length ≤ fs.length := List.length_filter_le _ _
/-- texts of a head that are not too long -/
structure SmH (H : Hd) : Prop where
  m : H.m.length ≤ 4096
  t : H.t.length ≤ 4096
  r : H.r.length ≤ 4096
  n : H.fs.length ≤ 4000
  fs : ∀ f ∈ H.fs, f.1.length ≤ 4096 ∧ f.2.length ≤ 4096
theorem text_le (n : Nat) (h : n ≤ 4000) : (textN (n : Int) 10).length ≤ 4001 := by
  unfold textN
  split
  · have := Nm.dgs_len 10 (n : Int).toNat
    show (dgs 10 (n : Int).toNat).length ≤ 4001
    omega
  · simp
theorem pprintH_c (H : Hd) (S : Sli) (a : Bool) (w : World) (hF : Fs w S (mkF H.fs)) (hm : H.m.length ≤ 4096) (ht : H.t.length ≤ 4096) (hr : H.r.length ≤ 4096) (hn : H.fs.length ≤ 4096) (hf : ∀ f ∈ H.fs, f.1.length ≤ 4096 ∧ f.2.length ≤ 4096) (hT : Tabs w) : Calls Tryz.prog 35 #[.agg (hcs H S), .bool a] w (PrintEnds (printH H a) w) := by
  have hl := hF.len
  rw [show (mkF H.fs).length = H.fs.length from List.length_map _] at hl
  have := print_any (tb H.m) (tb H.t) H.st (tb H.r) H.mi S.A S.n S.c (mkF H.fs) a w (by rw [tb_size]; exact hm) (by rw [tb_size]; exact ht) (by rw [tb_size]; exact hr) hF (by omega) (few_of (by rw [dls_mkF]; exact hf)) hT
  rw [hdOf_tb] at this
  exact this
theorem rprintH_c (H : Hd) (S : Sli) (a : Bool) (w : World) (hF : Fs w S (mkF H.fs)) (hm : H.m.length ≤ 4096) (ht : H.t.length ≤ 4096) (hr : H.r.length ≤ 4096) (hn : H.fs.length ≤ 4096) (hf : ∀ f ∈ H.fs, f.1.length ≤ 4096 ∧ f.2.length ≤ 4096) : Calls Tryz.prog 37 #[.agg (hcs H S), .bool a] w (PrintEnds (printH H a) w) := by
  have hl := hF.len
  rw [show (mkF H.fs).length = H.fs.length from List.length_map _] at hl
  have := rprint_any (tb H.m) (tb H.t) H.st (tb H.r) H.mi S.A S.n S.c (mkF H.fs) a w (by rw [tb_size]; exact hm) (by rw [tb_size]; exact ht) (by rw [tb_size]; exact hr) hF (by omega) (few_of (by rw [dls_mkF]; exact hf))
  rw [hdOf_tb] at this
  exact this
theorem headP_small {M : Mg} (h : SmH M.h) (hb : M.b.length ≤ 4000) : ∀ f ∈ (headP M).fs, f.1.length ≤ 4096 ∧ f.2.length ≤ 4096 := by
  intro f hf
  rw [show (headP M).fs = dropB M.h.fs ++ [(CLB, textN (M.b.length : Int) 10)] from rfl] at hf
  rcases List.mem_append.1 hf with hf | hf
  · exact h.fs f (drop_mem hf).1
  · obtain rfl := List.mem_singleton.1 hf
    exact ⟨by show CLB.length ≤ 4096; decide, by have := text_le M.b.length hb; show (textN (M.b.length : Int) 10).length ≤ 4096; omega⟩
/-- the head's box behind the fields' change -/
def CutPr (M : Mg) (S : Sli) (g gh : Nat) (w w' : World) : Prop := ∃ S4 : Sli, Box w' gh 29 (hcs (headP M) S4) ∧ Box w' g 49 (mca M S) ∧ Fs w' S4 (mkF (headP M).fs) ∧ Below w.heap.size w w'
/-- the program's names of the fields about a length -/
def nsP : List ByteArray := [⟨#[67, 111, 110, 116, 101, 110, 116, 45, 76, 101, 110, 103, 116, 104]⟩, ⟨#[84, 114, 97, 110, 115, 102, 101, 114, 45, 69, 110, 99, 111, 100, 105, 110, 103]⟩]
theorem nsP_low : nsP.map (fun y => lowerL (dl y)) = [clB, teB] := by decide +kernel
set_option maxRecDepth 100000 in
set_option maxHeartbeats 4000000 in
theorem pprint9_c (M : Mg) (S : Sli) (a : Bool) (w : World) (hF : Fs w S (mkF M.h.fs)) (hS : SmH M.h) (hT : Tabs w) : Calls Tryz.prog 17 #[.agg (mca M S), .bool a] w (PrintEnds (printR M a) w) := by
  obtain ⟨Z, hZ⟩ : ∃ Z, printR M a = Z := ⟨_, rfl⟩
  rw [hZ]
  have HZ : Hid (Z = if 4000 < M.b.length then ([], 2) else if (printH (headP M) a).2 ≠ 0 then ([], (printH (headP M) a).2) else ((printH (headP M) a).1 ++ M.b, 0)) := Lib.hid (by rw [← hZ]; rfl)
  clear hZ
  have hb0 := ba1 w (.cells (mca M S) 49)
  have bm := Box.new w 49 (mca M S)
  have hF0 := hF.up hb0
  have HT := Lib.hid hT
  have hbs : (tb M.b).size = M.b.length := tb_size _
  have HBs := Lib.hid hbs
  clear hF hT hbs
  go_enter Tryz.func17, Tryz.ntmps17
  go_upto_region 1 with fail
  obtain ⟨g, hg⟩ : ∃ g, w.heap.size = g := ⟨_, rfl⟩
  rw [hg] at bm ⊢
  have HGW := Lib.hid hg
  clear hg
  generalize w.alloc (.cells (mca M S) 49) = W0 at *
  have c6 : W0.cell? ⟨g, 6, none⟩ = some (.string (tb M.b)) := bm.c 6 rfl
  by_cases hbig : 4000 < M.b.length
  case pos =>
    have hbi : (4000 : Int) < ((tb M.b).size : Int) := by rw [HBs.out]; omega
    have HV : Hid (Z = ([], 2)) := Lib.hid (by rw [HZ.out, if_pos hbig])
    clear hbig HZ hF0 bm
    go_wp2
    go_ret2
    rw [HV.out]
    exact ⟨⟨#[]⟩, rfl, rfl, hb0⟩
  case neg =>
    have hbi : ¬ (4000 : Int) < ((tb M.b).size : Int) := by rw [HBs.out]; omega
    rw [if_neg hbig] at HZ
    have HBig := Lib.hid hbig
    have hbg : hpat W0 g = some (.cells (mca M S) 49 (0, 0)) := bm
    go_upto_region 4 with fail
    have hbA : Below W0.heap.size W0 ((W0.alloc (.cells #[.string ⟨#[]⟩, .string ⟨#[]⟩, .int .i64 0, .string ⟨#[]⟩, .int .i64 0, .slice none 0 0] 29)).setRow W0.heap.size (hcs M.h S)) := below_row (ba1 W0 _) (Nat.le_refl _) _
    have bh := box_row (hcs M.h S) (Box.new W0 29 #[.string ⟨#[]⟩, .string ⟨#[]⟩, .int .i64 0, .string ⟨#[]⟩, .int .i64 0, .slice none 0 0])
    have bm1 := bm.up hbA
    have hF1 := hF0.up hbA
    have hd1 := bon hb0 hbA
    have HGH : Hid (g < W0.heap.size) := Lib.hid bm.lt
    clear hbg hbA bm hF0 hb0 c6 hbig
    obtain ⟨gh, hgh⟩ : ∃ k, W0.heap.size = k := ⟨_, rfl⟩
    rw [hgh] at bh bm1 hF1 hd1 HGH ⊢
    clear hgh
    generalize (W0.alloc (.cells #[.string ⟨#[]⟩, .string ⟨#[]⟩, .int .i64 0, .string ⟨#[]⟩, .int .i64 0, .slice none 0 0] 29)).setRow gh (hcs M.h S) = W1 at *
    have c5 : W1.cell? ⟨gh, 5, none⟩ = some (.slice S.A S.n S.c) := bh.c 5 rfl
    have hbN := ba1 W1 (.cells #[.string ⟨#[67, 111, 110, 116, 101, 110, 116, 45, 76, 101, 110, 103, 116, 104]⟩, .string ⟨#[84, 114, 97, 110, 115, 102, 101, 114, 45, 69, 110, 99, 111, 100, 105, 110, 103]⟩] 9)
    have HDr := Lib.hid (drop_any S ⟨some ⟨W1.heap.size, 0, none⟩, 2, 2⟩ (mkF M.h.fs) nsP (W1.alloc (.cells #[.string ⟨#[67, 111, 110, 116, 101, 110, 116, 45, 76, 101, 110, 103, 116, 104]⟩, .string ⟨#[84, 114, 97, 110, 115, 102, 101, 114, 45, 69, 110, 99, 111, 100, 105, 110, 103]⟩] 9)) (hF1.up hbN) (Ss.new W1 nsP 2 rfl (by decide)) (by
      have h1 := hF1.len
      rw [show (mkF M.h.fs).length = M.h.fs.length from List.length_map _] at h1
      have := hS.n
      omega) (by show 2 ≤ 4096; decide) (fun f hf => by
      obtain ⟨x, hx, rfl⟩ := List.mem_map.1 hf
      have := (hS.fs x hx).1
      rw [← tb_size] at this
      exact this) (by decide))
    rw [drop_mkF M.h.fs nsP nsP_low] at HDr
    simp only [Sli.v] at HDr
    go_wp2_with fail
    refine HDr.out.mono ?_
    rintro E W2 ⟨Sd, rfl, hRd, hb2⟩
    have hd2 := bon hbN hb2
    have bh2 := bh.up hd2
    have bm2 := bm1.up hd2
    have hdw := bon hd1 hd2
    have c52 : W2.cell? ⟨gh, 5, none⟩ = some (.slice S.A S.n S.c) := bh2.c 5 rfl
    have d52 := bh2.f 5
    have HBN : Hid (gh + 2 ≤ (W1.alloc (.cells #[.string ⟨#[67, 111, 110, 116, 101, 110, 116, 45, 76, 101, 110, 103, 116, 104]⟩, .string ⟨#[84, 114, 97, 110, 115, 102, 101, 114, 45, 69, 110, 99, 111, 100, 105, 110, 103]⟩] 9)).heap.size) := Lib.hid (by have := bh.lt; simp; omega)
    obtain ⟨B, hB⟩ : ∃ B, (W1.alloc (.cells #[.string ⟨#[67, 111, 110, 116, 101, 110, 116, 45, 76, 101, 110, 103, 116, 104]⟩, .string ⟨#[84, 114, 97, 110, 115, 102, 101, 114, 45, 69, 110, 99, 111, 100, 105, 110, 103]⟩] 9)).heap.size = B := ⟨_, rfl⟩
    rw [hB] at hRd HBN
    have HB2 : Hid (B ≤ W2.heap.size) := Lib.hid (by rw [← hB]; exact hb2.size)
    clear HDr c5 hbN hb2 bh bm1 hd1 hF1 hd2 hB
    go_upto_region 5 with fail
    have e1 : W2.setCell ⟨gh, 5, none⟩ (.slice Sd.A Sd.n Sd.c) = W2.setRow gh (hcs M.h Sd) := bh2.row_eq 5 _ rfl
    rw [e1]
    have bh3 := box_row (hcs M.h Sd) bh2
    have bm3 := bm2.row_far (g := gh) (by have := HGH.out; omega) (hcs M.h Sd)
    have hR3 : Row (W2.setRow gh (hcs M.h Sd)) B 40 2 Sd (fvs (mkF (dropB M.h.fs))) := hRd.keep fun k _ hk => row_heap W2 gh _ k (box_ne bh2 hk (by decide))
    have hd3 := below_row hdw (g := gh) (by have := HGW.out; have := HGH.out; omega) (hcs M.h Sd)
    have HB3 : Hid (B ≤ (W2.setRow gh (hcs M.h Sd)).heap.size) := Lib.hid (by rw [row_size]; exact HB2.out)
    clear e1 c52 d52 bh2 bm2 hdw hRd
    generalize W2.setRow gh (hcs M.h Sd) = W3 at *
    obtain ⟨i40, hi, hz0, hz1, hz2⟩ := info_parts info32
    have HTx := Lib.hid (Nm.text_any ((tb M.b).size : Int) W3.drew (HT.out.up (bon hd3 ((Below.refl W3.heap.size W3).drew))))
    have hSd : Sd.n ≤ 4000 := by
      have h1 := hR3.1
      rw [fvs_len] at h1
      have h2 : (mkF (dropB M.h.fs)).length = (dropB M.h.fs).length := List.length_map _
      have h3 := dropB_len M.h.fs
      have := hS.n
      omega
    have c5 : W3.cell? ⟨gh, 5, none⟩ = some (.slice Sd.A Sd.n Sd.c) := bh3.c 5 rfl
    have c6 : W3.cell? ⟨g, 6, none⟩ = some (.string (tb M.b)) := bm3.c 6 rfl
    go_cut [] (CutPr M S g gh w)
    case first =>
      go_region_law (first
        | (go_simp; go_at_call 34; refine HTx.out.mono ?_; rintro E wP ⟨y, rfl, hy, hbP⟩; have hdP : Below W3.heap.size W3 wP := bon ((Below.refl W3.heap.size W3).drew) hbP; have bhP := bh3.up hdP; have bmP := bm3.up hdP; have c5P : wP.cell? ⟨gh, 5, none⟩ = some (.slice Sd.A Sd.n Sd.c) := bhP.c 5 rfl; have hbX := ba1 wP (.cells #[.string ⟨#[67, 111, 110, 116, 101, 110, 116, 45, 76, 101, 110, 103, 116, 104]⟩, .string y] 40); have c5A : (wP.alloc (.cells #[.string ⟨#[67, 111, 110, 116, 101, 110, 116, 45, 76, 101, 110, 103, 116, 104]⟩, .string y] 40)).cell? ⟨gh, 5, none⟩ = some (.slice Sd.A Sd.n Sd.c) := (bhP.up hbX).c 5 rfl; have hRA := hR3.up (bon hdP hbX); have HSrc := Lib.hid (src_one wP 40 (fvs [(⟨#[67, 111, 110, 116, 101, 110, 116, 45, 76, 101, 110, 103, 116, 104]⟩, y)]) 1 2 rfl); have hBA : B ≤ (wP.alloc (.cells #[.string ⟨#[67, 111, 110, 116, 101, 110, 116, 45, 76, 101, 110, 103, 116, 104]⟩, .string y] 40)).heap.size := Nat.le_trans HB3.out (Nat.le_trans hdP.size hbX.size))
        | (refine step_app _ (by rfl) _ _ 27 (by rfl) B 40 i40 _ 2 32 (by decide) Tryz.underlying27 hi hz0 hz1 hz2 rfl (.slice Sd.A Sd.n Sd.c) Sd.n (fvs (mkF (dropB M.h.fs))) (by rfl) hRA (some ⟨wP.heap.size, 0, none⟩) 1 1 (fvs [(⟨#[67, 111, 110, 116, 101, 110, 116, 45, 76, 101, 110, 103, 116, 104]⟩, y)]) (by rfl) HSrc.out (fvs_one _) ?_ ?_ hBA (Sd.n + 1) rfl ?_; (unfold maxLen; omega); omega; intro A' c' w4 q1 q2 q3; have bh4 : Box w4 gh 29 (hcs M.h Sd) := (grown_other hRA q2 (bhP.up hbX) (by decide)).trans (bhP.up hbX); have c54 : w4.cell? ⟨gh, 5, none⟩ = some (.slice Sd.A Sd.n Sd.c) := bh4.c 5 rfl; have d54 := bh4.f 5)
        | fail)
      all_goals
        have e9 : w4.setCell ⟨gh, 5, none⟩ (.slice A' ((Sd.n + 1 : Nat)) c') = w4.setRow gh (hcs M.h ⟨A', Sd.n + 1, c'⟩) := bh4.row_eq 5 _ rfl
        have bm4 : Box w4 g 49 (mca M S) := (grown_other hRA q2 (bmP.up hbX) (by decide)).trans (bmP.up hbX)
        have hR4 : Row w4 B 40 2 ⟨A', Sd.n + 1, c'⟩ (fvs (mkF (headP M).fs)) := by
          have e : fvs (mkF (headP M).fs) = fvs (mkF (dropB M.h.fs)) ++ fvs [(⟨#[67, 111, 110, 116, 101, 110, 116, 45, 76, 101, 110, 103, 116, 104]⟩, y)] := by
            have e2 : mkF (headP M).fs = mkF (dropB M.h.fs) ++ [(⟨#[67, 111, 110, 116, 101, 110, 116, 45, 76, 101, 110, 103, 116, 104]⟩, y)] := by
              rw [show (headP M).fs = dropB M.h.fs ++ [(CLB, textN (M.b.length : Int) 10)] from rfl, mkF_app, ← HBs.out, ← hy]
              exact congrArg _ (congrArg (fun x => [x]) (Prod.ext rfl (tb_dl y)))
            rw [e2, fvs_app]
          rw [e]
          exact q1
        have hC : CutPr M S g gh w (w4.setRow gh (hcs M.h ⟨A', Sd.n + 1, c'⟩)) := ⟨⟨A', Sd.n + 1, c'⟩, box_row (hcs (headP M) ⟨A', Sd.n + 1, c'⟩) bh4, bm4.row_far (by have := HGH.out; omega) _, (hR4.keep fun k _ hk => row_heap w4 gh _ k (box_ne bh4 hk (by decide))).fs, below_row (grown_base hRA q2 (bon hd3 (bon hdP hbX)) (by have := HBN.out; have := HGH.out; have := HGW.out; omega) (by have := hd3.size; have := hdP.size; have := hbX.size; omega)) (by have := HGH.out; have := HGW.out; omega) _⟩
        have HC9 := Lib.hid hC
        have HE9 := Lib.hid e9
        clear hC e9 bm4 hR4 bh4 c54 d54 q1 q2 q3 hBA HSrc hRA c5A c5P hbX bmP bhP hdP hbP hy
        go_wp2_with fail
        go_meet
        rw [HE9.out]
        exact HC9.out
    case rest =>
      obtain ⟨S4, bh4, bm4, hF4, hd4⟩ := hcut
      clear c5 c6 hSd HTx hi hz0 hz1 hz2 i40 bh3 bm3 hR3 hd3
      have hbq : hpat wc gh = some (.cells (hcs (headP M) S4) 29 (0, 0)) := bh4
      have hln : (headP M).fs.length ≤ 4096 := by
        have h3 := dropB_len M.h.fs
        have := hS.n
        show (dropB M.h.fs ++ [(CLB, textN (M.b.length : Int) 10)]).length ≤ 4096
        simp
        omega
      have HPr := Lib.hid (pprintH_c (headP M) S4 a wc hF4 hS.m hS.t hS.r hln (headP_small hS (by have := HBig.out; omega)) (HT.out.up hd4))
      obtain ⟨P, hP⟩ : ∃ P, printH (headP M) a = P := ⟨_, rfl⟩
      rw [hP] at HPr HZ
      have HPs : Hid (P.2 = 0 → P.1.length ≤ 2004) := Lib.hid (by
        rw [← hP]
        unfold printH
        split
        · split
          · intro _; assumption
          · intro h; cases h
        · intro h; cases h)
      clear hP hln hF4
      go_wp2_with fail
      refine HPr.out.mono ?_
      rintro E w5 ⟨y, rfl, hy, hb5⟩
      have hd5 := bon hd4 hb5
      have c65 : w5.cell? ⟨g, 6, none⟩ = some (.string (tb M.b)) := (bm4.up hb5).c 6 rfl
      clear hbq HPr hb5 bh4 bm4 hd4
      obtain ⟨P1, P2⟩ := P
      simp only at HZ HPs hy ⊢
      by_cases hp : P2 = 0
      case neg =>
        have t0 : (P2 != 0) = true := bne_iff_ne.2 hp
        have HV : Hid (Z = ([], P2)) := Lib.hid (by rw [HZ.out, if_pos hp])
        clear hp HZ
        go_wp2
        go_ret2
        rw [HV.out]
        exact ⟨⟨#[]⟩, rfl, rfl, hd5⟩
      case pos =>
        subst hp
        have HV : Hid (Z = (P1 ++ M.b, 0)) := Lib.hid (by rw [HZ.out, if_neg (by simp)])
        have hys : y.size ≤ 2004 := by rw [← dl_len, hy]; exact HPs.out rfl
        have kadd := fun W => run_string_add_sum (P := Tryz.prog) W y (tb M.b) (by rw [HBs.out]; have := HBig.out; omega)
        have HY := Lib.hid hy
        clear HZ hy hys
        go_wp2
        go_ret2
        rw [HV.out]
        exact ⟨y ++ tb M.b, rfl, by rw [dl_app, dl_tb, HY.out], hd5⟩
end Go.Proofs.YtdlihfbaepjliaaGreatDoor

/-
  Messages as lists alone: what the laws ask: sizes, and the texts of the laws' own awake.
-/
namespace Go.Proofs.YtdlihfbaepjliaaGreatDoor
open Go.RowKit

theorem name_small {l : Bs} (h : nameB l = true) : l.length ≤ 40 := by
  unfold nameB at h
  simp only [Bool.and_eq_true, decide_eq_true_eq] at h
  exact h.1.2
theorem value_small {l : Bs} (h : valueB l = true) : l.length ≤ 200 := by
  unfold valueB at h
  simp only [Bool.and_eq_true, decide_eq_true_eq] at h
  exact h.1.1
/-- a head that is right is small -/
theorem right_sm9 {h : Hd} {a : Bool} (hr : rightB h a = true) : SmH h := by
  obtain ⟨_, hn, hf, hk⟩ := kind_parts hr
  have hF : ∀ f ∈ h.fs, f.1.length ≤ 4096 ∧ f.2.length ≤ 4096 := by
    intro f hm
    have h1 := hf f hm
    unfold fieldB at h1
    rw [Bool.and_eq_true] at h1
    have h2 := name_small h1.1
    have h3 := value_small h1.2
    omega
  unfold kindB at hk
  cases a with
  | true =>
    rw [if_pos rfl] at hk
    simp only [Bool.and_eq_true, List.isEmpty_iff] at hk
    obtain ⟨⟨⟨_, hr2⟩, hm⟩, ht⟩ := hk
    unfold reasonB at hr2
    simp only [Bool.and_eq_true, decide_eq_true_eq] at hr2
    exact ⟨by rw [hm]; decide, by rw [ht]; decide, by omega, by omega, hF⟩
  | false =>
    rw [if_neg (by decide)] at hk
    simp only [Bool.and_eq_true, List.isEmpty_iff, decide_eq_true_eq] at hk
    obtain ⟨⟨⟨hm, ht⟩, _⟩, hr2⟩ := hk
    have h1 := name_small hm
    unfold targetB at ht
    simp only [Bool.and_eq_true, decide_eq_true_eq] at ht
    exact ⟨by omega, by omega, by rw [hr2]; decide, by omega, hF⟩
theorem sm_zero : SmH Hd.zero := ⟨by decide, by decide, by decide, by decide, fun f h => by cases h⟩
theorem sm_mk {R : Rr} (h1 : R.hd.length ≤ 4096) (h2 : R.b.length ≤ 4611686018427387904) (h3 : R.ck.ln.length ≤ 4096) (h4 : SmH R.now) : SmR R :=
  ⟨h1, h2, h3, h4.m, h4.t, h4.r, by have := h4.n; omega, h4.fs⟩
/-- a reader that is valid is small -/
theorem sm_of_ok {R : Rr} (h : okR R) : SmR R := by
  unfold okR at h
  split at h
  · obtain ⟨h1, h2, _, _, h5, h6⟩ := h
    exact sm_mk (by rw [h1]; decide) (by rw [h2]; decide) (by rw [ckZ_eq h5]; decide) (by rw [hdZ_eq h6]; exact sm_zero)
  · split at h
    · obtain ⟨_, h2, h3, h4, h5, _⟩ := h
      exact sm_mk (by omega) (by rw [h2]; decide) (by rw [ckZ_eq h3]; decide) (by rw [hdZ_eq h4]; exact sm_zero)
    · obtain ⟨h1, h2, h3, h4⟩ := h
      have hck : R.ck.ln.length ≤ 4096 := by
        split at h4
        · rw [ckZ_eq h4.2.2]; decide
        · split at h4
          · have := h4.2.1.2.2.2.2.1
            omega
          · split at h4
            · rw [ckZ_eq h4.2.2]; decide
            · exact h4.elim
      exact sm_mk (by rw [h1]; decide) (by omega) hck (right_sm9 h2)
/-- a reader that has read is valid -/
theorem read_ok (a : Bool) (q s : Bs) : okR (feedR (newR a q) s).1 := by
  unfold feedR
  rw [if_pos (ok_new a q)]
  exact (feed_okT s _ (okT_new a q)).1
theorem sm_new (a : Bool) (q : Bs) : SmR (newR a q) := sm_of_ok (ok_new a q)

/-! awake -/
def awP : Bs := [80, 79, 83, 84, 32, 47, 32, 72, 84, 84, 80, 47, 49, 46, 49, 13, 10, 67, 111, 110, 116, 101, 110, 116, 45, 76, 101, 110, 103, 116, 104, 58, 32, 50, 13, 10, 13, 10, 104, 105, 71, 69]
def awQ : Bs := [84, 32, 47, 97, 32, 72, 84, 84, 80, 47, 49, 46, 48, 13, 10, 13, 10]
def awS : Bs := [72, 84, 84, 80, 47, 49, 46, 48, 32, 50, 48, 48, 32, 79, 75, 13, 10, 13, 10, 97, 98]
def awG : Rr := ⟨false, [], [71, 69], 0, 0, [], Ck.zero, Hd.zero, 0⟩
def awM1 : Mg := ⟨⟨[80, 79, 83, 84], [47], 0, [], 1, [([67, 111, 110, 116, 101, 110, 116, 45, 76, 101, 110, 103, 116, 104], [50])]⟩, [104, 105]⟩
def awM2 : Mg := ⟨⟨[71, 69, 84], [47, 97], 0, [], 0, []⟩, []⟩
def awA : Rr := ⟨true, [71, 69, 84], [], 4, 0, [97, 98], Ck.zero, ⟨[], [], 200, [79, 75], 0, []⟩, 0⟩
def awM3 : Mg := ⟨⟨[], [], 200, [79, 75], 0, []⟩, [97, 98]⟩
def awM4 : Mg := ⟨⟨[], [], 200, [], 1, []⟩, [120]⟩
def awX : Rr := ⟨false, [], [], 0, 0, [120], Ck.zero, Hd.zero, 0⟩
set_option maxRecDepth 100000 in
theorem aw9_1 : feedR (newR false []) awP = (awG, [awM1], 0) := by kernel_rfl
set_option maxRecDepth 100000 in
theorem aw9_2 : feedR awG awQ = (newR false [], [awM2], 0) := by kernel_rfl
set_option maxRecDepth 100000 in
theorem aw9_3 : feedR (newR true [71, 69, 84]) awS = (awA, [], 0) := by kernel_rfl
set_option maxRecDepth 100000 in
theorem aw9_4 : endR awA = (awM3, true, 0) := by kernel_rfl
set_option maxRecDepth 100000 in
theorem aw9_5 : endR awG = (Mg.zero, false, 22) := by kernel_rfl
set_option maxRecDepth 100000 in
theorem aw9_7 : okR awG := by decide +kernel
set_option maxRecDepth 100000 in
theorem aw9_8 : decide (okR awX) = false := by decide +kernel
theorem aw9_9 : okR awA := by decide +kernel
set_option maxRecDepth 100000 in
theorem aw9_6 : printR awM4 true = ([72, 84, 84, 80, 47, 49, 46, 49, 32, 50, 48, 48, 32, 13, 10, 67, 111, 110, 116, 101, 110, 116, 45, 76, 101, 110, 103, 116, 104, 58, 32, 49, 13, 10, 13, 10, 120], 0) := by
  have e : verT 1 = [72, 84, 84, 80, 47, 49, 46, 49] := by
    show [72, 84, 84, 80, 47, 49, 46] ++ textN 1 10 = _
    rw [text_01 (.inr rfl)]
    rfl
  have t1 : textN ((awM4.b.length : Nat) : Int) 10 = [49] := by
    show textN 1 10 = [49]
    rw [text_01 (.inr rfl)]
    rfl
  have t2 : textN 200 10 = [50, 48, 48] := by
    rw [textN, if_pos ⟨by decide, .inl rfl⟩]
    show dgs 10 200 = _
    rw [dgs_big (by omega) (by omega), dgs_big (by omega) (by omega), dgs_small (by omega)]
    decide +kernel
  have hh : headP awM4 = ⟨[], [], 200, [], 1, [(CLB, [49])]⟩ := by
    show (⟨[], [], 200, [], 1, dropB [] ++ [(CLB, textN ((awM4.b.length : Nat) : Int) 10)]⟩ : Hd) = _
    rw [t1]
    rfl
  have hx : textH (headP awM4) true = [72, 84, 84, 80, 47, 49, 46, 49, 32, 50, 48, 48, 32, 13, 10, 67, 111, 110, 116, 101, 110, 116, 45, 76, 101, 110, 103, 116, 104, 58, 32, 49, 13, 10, 13, 10] := by
    rw [hh]
    show (verT 1 ++ [32] ++ textN 200 10 ++ [32] ++ []) ++ crlf ++ [(CLB, [49])].flatMap fieldT ++ crlf = _
    rw [e, t2]
    decide +kernel
  have hr : rightB (headP awM4) true = true := by
    rw [hh]
    decide +kernel
  unfold printR
  rw [if_neg (by decide), print_ok hr (by rw [hx]; decide), hx]
  rfl
end Go.Proofs.YtdlihfbaepjliaaGreatDoor
