/-
  The walk of the document's own Print.
-/
import Derived.Test.YtdlihfbaepjliaaGreatDoorJPw
import Derived.Test.YtdlihfbaepjliaaGreatDoorRefE
namespace Go.Proofs.YtdlihfbaepjliaaGreatDoor
open Go.RowKit
attribute [local go_sem ↓] exec_ldR exec_ldH exec_ldK exec_ldM exec_stR exec_stH exec_stK exec_stM exec_bdM exec_bsM
attribute [local go_sem] run_bdM run_bsM run_ldR run_ldH run_ldK run_ldM run_stR run_stH run_stK run_stM ldO_at stO_at rcs_size hcs_size kcs_size mca_size rcs_one hcs_one kcs_one mca_one rcs_oneN hcs_oneN kcs_oneN mca_oneN rcs_now rcs_ck mca_head hpat_drew hpat_new
attribute [local go_sem ↓] exec_stP exec_bdP
attribute [local go_sem] run_stP run_bdP pcs_size pcs_one pcs_oneN pcs_rd pcs_now pcs_ck pspl_now pspl_ck pspl_rd

def nsR : List ByteArray := [⟨#[99, 111, 110, 116, 101, 110, 116, 45, 108, 101, 110, 103, 116, 104]⟩, ⟨#[116, 114, 97, 110, 115, 102, 101, 114, 45, 101, 110, 99, 111, 100, 105, 110, 103]⟩]
theorem nsR_low : nsR.map (fun y => lowerL (dl y)) = [clB, teB] := by decide +kernel
theorem Row.lower {w : World} {B B' sz : Nat} {e : TypeId} {s : Sli} {cs : List Value} (h : Row w B e sz s cs) (hB : B' ≤ B) : Row w B' e sz s cs := by
  refine ⟨h.1, ?_⟩
  rcases h.2 with hn | ⟨g, cap, cur, e1, hb, q⟩
  · exact .inl hn
  · exact .inr ⟨g, cap, cur, e1, Nat.le_trans hB hb, q⟩
theorem Src.up2 {w w' : World} {sz : Nat} {A : Option Addr} {m c : Nat} {cs : List Value} (h : Src w sz A m c cs) (hb : Below w.heap.size w w') : Src w' sz A m c cs := by
  rcases h with h | ⟨ad, h1, h2, h3⟩
  · exact .inl h
  · exact .inr ⟨ad, h1, h2, fun j u hu => cell_up hb (h3 j u hu)⟩
/-- fields in a row of the call's own, from block B on -/
def DrEnds (fs : List Fd) (B : Nat) (w : World) (e : Ending) (w' : World) : Prop := ∃ s : Sli, e = .returned (.slice s.A s.n s.c) ∧ Row w' B 40 2 s (fvs fs) ∧ Below w.heap.size w w'
theorem rtext_c (n : Int) (w : World) : Calls Tryz.prog 36 #[.int .i64 n, .int .i64 10] w (TextEnds (textN n 10) w) := Nm.rtext_any n 10 w
set_option maxRecDepth 100000 in
set_option maxHeartbeats 8000000 in
theorem rprint9_c (M : Mg) (S : Sli) (a : Bool) (w : World) (hF : Fs w S (mkF M.h.fs)) (hS : SmH M.h) : Calls Tryz.prog 18 #[.agg (mca M S), .bool a] w (PrintEnds (printR M a) w) := by
  obtain ⟨Z, hZ⟩ : ∃ Z, printR M a = Z := ⟨_, rfl⟩
  rw [hZ]
  have HZ : Hid (Z = if 4000 < M.b.length then ([], 2) else if (printH (headP M) a).2 ≠ 0 then ([], (printH (headP M) a).2) else ((printH (headP M) a).1 ++ M.b, 0)) := Lib.hid (by rw [← hZ]; rfl)
  clear hZ
  have hb0 := ba1 w (.cells (mca M S) 49)
  have bm := Box.new w 49 (mca M S)
  have hF0 := hF.up hb0
  have hbs : (tb M.b).size = M.b.length := tb_size _
  have HBs := Lib.hid hbs
  clear hF hbs
  go_enter Tryz.func18, Tryz.ntmps18
  go_upto_region 1 with fail
  obtain ⟨g, hg⟩ : ∃ g, w.heap.size = g := ⟨_, rfl⟩
  rw [hg] at bm ⊢
  have HGW := Lib.hid hg
  clear hg
  generalize w.alloc (.cells (mca M S) 49) = W0 at *
  have c6 : W0.cell? ⟨g, 6, none⟩ = some (.string (tb M.b)) := bm.c 6 rfl
  by_cases hbig : 4000 < M.b.length
  case pos =>
    have hbi : (4000 : Int) < ((tb M.b).size : Int) := by rw [HBs.out]; omega
    have HV : Hid (Z = ([], 2)) := Lib.hid (by rw [HZ.out, if_pos hbig])
    clear hbig HZ hF0 bm
    go_wp2
    go_ret2
    rw [HV.out]
    exact ⟨⟨#[]⟩, rfl, rfl, hb0⟩
  case neg =>
    have hbi : ¬ (4000 : Int) < ((tb M.b).size : Int) := by rw [HBs.out]; omega
    rw [if_neg hbig] at HZ
    have HBig := Lib.hid hbig
    have hbg : hpat W0 g = some (.cells (mca M S) 49 (0, 0)) := bm
    go_upto_region 4 with fail
    have hbA : Below W0.heap.size W0 ((W0.alloc (.cells #[.string ⟨#[]⟩, .string ⟨#[]⟩, .int .i64 0, .string ⟨#[]⟩, .int .i64 0, .slice none 0 0] 29)).setRow W0.heap.size (hcs M.h S)) := below_row (ba1 W0 _) (Nat.le_refl _) _
    have bh := box_row (hcs M.h S) (Box.new W0 29 #[.string ⟨#[]⟩, .string ⟨#[]⟩, .int .i64 0, .string ⟨#[]⟩, .int .i64 0, .slice none 0 0])
    have bm1 := bm.up hbA
    have hF1 := hF0.up hbA
    have hd1 := bon hb0 hbA
    have HGH : Hid (g < W0.heap.size) := Lib.hid bm.lt
    clear hbg hbA bm hF0 hb0 c6 hbig
    obtain ⟨gh, hgh⟩ : ∃ k, W0.heap.size = k := ⟨_, rfl⟩
    rw [hgh] at bh bm1 hF1 hd1 HGH ⊢
    clear hgh
    generalize (W0.alloc (.cells #[.string ⟨#[]⟩, .string ⟨#[]⟩, .int .i64 0, .string ⟨#[]⟩, .int .i64 0, .slice none 0 0] 29)).setRow gh (hcs M.h S) = W1 at *
    have c5 : W1.cell? ⟨gh, 5, none⟩ = some (.slice S.A S.n S.c) := bh.c 5 rfl
    have c6 : W1.cell? ⟨g, 6, none⟩ = some (.string (tb M.b)) := bm1.c 6 rfl
    have e5 : ∀ o, (W1.alloc o).cell? ⟨gh, 5, none⟩ = some (.slice S.A S.n S.c) := fun o => (bh.alloc o).c 5 rfl
    have e6 : ∀ o, (W1.alloc o).cell? ⟨g, 6, none⟩ = some (.string (tb M.b)) := fun o => (bm1.alloc o).c 6 rfl
    have HDr : Hid (∀ (W : World) (N : Nat), Below W1.heap.size W1 W → Ss W ⟨some ⟨N, 0, none⟩, 2, 2⟩ nsR → Calls Tryz.prog 24 #[.slice S.A S.n S.c, .slice (some ⟨N, 0, none⟩) 2 2] W (DrEnds (mkF (dropB M.h.fs)) W1.heap.size W)) := Lib.hid (fun W N hW hN => by
      have := rdrop_any S ⟨some ⟨N, 0, none⟩, 2, 2⟩ (mkF M.h.fs) nsR W (hF1.up hW) hN (by
        have h1 := hF1.len
        rw [show (mkF M.h.fs).length = M.h.fs.length from List.length_map _] at h1
        have := hS.n
        omega) (by show 2 ≤ 4096; decide) (fun f hf => by
        obtain ⟨x, hx, rfl⟩ := List.mem_map.1 hf
        have := (hS.fs x hx).1
        rw [← tb_size] at this
        exact this) (by decide)
      rw [drop_mkF M.h.fs nsR nsR_low] at this
      exact this.mono fun _ _ ⟨s, h1, h2, h3⟩ => ⟨s, h1, h2.lower hW.size, h3⟩)
    have HTx := Lib.hid (fun W => rtext_c ((tb M.b).size : Int) W)
    obtain ⟨i40, hi, hz0, hz1, hz2⟩ := info_parts info32
    have hDl : (dropB M.h.fs).length ≤ 4000 := Nat.le_trans (dropB_len _) hS.n
    go_cut [] (CutPr M S g gh w)
    case first =>
      go_region_law (first
        | (go_simp; go_at_call 36; refine (HTx.out _).mono ?_; rintro E wP ⟨y, rfl, hy, hbP⟩; have hP3 : Below W1.heap.size W1 wP := (by first | exact bon hD3 hbP | exact bon ((ba1 _ _).drew) hbP | exact bon ((Below.refl _ _).drew) hbP); (first | (have hRP := hRd.up hbP; have hRA := hRP.up (ba1 wP (.cells #[.string ⟨#[67, 111, 110, 116, 101, 110, 116, 45, 76, 101, 110, 103, 116, 104]⟩, .string y] 40)); skip) | (have hsP : Ss wP ⟨some ⟨W1.heap.size, 0, none⟩, 2, 2⟩ nsR := ((Ss.new W1 nsR 2 rfl (by decide)).up ((Below.refl _ _).drew)).up hbP; skip) | skip); have c5P : wP.cell? ⟨gh, 5, none⟩ = some (.slice S.A S.n S.c) := cell_up hP3 c5; have e5P : ∀ o, (wP.alloc o).cell? ⟨gh, 5, none⟩ = some (.slice S.A S.n S.c) := (fun o => cell_up (ba1 wP o) c5P); have f5P : ∀ o o', ((wP.alloc o).alloc o').cell? ⟨gh, 5, none⟩ = some (.slice S.A S.n S.c) := (fun o o' => cell_up (ba2 wP o o') c5P); have HSrc := Lib.hid (src_one wP 40 (fvs [(⟨#[67, 111, 110, 116, 101, 110, 116, 45, 76, 101, 110, 103, 116, 104]⟩, y)]) 1 2 rfl))
        | (go_simp; go_at_call 24; refine (HDr.out _ _ ?_ ?_).mono ?_; ((first | exact (Below.refl _ _).drew | exact (ba1 _ _).drew | exact hP3 | exact bon hP3 (ba1 _ _) | exact bon hP3 (ba2 _ _ _) | exact hD3 | exact bon hD3 (ba1 _ _))); ((first | exact (Ss.new W1 nsR 2 rfl (by decide)).up ((Below.refl _ _).drew) | exact hsP | exact hsP.up (ba1 _ _) | exact Ss.new wP nsR 2 rfl (by decide) | exact (Ss.new wP nsR 2 rfl (by decide)).up (ba1 _ _) | exact Ss.new (wP.alloc (.cells #[.string ⟨#[67, 111, 110, 116, 101, 110, 116, 45, 76, 101, 110, 103, 116, 104]⟩, .string y] 40)) nsR 2 rfl (by decide))); rintro E wD ⟨Sd, rfl, hRd, hbD⟩; have hD3 : Below W1.heap.size W1 wD := (by refine bon ?_ hbD; (first | exact (Below.refl _ _).drew | exact (ba1 _ _).drew | exact hP3 | exact bon hP3 (ba1 _ _) | exact bon hP3 (ba2 _ _ _) | exact hD3 | exact bon hD3 (ba1 _ _))); have c6D : wD.cell? ⟨g, 6, none⟩ = some (.string (tb M.b)) := cell_up hD3 c6; have hSd : Sd.n ≤ 4000 := (by have h1 := hRd.1; rw [fvs_len] at h1; have h2 : (mkF (dropB M.h.fs)).length = (dropB M.h.fs).length := List.length_map _; omega); (first | (have hRA := hRd.up (ba1 wD (.cells #[.string ⟨#[67, 111, 110, 116, 101, 110, 116, 45, 76, 101, 110, 103, 116, 104]⟩, .string y] 40)); have HSrcD := Lib.hid (src_one wD 40 (fvs [(⟨#[67, 111, 110, 116, 101, 110, 116, 45, 76, 101, 110, 103, 116, 104]⟩, y)]) 1 2 rfl); skip) | skip); (first | (have HSrc3 : Hid (Src wD 2 (some ⟨wP.heap.size, 0, none⟩) 1 1 (fvs [(⟨#[67, 111, 110, 116, 101, 110, 116, 45, 76, 101, 110, 103, 116, 104]⟩, y)])) := Lib.hid (HSrc.out.up2 hbD); skip) | (have HSrc3 : Hid (Src wD 2 (some ⟨wP.heap.size + 1, 0, none⟩) 1 1 (fvs [(⟨#[67, 111, 110, 116, 101, 110, 116, 45, 76, 101, 110, 103, 116, 104]⟩, y)])) := Lib.hid ((by have := src_one (wP.alloc (.cells #[.string ⟨#[99, 111, 110, 116, 101, 110, 116, 45, 108, 101, 110, 103, 116, 104]⟩, .string ⟨#[116, 114, 97, 110, 115, 102, 101, 114, 45, 101, 110, 99, 111, 100, 105, 110, 103]⟩] 9)) 40 (fvs [(⟨#[67, 111, 110, 116, 101, 110, 116, 45, 76, 101, 110, 103, 116, 104]⟩, y)]) 1 2 rfl; simpa using this : Src ((wP.alloc (.cells #[.string ⟨#[99, 111, 110, 116, 101, 110, 116, 45, 108, 101, 110, 103, 116, 104]⟩, .string ⟨#[116, 114, 97, 110, 115, 102, 101, 114, 45, 101, 110, 99, 111, 100, 105, 110, 103]⟩] 9)).alloc (.cells (fvs [(⟨#[67, 111, 110, 116, 101, 110, 116, 45, 76, 101, 110, 103, 116, 104]⟩, y)]).toArray 40)) 2 (some ⟨wP.heap.size + 1, 0, none⟩) 1 1 (fvs [(⟨#[67, 111, 110, 116, 101, 110, 116, 45, 76, 101, 110, 103, 116, 104]⟩, y)])).up2 hbD); skip) | (have HSrc3 : Hid (Src wD 2 (some ⟨wP.heap.size, 0, none⟩) 1 1 (fvs [(⟨#[67, 111, 110, 116, 101, 110, 116, 45, 76, 101, 110, 103, 116, 104]⟩, y)])) := Lib.hid ((HSrc.out.up2 (ba1 _ _)).up2 hbD); skip) | skip))
        | (refine step_app _ (by rfl) _ _ 27 (by rfl) W1.heap.size 40 i40 _ 2 32 (by decide) Tryz.underlying27 hi hz0 hz1 hz2 rfl (.slice Sd.A Sd.n Sd.c) Sd.n (fvs (mkF (dropB M.h.fs))) (by rfl) hRA (some ⟨wP.heap.size, 0, none⟩) 1 1 (fvs [(⟨#[67, 111, 110, 116, 101, 110, 116, 45, 76, 101, 110, 103, 116, 104]⟩, y)]) (by rfl) HSrc.out (fvs_one _) ?_ ?_ (show W1.heap.size ≤ (wP.alloc (.cells #[.string ⟨#[67, 111, 110, 116, 101, 110, 116, 45, 76, 101, 110, 103, 116, 104]⟩, .string y] 40)).heap.size from (bon hP3 (ba1 wP (.cells #[.string ⟨#[67, 111, 110, 116, 101, 110, 116, 45, 76, 101, 110, 103, 116, 104]⟩, .string y] 40))).size) (Sd.n + 1) rfl ?_; (unfold maxLen; omega); omega; intro A' c' w4 q1 q2 q3; have bh4 : Box w4 gh 29 (hcs M.h S) := (grown_other hRA q2 (bh.up (bon hP3 (ba1 wP (.cells #[.string ⟨#[67, 111, 110, 116, 101, 110, 116, 45, 76, 101, 110, 103, 116, 104]⟩, .string y] 40)))) (by decide)).trans (bh.up (bon hP3 (ba1 wP (.cells #[.string ⟨#[67, 111, 110, 116, 101, 110, 116, 45, 76, 101, 110, 103, 116, 104]⟩, .string y] 40)))); have bm4 : Box w4 g 49 (mca M S) := (grown_other hRA q2 (bm1.up (bon hP3 (ba1 wP (.cells #[.string ⟨#[67, 111, 110, 116, 101, 110, 116, 45, 76, 101, 110, 103, 116, 104]⟩, .string y] 40)))) (by decide)).trans (bm1.up (bon hP3 (ba1 wP (.cells #[.string ⟨#[67, 111, 110, 116, 101, 110, 116, 45, 76, 101, 110, 103, 116, 104]⟩, .string y] 40)))); have hG : Below W1.heap.size W1 w4 := grown_base hRA q2 (bon hP3 (ba1 wP (.cells #[.string ⟨#[67, 111, 110, 116, 101, 110, 116, 45, 76, 101, 110, 103, 116, 104]⟩, .string y] 40))) (Nat.le_refl _) (bon hP3 (ba1 wP (.cells #[.string ⟨#[67, 111, 110, 116, 101, 110, 116, 45, 76, 101, 110, 103, 116, 104]⟩, .string y] 40))).size; have c54 : w4.cell? ⟨gh, 5, none⟩ = some (.slice S.A S.n S.c) := bh4.c 5 rfl; have d54 := bh4.f 5)
        | (refine step_app _ (by rfl) _ _ 27 (by rfl) W1.heap.size 40 i40 _ 2 32 (by decide) Tryz.underlying27 hi hz0 hz1 hz2 rfl (.slice Sd.A Sd.n Sd.c) Sd.n (fvs (mkF (dropB M.h.fs))) (by rfl) hRA (some ⟨wD.heap.size, 0, none⟩) 1 1 (fvs [(⟨#[67, 111, 110, 116, 101, 110, 116, 45, 76, 101, 110, 103, 116, 104]⟩, y)]) (by rfl) HSrcD.out (fvs_one _) ?_ ?_ (show W1.heap.size ≤ (wD.alloc (.cells #[.string ⟨#[67, 111, 110, 116, 101, 110, 116, 45, 76, 101, 110, 103, 116, 104]⟩, .string y] 40)).heap.size from (bon hD3 (ba1 wD (.cells #[.string ⟨#[67, 111, 110, 116, 101, 110, 116, 45, 76, 101, 110, 103, 116, 104]⟩, .string y] 40))).size) (Sd.n + 1) rfl ?_; (unfold maxLen; omega); omega; intro A' c' w4 q1 q2 q3; have bh4 : Box w4 gh 29 (hcs M.h S) := (grown_other hRA q2 (bh.up (bon hD3 (ba1 wD (.cells #[.string ⟨#[67, 111, 110, 116, 101, 110, 116, 45, 76, 101, 110, 103, 116, 104]⟩, .string y] 40)))) (by decide)).trans (bh.up (bon hD3 (ba1 wD (.cells #[.string ⟨#[67, 111, 110, 116, 101, 110, 116, 45, 76, 101, 110, 103, 116, 104]⟩, .string y] 40)))); have bm4 : Box w4 g 49 (mca M S) := (grown_other hRA q2 (bm1.up (bon hD3 (ba1 wD (.cells #[.string ⟨#[67, 111, 110, 116, 101, 110, 116, 45, 76, 101, 110, 103, 116, 104]⟩, .string y] 40)))) (by decide)).trans (bm1.up (bon hD3 (ba1 wD (.cells #[.string ⟨#[67, 111, 110, 116, 101, 110, 116, 45, 76, 101, 110, 103, 116, 104]⟩, .string y] 40)))); have hG : Below W1.heap.size W1 w4 := grown_base hRA q2 (bon hD3 (ba1 wD (.cells #[.string ⟨#[67, 111, 110, 116, 101, 110, 116, 45, 76, 101, 110, 103, 116, 104]⟩, .string y] 40))) (Nat.le_refl _) (bon hD3 (ba1 wD (.cells #[.string ⟨#[67, 111, 110, 116, 101, 110, 116, 45, 76, 101, 110, 103, 116, 104]⟩, .string y] 40))).size; have c54 : w4.cell? ⟨gh, 5, none⟩ = some (.slice S.A S.n S.c) := bh4.c 5 rfl; have d54 := bh4.f 5)
        | (refine step_app _ (by rfl) _ _ 27 (by rfl) W1.heap.size 40 i40 _ 2 32 (by decide) Tryz.underlying27 hi hz0 hz1 hz2 rfl (.slice Sd.A Sd.n Sd.c) Sd.n (fvs (mkF (dropB M.h.fs))) (by rfl) hRd (some ⟨wP.heap.size, 0, none⟩) 1 1 (fvs [(⟨#[67, 111, 110, 116, 101, 110, 116, 45, 76, 101, 110, 103, 116, 104]⟩, y)]) (by rfl) HSrc3.out (fvs_one _) ?_ ?_ (show W1.heap.size ≤ (wD).heap.size from (hD3).size) (Sd.n + 1) rfl ?_; (unfold maxLen; omega); omega; intro A' c' w4 q1 q2 q3; have bh4 : Box w4 gh 29 (hcs M.h S) := (grown_other hRd q2 (bh.up (hD3)) (by decide)).trans (bh.up (hD3)); have bm4 : Box w4 g 49 (mca M S) := (grown_other hRd q2 (bm1.up (hD3)) (by decide)).trans (bm1.up (hD3)); have hG : Below W1.heap.size W1 w4 := grown_base hRd q2 (hD3) (Nat.le_refl _) (hD3).size; have c54 : w4.cell? ⟨gh, 5, none⟩ = some (.slice S.A S.n S.c) := bh4.c 5 rfl; have d54 := bh4.f 5)
        | (refine step_app _ (by rfl) _ _ 27 (by rfl) W1.heap.size 40 i40 _ 2 32 (by decide) Tryz.underlying27 hi hz0 hz1 hz2 rfl (.slice Sd.A Sd.n Sd.c) Sd.n (fvs (mkF (dropB M.h.fs))) (by rfl) hRd (some ⟨wP.heap.size + 1, 0, none⟩) 1 1 (fvs [(⟨#[67, 111, 110, 116, 101, 110, 116, 45, 76, 101, 110, 103, 116, 104]⟩, y)]) (by rfl) HSrc3.out (fvs_one _) ?_ ?_ (show W1.heap.size ≤ (wD).heap.size from (hD3).size) (Sd.n + 1) rfl ?_; (unfold maxLen; omega); omega; intro A' c' w4 q1 q2 q3; have bh4 : Box w4 gh 29 (hcs M.h S) := (grown_other hRd q2 (bh.up (hD3)) (by decide)).trans (bh.up (hD3)); have bm4 : Box w4 g 49 (mca M S) := (grown_other hRd q2 (bm1.up (hD3)) (by decide)).trans (bm1.up (hD3)); have hG : Below W1.heap.size W1 w4 := grown_base hRd q2 (hD3) (Nat.le_refl _) (hD3).size; have c54 : w4.cell? ⟨gh, 5, none⟩ = some (.slice S.A S.n S.c) := bh4.c 5 rfl; have d54 := bh4.f 5)
        | fail)
      all_goals
        have e9 : w4.setCell ⟨gh, 5, none⟩ (.slice A' ((Sd.n + 1 : Nat)) c') = w4.setRow gh (hcs M.h ⟨A', Sd.n + 1, c'⟩) := bh4.row_eq 5 _ rfl
        have hR4 : Row w4 W1.heap.size 40 2 ⟨A', Sd.n + 1, c'⟩ (fvs (mkF (headP M).fs)) := by
          have e : fvs (mkF (headP M).fs) = fvs (mkF (dropB M.h.fs)) ++ fvs [(⟨#[67, 111, 110, 116, 101, 110, 116, 45, 76, 101, 110, 103, 116, 104]⟩, y)] := by
            have e2 : mkF (headP M).fs = mkF (dropB M.h.fs) ++ [(⟨#[67, 111, 110, 116, 101, 110, 116, 45, 76, 101, 110, 103, 116, 104]⟩, y)] := by
              rw [show (headP M).fs = dropB M.h.fs ++ [(CLB, textN (M.b.length : Int) 10)] from rfl, mkF_app, ← HBs.out, ← hy]
              exact congrArg _ (congrArg (fun x => [x]) (Prod.ext rfl (tb_dl y)))
            rw [e2, fvs_app]
          rw [e]
          exact q1
        have hC : CutPr M S g gh w (w4.setRow gh (hcs M.h ⟨A', Sd.n + 1, c'⟩)) := ⟨⟨A', Sd.n + 1, c'⟩, box_row (hcs (headP M) ⟨A', Sd.n + 1, c'⟩) bh4, bm4.row_far (by have := HGH.out; omega) _, (hR4.keep fun k _ hk => row_heap w4 gh _ k (box_ne bh4 hk (by decide))).fs, below_row (bon hd1 hG) (by have := HGH.out; have := HGW.out; omega) _⟩
        have HC9 := Lib.hid hC
        have HE9 := Lib.hid e9
        clear hC e9 bm4 hR4 bh4 c54 d54 q1 q2 q3 hy
        go_wp2_with fail
        go_meet
        rw [HE9.out]
        exact HC9.out
    case rest =>
      obtain ⟨S4, bh4, bm4, hF4, hd4⟩ := hcut
      clear c5 c6 e5 e6 HTx HDr hi hz0 hz1 hz2 i40 bh bm1 hF1 hd1
      have hbq : hpat wc gh = some (.cells (hcs (headP M) S4) 29 (0, 0)) := bh4
      have hln : (headP M).fs.length ≤ 4096 := by
        have h3 := dropB_len M.h.fs
        have := hS.n
        show (dropB M.h.fs ++ [(CLB, textN (M.b.length : Int) 10)]).length ≤ 4096
        simp
        omega
      have HPr := Lib.hid (rprintH_c (headP M) S4 a wc hF4 hS.m hS.t hS.r hln (headP_small hS (by have := HBig.out; omega)))
      obtain ⟨P, hP⟩ : ∃ P, printH (headP M) a = P := ⟨_, rfl⟩
      rw [hP] at HPr HZ
      have HPs : Hid (P.2 = 0 → P.1.length ≤ 2004) := Lib.hid (by
        rw [← hP]
        unfold printH
        split
        · split
          · intro _; assumption
          · intro h; cases h
        · intro h; cases h)
      clear hP hln hF4
      go_wp2_with fail
      refine HPr.out.mono ?_
      rintro E w5 ⟨y, rfl, hy, hb5⟩
      have hd5 := bon hd4 hb5
      have c65 : w5.cell? ⟨g, 6, none⟩ = some (.string (tb M.b)) := (bm4.up hb5).c 6 rfl
      clear hbq HPr hb5 bh4 bm4 hd4
      obtain ⟨P1, P2⟩ := P
      simp only at HZ HPs hy ⊢
      by_cases hp : P2 = 0
      case neg =>
        have t0 : (P2 != 0) = true := bne_iff_ne.2 hp
        have HV : Hid (Z = ([], P2)) := Lib.hid (by rw [HZ.out, if_pos hp])
        clear hp HZ
        go_wp2
        go_ret2
        rw [HV.out]
        exact ⟨⟨#[]⟩, rfl, rfl, hd5⟩
      case pos =>
        subst hp
        have HV : Hid (Z = (P1 ++ M.b, 0)) := Lib.hid (by rw [HZ.out, if_neg (by simp)])
        have hys : y.size ≤ 2004 := by rw [← dl_len, hy]; exact HPs.out rfl
        have kadd := fun W => run_string_add_sum (P := Tryz.prog) W y (tb M.b) (by rw [HBs.out]; have := HBig.out; omega)
        have HY := Lib.hid hy
        clear HZ hy hys
        go_wp2
        go_ret2
        rw [HV.out]
        exact ⟨y ++ tb M.b, rfl, by rw [dl_app, dl_tb, HY.out], hd5⟩
end Go.Proofs.YtdlihfbaepjliaaGreatDoor
