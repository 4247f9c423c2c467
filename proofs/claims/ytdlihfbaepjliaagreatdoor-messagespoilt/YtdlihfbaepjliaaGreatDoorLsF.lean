/-
  The walk of the law MessagePrint.
-/
import Derived.Test.YtdlihfbaepjliaaGreatDoorJPv
import Derived.Test.YtdlihfbaepjliaaGreatDoorLa2
import Derived.Test.YtdlihfbaepjliaaGreatDoorPx9
import Derived.Deep.QuietTactic
namespace Go.Proofs.YtdlihfbaepjliaaGreatDoor
open Go.RowKit
attribute [local go_sem ↓] exec_ldR exec_ldH exec_ldK exec_ldM exec_stR exec_stH exec_stK exec_stM exec_bdM exec_bsM
attribute [local go_sem] run_bdM run_bsM run_ldR run_ldH run_ldK run_ldM run_stR run_stH run_stK run_stM ldO_at stO_at rcs_size hcs_size kcs_size mca_size rcs_one hcs_one kcs_one mca_one rcs_oneN hcs_oneN kcs_oneN mca_oneN rcs_now rcs_ck mca_head hpat_drew hpat_new
attribute [local go_sem ↓] exec_stP exec_bdP
attribute [local go_sem] run_stP run_bdP pcs_size pcs_one pcs_oneN pcs_rd pcs_now pcs_ck pspl_now pspl_ck pspl_rd
attribute [local go_sem] zM_one zM_size
/-- a head that was made is handed back -/
def Made9Ends (a : Bool) (w : World) (E : Ending) (w' : World) : Prop := ∃ (H : Hd) (S : Sli), E = .returned (.agg (hcs H S)) ∧ rightB H a = true ∧ Mini H ∧ Fs w' S (mkF H.fs) ∧ Fresh w S ∧ Below w.heap.size w w'
theorem made9_any (A : Option Addr) (L c : Nat) (ys : List UInt8) (a : Bool) (w : World) (hl : ys.length = L) (hm : L ≤ maxLen) (hU : Us w w.heap.size A ys) : Calls Tryz.prog 15 #[.slice A L c, .bool a] w (Made9Ends a w) := by
  refine (made_any A L c ys a w hl hm hU).mono ?_
  rintro E w' ⟨m, t, st, r, mi, S, fs, rfl, hG, hF, hfr, hb⟩
  refine ⟨hdOf m t st r mi fs, S, by rw [← hcs_of], hG.1, good_mini hG, ?_, hfr, hb⟩
  show Fs w' S (mkF (dls fs))
  rw [mkF_dls]
  exact hF
theorem bit_cell {W : World} {g : Nat} (h : Box W g 4 #[.bool false, .bool true]) {k : Nat} (hk : k < 2) : ∃ a, W.cell? ⟨g, k, none⟩ = some (.bool a) := by
  match k, hk with
  | 0, _ => exact ⟨false, h.c 0 rfl⟩
  | 1, _ => exact ⟨true, h.c 1 rfl⟩
set_option maxRecDepth 100000 in
set_option maxHeartbeats 8000000 in
theorem messagePrint_any (A : Option Addr) (L c : Nat) (ys : List UInt8) (b : Bs) (a : Bool) (w : World) (hl : ys.length = L) (hm : L ≤ maxLen) (hU : Us w w.heap.size A ys) (hT : Tabs w) : Calls Tryz.prog 7 #[.slice A L c, .string (tb b), .bool a] w (BoolEnds true w) := by
  have HTb := Lib.hid hT
  have HMd := Lib.hid (made9_any A L c ys a w hl hm hU)
  have zs : (tb b).size = b.length := tb_size b
  clear hT hl hm hU
  go_enter Tryz.func7, Tryz.ntmps7
  go_wp2_with fail
  refine HMd.out.mono ?_
  rintro E w1 ⟨H, S1, rfl, hr, -, hF1, -, hc⟩
  have HSm := Lib.hid (right_sm9 hr)
  clear hr HMd
  go_upto_region 2 with fail
  have hbA : Below w1.heap.size w1 ((w1.alloc (.cells #[.string ⟨#[]⟩, .string ⟨#[]⟩, .int .i64 0, .string ⟨#[]⟩, .int .i64 0, .slice none 0 0, .string ⟨#[]⟩] 49)).setRow w1.heap.size (mca ⟨H, b⟩ S1)) := below_row (ba1 w1 _) (Nat.le_refl _) _
  have b1 := box_row (mca ⟨H, b⟩ S1) (Box.new w1 49 #[.string ⟨#[]⟩, .string ⟨#[]⟩, .int .i64 0, .string ⟨#[]⟩, .int .i64 0, .slice none 0 0, .string ⟨#[]⟩])
  have hu := bon hc hbA

  replace hF1 := hF1.up hbA
  have hd1 := bon (Below.refl _ _) hu
  obtain ⟨g1, hg⟩ : ∃ k, w1.heap.size = k := ⟨_, rfl⟩
  rw [hg] at b1 hd1 hF1 ⊢
  clear hg hu hbA hc
  generalize (w1.alloc (.cells #[.string ⟨#[]⟩, .string ⟨#[]⟩, .int .i64 0, .string ⟨#[]⟩, .int .i64 0, .slice none 0 0, .string ⟨#[]⟩] 49)).setRow g1 (mca ⟨H, b⟩ S1) = W1 at *
  obtain ⟨M, hM⟩ : ∃ M : Mg, (⟨H, b⟩ : Mg) = M := ⟨_, rfl⟩
  rw [hM] at b1
  have HFm : Hid (Fs W1 S1 (mkF M.h.fs)) := Lib.hid (by rw [← hM]; exact hF1)
  have HSm2 : Hid (SmH M.h) := Lib.hid (by rw [← hM]; exact HSm.out)
  have HP := Lib.hid (fun k W (h : Below W1.heap.size W1 W) => pprint9_c M S1 k W (HFm.out.up h) HSm2.out (HTb.out.up (bon hd1 h)))
  have HR := Lib.hid (fun k W (h : Below W1.heap.size W1 W) => rprint9_c M S1 k W (HFm.out.up h) HSm2.out)
  clear hF1 HSm hM HSm2 HFm
  have hcase : (600 < b.length ∧ b.length ≤ 4000) ∨ (¬ 600 < b.length) ∨ (600 < b.length ∧ ¬ b.length ≤ 4000) := by omega
  rcases hcase with ⟨h1, h2⟩ | h1 | ⟨h1, h2⟩
  · have i1 : (600 : Int) < ((tb b).size : Int) := by omega
    have i2 : ((tb b).size : Int) ≤ 4000 := by omega
    go_wp2_with fail
    refine (awake9_any _ (HTb.out.up hd1)).mono ?_
    rintro E w2 ⟨rfl, hb2⟩
    go_wp2
    go_ret
    exact ⟨by rfl, bon hd1 hb2⟩
  · have i1 : ¬ (600 : Int) < ((tb b).size : Int) := by omega
    go_wp2_with fail
    have hd := ba1 W1 (.cells #[.bool false, .bool true] 4)
    have bl := Box.new W1 4 #[.bool false, .bool true]
    obtain ⟨gl, hg⟩ : ∃ g, W1.heap.size = g := ⟨_, rfl⟩
    have b2 := b1.up hd
    rw [hg] at bl ⊢
    generalize W1.alloc (.cells #[.bool false, .bool true] 4) = W2 at *
    clear hg i1 b1
    go_loopw [30] (fun i wr => ∃ j : Nat, j ≤ 2 ∧ i = .int .i64 (j : Int) ∧ Hid (Below W2.heap.size W2 wr)) (fun i _ => 2 - (intOf i).toNat)
    case atStart => exact ⟨0, by omega, rfl, Lib.hid (Below.refl _ _)⟩
    case round =>
      obtain ⟨j, hj, rfl, HB⟩ := hrel
      by_cases hlt : j < 2
      · have hji : (j : Int) < 2 := by omega
        have hj0 : (0 : Int) ≤ (j : Int) := by omega
        obtain ⟨x, cx⟩ := bit_cell (bl.up HB.out) hlt
        have hpg : hpat wr g1 = some (.cells (mca M S1) 49 (0, 0)) := b2.up HB.out
        go_wp2_with fail
        refine (HP.out x _ (bon hd HB.out)).mono ?_
        rintro e w1 ⟨t1, rfl, ht1, hb1⟩
        have HB1 := Lib.hid (bon HB.out hb1)
        have hpg1 : hpat w1 g1 = some (.cells (mca M S1) 49 (0, 0)) := b2.up HB1.out
        clear hpg cx
        go_wp2_with fail
        refine (HR.out x _ (bon hd HB1.out)).mono ?_
        rintro e w2 ⟨t2, rfl, ht2, hb2⟩
        obtain rfl : t1 = t2 := dl_inj (ht1.trans ht2.symm)
        have HB2 := Lib.hid (bon HB1.out hb2)
        clear ht1 ht2 hb1 hb2 HB HB1 hpg1
        go_wp2
        go_roundw
        case rel => exact ⟨j + 1, by omega, by go_num, HB2⟩
        case measure => simp [intOf]; omega
      · obtain rfl : j = 2 := by omega
        go_wp2_with fail
        refine (awake9_any _ (HTb.out.up (bon hd1 (bon hd HB.out)))).mono ?_
        rintro e w1 ⟨rfl, hb1⟩
        go_wp2
        go_ret
        exact ⟨by rfl, bon (bon hd1 (bon hd HB.out)) hb1⟩
  · have i1 : (600 : Int) < ((tb b).size : Int) := by omega
    have i2 : ¬ ((tb b).size : Int) ≤ 4000 := by omega
    go_wp2_with fail
    have hd := ba1 W1 (.cells #[.bool false, .bool true] 4)
    have bl := Box.new W1 4 #[.bool false, .bool true]
    obtain ⟨gl, hg⟩ : ∃ g, W1.heap.size = g := ⟨_, rfl⟩
    have b2 := b1.up hd
    rw [hg] at bl ⊢
    generalize W1.alloc (.cells #[.bool false, .bool true] 4) = W2 at *
    clear hg i1 b1
    go_loopw [30] (fun i wr => ∃ j : Nat, j ≤ 2 ∧ i = .int .i64 (j : Int) ∧ Hid (Below W2.heap.size W2 wr)) (fun i _ => 2 - (intOf i).toNat)
    case atStart => exact ⟨0, by omega, rfl, Lib.hid (Below.refl _ _)⟩
    case round =>
      obtain ⟨j, hj, rfl, HB⟩ := hrel
      by_cases hlt : j < 2
      · have hji : (j : Int) < 2 := by omega
        have hj0 : (0 : Int) ≤ (j : Int) := by omega
        obtain ⟨x, cx⟩ := bit_cell (bl.up HB.out) hlt
        have hpg : hpat wr g1 = some (.cells (mca M S1) 49 (0, 0)) := b2.up HB.out
        go_wp2_with fail
        refine (HP.out x _ (bon hd HB.out)).mono ?_
        rintro e w1 ⟨t1, rfl, ht1, hb1⟩
        have HB1 := Lib.hid (bon HB.out hb1)
        have hpg1 : hpat w1 g1 = some (.cells (mca M S1) 49 (0, 0)) := b2.up HB1.out
        clear hpg cx
        go_wp2_with fail
        refine (HR.out x _ (bon hd HB1.out)).mono ?_
        rintro e w2 ⟨t2, rfl, ht2, hb2⟩
        obtain rfl : t1 = t2 := dl_inj (ht1.trans ht2.symm)
        have HB2 := Lib.hid (bon HB1.out hb2)
        clear ht1 ht2 hb1 hb2 HB HB1 hpg1
        go_wp2
        go_roundw
        case rel => exact ⟨j + 1, by omega, by go_num, HB2⟩
        case measure => simp [intOf]; omega
      · obtain rfl : j = 2 := by omega
        go_wp2_with fail
        refine (awake9_any _ (HTb.out.up (bon hd1 (bon hd HB.out)))).mono ?_
        rintro e w1 ⟨rfl, hb1⟩
        go_wp2
        go_ret
        exact ⟨by rfl, bon (bon hd1 (bon hd HB.out)) hb1⟩
end Go.Proofs.YtdlihfbaepjliaaGreatDoor
