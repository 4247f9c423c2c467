/-
  The walk of the law MessageSmall.
-/
import Derived.Test.YtdlihfbaepjliaaGreatDoorLsA
import Derived.Test.YtdlihfbaepjliaaGreatDoorJPv
import Derived.Test.YtdlihfbaepjliaaGreatDoorLsC
namespace Go.Proofs.YtdlihfbaepjliaaGreatDoor
open Go.RowKit
attribute [local go_sem ↓] exec_ldR exec_ldH exec_ldK exec_ldM exec_stR exec_stH exec_stK exec_stM exec_bdM exec_bsM
attribute [local go_sem] run_bdM run_bsM run_ldR run_ldH run_ldK run_ldM run_stR run_stH run_stK run_stM ldO_at stO_at rcs_size hcs_size kcs_size mca_size rcs_one hcs_one kcs_one mca_one rcs_oneN hcs_oneN kcs_oneN mca_oneN rcs_now rcs_ck mca_head hpat_drew hpat_new
attribute [local go_sem ↓] exec_stP exec_bdP
attribute [local go_sem] run_stP run_bdP pcs_size pcs_one pcs_oneN pcs_rd pcs_now pcs_ck pspl_now pspl_ck pspl_rd
attribute [local go_sem] zM_one zM_size
theorem heldB {W0 w w' : World} {g : Nat} {o : Obj} (hb : Below w.heap.size w w') (h : Below W0.heap.size W0 w ∧ hpat w g = some o) : Below W0.heap.size W0 w' ∧ hpat w' g = some o := by
  refine ⟨bon h.1 hb, ?_⟩
  have h2 : w.heap[g]? = some o := h.2
  have hlt : g < w.heap.size := (Array.getElem?_eq_some_iff.1 h2).1
  exact (hb.block g hlt).trans h2
/-- a reader that is valid, and its fields -/
def RK (W : World) (R : Rr) (S : Sli) : Prop := okR R ∧ Fs W S (mkF R.now.fs)
set_option maxRecDepth 100000 in
set_option maxHeartbeats 8000000 in
theorem messageSmall_any (A : Option Addr) (L c : Nat) (ys : List UInt8) (A2 : Option Addr) (L2 c2 : Nat) (zs : List UInt8) (a hd : Bool) (w : World) (hl : ys.length = L) (hm : L ≤ maxLen) (hU : Us w w.heap.size A ys) (hl2 : zs.length = L2) (hm2 : L2 ≤ maxLen) (hU2 : Us w w.heap.size A2 zs) (hT : Tabs w) : Calls Tryz.prog 3 #[.slice A L c, .slice A2 L2 c2, .bool a, .bool hd] w (BoolEnds true w) := by
  have HTb := Lib.hid hT
  have HP2 := Lib.hid (fun W (hW : Below w.heap.size w W) => pieces9_any A2 L2 c2 zs W hl2 hm2 (hU2.up hW))
  have HRd := Lib.hid (reader9_any a A L c ys hd w hl hm hU)
  clear hT hl hm hU hl2 hm2 hU2
  have HSm := Lib.hid (fun (R : Rr) (S : Sli) (s : Bs) (W : World) (hK : RK W R S) (hs : s.length ≤ 448) (hT : Mx W) => same9_c R S s W hK.2 (sm_of_ok hK.1) (by omega) hT)
  have HN := Lib.hid (fun W => rnew_c a [71, 69, 84] none [] W)
  have HOn := Lib.hid (ok_new a [71, 69, 84])
  go_enter Tryz.func3, Tryz.ntmps3
  go_wp2_with fail
  refine HRd.out.mono ?_
  rintro E w1 ⟨R, S1, rfl, hok, hF1, hc⟩
  have HOk := Lib.hid hok
  clear hok HRd
  go_upto_region 2 with fail
  have hbA : Below w1.heap.size w1 ((w1.alloc (.cells #[.bool false, .string ⟨#[]⟩, .string ⟨#[]⟩, .int .i64 0, .int .i64 0, .string ⟨#[]⟩, .int .i64 0, .int .i64 0, .string ⟨#[]⟩, .int .i64 0, .string ⟨#[]⟩, .string ⟨#[]⟩, .int .i64 0, .string ⟨#[]⟩, .int .i64 0, .slice none 0 0, .int .i64 0] 32)).setRow w1.heap.size (rcs R S1)) := below_row (ba1 w1 _) (Nat.le_refl _) _
  have b1 := box_row (rcs R S1) (Box.new w1 32 #[.bool false, .string ⟨#[]⟩, .string ⟨#[]⟩, .int .i64 0, .int .i64 0, .string ⟨#[]⟩, .int .i64 0, .int .i64 0, .string ⟨#[]⟩, .int .i64 0, .string ⟨#[]⟩, .string ⟨#[]⟩, .int .i64 0, .string ⟨#[]⟩, .int .i64 0, .slice none 0 0, .int .i64 0])
  have hu := bon hc hbA

  replace hF1 := hF1.up hbA
  have hd1 := bon (Below.refl _ _) hu
  obtain ⟨g1, hg⟩ : ∃ k, w1.heap.size = k := ⟨_, rfl⟩
  rw [hg] at b1 hd1 hF1 ⊢
  clear hg hu hbA hc
  generalize (w1.alloc (.cells #[.bool false, .string ⟨#[]⟩, .string ⟨#[]⟩, .int .i64 0, .int .i64 0, .string ⟨#[]⟩, .int .i64 0, .int .i64 0, .string ⟨#[]⟩, .int .i64 0, .string ⟨#[]⟩, .string ⟨#[]⟩, .int .i64 0, .string ⟨#[]⟩, .int .i64 0, .slice none 0 0, .int .i64 0] 32)).setRow g1 (rcs R S1) = W1 at *
  have hp1 : hpat W1 g1 = some (.cells (rcs R S1) 32 (0, 0)) := b1
  have HF1 := Lib.hid hF1
  have HD1 := Lib.hid hd1
  have HK1 : Hid (∀ W, Below W1.heap.size W1 W → RK W R S1) := Lib.hid (fun W h => ⟨HOk.out, HF1.out.up h⟩)
  have HK2 : Hid (∀ W S, Fs W S (mkF (newR a [71, 69, 84]).now.fs) → RK W (newR a [71, 69, 84]) S) := Lib.hid (fun W S h => ⟨HOn.out, h⟩)
  have HMx := Lib.hid (fun W (h : Below W1.heap.size W1 W) => (HTb.out.up (bon HD1.out h)).mx)
  clear b1 hF1 hd1
  go_region_held3 (fun W' => Below W1.heap.size W1 W' ∧ hpat W' g1 = some (.cells (rcs R S1) 32 (0, 0)))
    (first | exact heldB hbP (by assumption) | exact ⟨(Below.refl _ _).drew, hp1⟩ | fail)
    (first
      | (go_at_call 11; refine (awake9_any _ (HTb.out.up (bon HD1.out (And.left (by assumption))))).mono ?_; rintro e wP ⟨rfl, hbP⟩)
      | (go_at_call 13; refine (HP2.out _ (bon HD1.out (And.left (by assumption)))).mono ?_; rintro e wP ⟨sP, rfl, hsP, hbP⟩)
      | (go_at_call 14; refine (HN.out _).mono ?_; rintro e wP ⟨SP, rfl, hFP, -, hbP⟩)
      | (go_at_call 12; refine (HSm.out _ _ _ _ ?_ hsP (HMx.out _ (And.left (by assumption)))).mono ?_; (first | ((with_reducible refine HK1.out _ ?_); exact And.left (by assumption)) | ((with_reducible refine HK2.out _ _ ?_); first | exact hFP | exact hFP.up hbP)); rintro e wP ⟨rfl, hbP⟩)
      | fail)
  all_goals
    rename_i hHeld
    have hfin := bon HD1.out hHeld.1
    clear hHeld
    go_wp2
    go_ret
    exact ⟨by first | rfl | simp, hfin⟩
end Go.Proofs.YtdlihfbaepjliaaGreatDoor
