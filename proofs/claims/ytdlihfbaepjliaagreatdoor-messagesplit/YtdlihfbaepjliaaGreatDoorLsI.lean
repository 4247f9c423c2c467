/-
  The walk of the law MessageSplit.
-/
import Derived.Test.YtdlihfbaepjliaaGreatDoorLsD
import Derived.Test.YtdlihfbaepjliaaGreatDoorLa2
import Derived.Test.YtdlihfbaepjliaaGreatDoorMq
import Derived.Test.YtdlihfbaepjliaaGreatDoorRt
import Derived.Test.YtdlihfbaepjliaaGreatDoorPs
namespace Go.Proofs.YtdlihfbaepjliaaGreatDoor
open Go.RowKit
attribute [local go_sem ↓] exec_ldR exec_ldH exec_ldK exec_ldM exec_stR exec_stH exec_stK exec_stM exec_bdM exec_bsM
attribute [local go_sem] run_bdM run_bsM run_ldR run_ldH run_ldK run_ldM run_stR run_stH run_stK run_stM ldO_at stO_at rcs_size hcs_size kcs_size mca_size rcs_one hcs_one kcs_one mca_one rcs_oneN hcs_oneN kcs_oneN mca_oneN rcs_now rcs_ck mca_head hpat_drew hpat_new
attribute [local go_sem ↓] exec_stP exec_bdP
attribute [local go_sem] run_stP run_bdP pcs_size pcs_one pcs_oneN pcs_rd pcs_now pcs_ck pspl_now pspl_ck pspl_rd
attribute [local go_sem] zM_one zM_size
/-- the state of the loop -/
structure SpI (Wp wr : World) (g : Nat) (a : Bool) (p : Bs) (R : Rr) (S O : Sli) (ks : List MS7) : Prop where
  bx : Box wr g 32 (rcs R S)
  fs : Fs wr S (mkF R.now.fs)
  mo : Mo wr (g + 1) (fun k => k = g) O ks
  ap : Apt O S (mkF R.now.fs)
  hb : Below Wp.heap.size Wp wr
  eq : feedM (newR a [71, 69, 84]) [] p = (R, ks.map (·.1))
theorem Ms.row {w : World} {S : Sli} {ms : List MS7} {g : Nat} (h : Ms w S ms) (hO : ∀ ad, S.A = some ad → ad.block ≠ g) (ha : ∀ x ∈ ms, Away g x.2.A (mkF x.1.h.fs)) (cs : Array Value) : Ms (w.setRow g cs) S ms :=
  ⟨h.len, fun hx => by
    obtain ⟨b, o, hA, hb, hc⟩ := h.rd hx
    exact ⟨b, o, hA, by rw [row_size]; exact hb, fun j u hu => (cell_setRow_other w g cs ⟨b, o + j, none⟩ (hO ⟨b, o, none⟩ hA)).trans (hc j u hu)⟩, h.cap, h.le, fun x hx => Fs.row (h.fs x hx) (ha x hx) cs⟩
/-- a piece was fed -/
def CutF (R5 : Rr) (M5 : List Mg) (e : Int) (wr : World) (p17 v18 v19 : Value) (W : World) : Prop := ∃ (g7 : Nat) (S5 O5 : Sli) (ms5 : List MS7), p17 = .pointer (some ⟨g7, 0, none⟩) ∧ v18 = .slice O5.A O5.n O5.c ∧ v19 = .int .i64 e ∧ wr.heap.size ≤ g7 ∧ Box W g7 32 (rcs R5 S5) ∧ Fs W S5 (mkF R5.now.fs) ∧ Ms W O5 ms5 ∧ ms5.map (·.1) = M5 ∧ (∀ ad, O5.A = some ad → wr.heap.size ≤ ad.block) ∧ (∀ x ∈ ms5, ∀ k, k < wr.heap.size → Away k x.2.A (mkF x.1.h.fs)) ∧ (∀ k, k < wr.heap.size → Away k S5.A (mkF R5.now.fs)) ∧ Below wr.heap.size wr W
theorem cutF_a {R5 : Rr} {M5 : List Mg} {e : Int} {wr w6 : World} {S6 O6 : Sli} {ms6 : List MS7} (hF6 : Fs w6 S6 (mkF R5.now.fs)) (hL6 : Loc wr.drew none [] S6.A (mkF R5.now.fs)) (hM6 : Ms w6 O6 ms6) (hm6 : ms6.map (·.1) = M5) (hb6 : Below wr.drew.heap.size wr.drew w6) (hA6 : ∀ x ∈ ms6, ∀ k, k < wr.drew.heap.size → Away k x.2.A (mkF x.1.h.fs)) (hO6 : Fresh wr.drew O6) :
    CutF R5 M5 e wr (.pointer (some ⟨w6.heap.size, 0, none⟩)) (.slice O6.A O6.n O6.c) (.int .i64 e) ((w6.alloc (.cells #[.bool false, .string ⟨#[]⟩, .string ⟨#[]⟩, .int .i64 0, .int .i64 0, .string ⟨#[]⟩, .int .i64 0, .int .i64 0, .string ⟨#[]⟩, .int .i64 0, .string ⟨#[]⟩, .string ⟨#[]⟩, .int .i64 0, .string ⟨#[]⟩, .int .i64 0, .slice none 0 0, .int .i64 0] 32)).setRow w6.heap.size (rcs R5 S6)) := by
  have hbA : Below w6.heap.size w6 ((w6.alloc (.cells #[.bool false, .string ⟨#[]⟩, .string ⟨#[]⟩, .int .i64 0, .int .i64 0, .string ⟨#[]⟩, .int .i64 0, .int .i64 0, .string ⟨#[]⟩, .int .i64 0, .string ⟨#[]⟩, .string ⟨#[]⟩, .int .i64 0, .string ⟨#[]⟩, .int .i64 0, .slice none 0 0, .int .i64 0] 32)).setRow w6.heap.size (rcs R5 S6)) := below_row (ba1 w6 _) (Nat.le_refl _) _
  refine ⟨w6.heap.size, S6, O6, ms6, rfl, rfl, rfl, hb6.size, box_row _ (Box.new w6 32 #[.bool false, .string ⟨#[]⟩, .string ⟨#[]⟩, .int .i64 0, .int .i64 0, .string ⟨#[]⟩, .int .i64 0, .int .i64 0, .string ⟨#[]⟩, .int .i64 0, .string ⟨#[]⟩, .string ⟨#[]⟩, .int .i64 0, .string ⟨#[]⟩, .int .i64 0, .slice none 0 0, .int .i64 0]), hF6.up hbA, hM6.up hbA, hm6, hO6, hA6, (fun k hk hne ad hA => ?_), bon (bon ((Below.refl wr.heap.size wr).drew) hb6) hbA⟩
  rcases hL6 ad hA with h1 | ⟨h1, _⟩
  · have h2 : wr.heap.size ≤ ad.block := h1
    omega
  · cases h1
theorem cutF_b {R5 : Rr} {M5 : List Mg} {e : Int} {wr w6 : World} {S6 O6 : Sli} {ms6 : List MS7} (hF6 : Fs w6 S6 (mkF R5.now.fs)) (hL6 : Loc ((wr.alloc (.cells #[.bool false, .string ⟨#[]⟩, .string ⟨#[]⟩, .int .i64 0, .int .i64 0, .string ⟨#[]⟩, .int .i64 0, .int .i64 0, .string ⟨#[]⟩, .int .i64 0, .string ⟨#[]⟩, .string ⟨#[]⟩, .int .i64 0, .string ⟨#[]⟩, .int .i64 0, .slice none 0 0, .int .i64 0] 32)).drew) none [] S6.A (mkF R5.now.fs)) (hM6 : Ms w6 O6 ms6) (hm6 : ms6.map (·.1) = M5) (hb6 : Below ((wr.alloc (.cells #[.bool false, .string ⟨#[]⟩, .string ⟨#[]⟩, .int .i64 0, .int .i64 0, .string ⟨#[]⟩, .int .i64 0, .int .i64 0, .string ⟨#[]⟩, .int .i64 0, .string ⟨#[]⟩, .string ⟨#[]⟩, .int .i64 0, .string ⟨#[]⟩, .int .i64 0, .slice none 0 0, .int .i64 0] 32)).drew).heap.size ((wr.alloc (.cells #[.bool false, .string ⟨#[]⟩, .string ⟨#[]⟩, .int .i64 0, .int .i64 0, .string ⟨#[]⟩, .int .i64 0, .int .i64 0, .string ⟨#[]⟩, .int .i64 0, .string ⟨#[]⟩, .string ⟨#[]⟩, .int .i64 0, .string ⟨#[]⟩, .int .i64 0, .slice none 0 0, .int .i64 0] 32)).drew) w6) (hA6 : ∀ x ∈ ms6, ∀ k, k < ((wr.alloc (.cells #[.bool false, .string ⟨#[]⟩, .string ⟨#[]⟩, .int .i64 0, .int .i64 0, .string ⟨#[]⟩, .int .i64 0, .int .i64 0, .string ⟨#[]⟩, .int .i64 0, .string ⟨#[]⟩, .string ⟨#[]⟩, .int .i64 0, .string ⟨#[]⟩, .int .i64 0, .slice none 0 0, .int .i64 0] 32)).drew).heap.size → Away k x.2.A (mkF x.1.h.fs)) (hO6 : Fresh ((wr.alloc (.cells #[.bool false, .string ⟨#[]⟩, .string ⟨#[]⟩, .int .i64 0, .int .i64 0, .string ⟨#[]⟩, .int .i64 0, .int .i64 0, .string ⟨#[]⟩, .int .i64 0, .string ⟨#[]⟩, .string ⟨#[]⟩, .int .i64 0, .string ⟨#[]⟩, .int .i64 0, .slice none 0 0, .int .i64 0] 32)).drew) O6) :
    CutF R5 M5 e wr (.pointer (some ⟨wr.heap.size, 0, none⟩)) (.slice O6.A O6.n O6.c) (.int .i64 e) (w6.setRow wr.heap.size (rcs R5 S6)) := by
  have hsz : ((wr.alloc (.cells #[.bool false, .string ⟨#[]⟩, .string ⟨#[]⟩, .int .i64 0, .int .i64 0, .string ⟨#[]⟩, .int .i64 0, .int .i64 0, .string ⟨#[]⟩, .int .i64 0, .string ⟨#[]⟩, .string ⟨#[]⟩, .int .i64 0, .string ⟨#[]⟩, .int .i64 0, .slice none 0 0, .int .i64 0] 32)).drew).heap.size = wr.heap.size + 1 := by
    show (wr.alloc (.cells #[.bool false, .string ⟨#[]⟩, .string ⟨#[]⟩, .int .i64 0, .int .i64 0, .string ⟨#[]⟩, .int .i64 0, .int .i64 0, .string ⟨#[]⟩, .int .i64 0, .string ⟨#[]⟩, .string ⟨#[]⟩, .int .i64 0, .string ⟨#[]⟩, .int .i64 0, .slice none 0 0, .int .i64 0] 32)).heap.size = wr.heap.size + 1
    simp
  have hz : Box w6 wr.heap.size 32 #[.bool false, .string ⟨#[]⟩, .string ⟨#[]⟩, .int .i64 0, .int .i64 0, .string ⟨#[]⟩, .int .i64 0, .int .i64 0, .string ⟨#[]⟩, .int .i64 0, .string ⟨#[]⟩, .string ⟨#[]⟩, .int .i64 0, .string ⟨#[]⟩, .int .i64 0, .slice none 0 0, .int .i64 0] := (show Box ((wr.alloc (.cells #[.bool false, .string ⟨#[]⟩, .string ⟨#[]⟩, .int .i64 0, .int .i64 0, .string ⟨#[]⟩, .int .i64 0, .int .i64 0, .string ⟨#[]⟩, .int .i64 0, .string ⟨#[]⟩, .string ⟨#[]⟩, .int .i64 0, .string ⟨#[]⟩, .int .i64 0, .slice none 0 0, .int .i64 0] 32)).drew) wr.heap.size 32 #[.bool false, .string ⟨#[]⟩, .string ⟨#[]⟩, .int .i64 0, .int .i64 0, .string ⟨#[]⟩, .int .i64 0, .int .i64 0, .string ⟨#[]⟩, .int .i64 0, .string ⟨#[]⟩, .string ⟨#[]⟩, .int .i64 0, .string ⟨#[]⟩, .int .i64 0, .slice none 0 0, .int .i64 0] from Box.new wr 32 #[.bool false, .string ⟨#[]⟩, .string ⟨#[]⟩, .int .i64 0, .int .i64 0, .string ⟨#[]⟩, .int .i64 0, .int .i64 0, .string ⟨#[]⟩, .int .i64 0, .string ⟨#[]⟩, .string ⟨#[]⟩, .int .i64 0, .string ⟨#[]⟩, .int .i64 0, .slice none 0 0, .int .i64 0]).up hb6
  have hL : ∀ ad, S6.A = some ad → wr.heap.size + 1 ≤ ad.block := fun ad hA => by
    rcases hL6 ad hA with h1 | ⟨h1, _⟩
    · rw [hsz] at h1
      exact h1
    · cases h1
  have hO : ∀ ad, O6.A = some ad → wr.heap.size + 1 ≤ ad.block := fun ad hA => by
    have h1 := hO6 ad hA
    rw [hsz] at h1
    exact h1
  rw [hsz] at hA6
  refine ⟨wr.heap.size, S6, O6, ms6, rfl, rfl, rfl, Nat.le_refl _, box_row _ hz, Fs.row hF6 (fun _ ad hA => by have := hL ad hA; omega) _, Ms.row hM6 (fun ad hA => by have := hO ad hA; omega) (fun x hx => hA6 x hx _ (Nat.lt_succ_self _)) _, hm6, (fun ad hA => by have := hO ad hA; omega), (fun x hx k hk => hA6 x hx k (by omega)), (fun k hk hne ad hA => by have := hL ad hA; omega), below_row (bon ((ba1 wr (.cells #[.bool false, .string ⟨#[]⟩, .string ⟨#[]⟩, .int .i64 0, .int .i64 0, .string ⟨#[]⟩, .int .i64 0, .int .i64 0, .string ⟨#[]⟩, .int .i64 0, .string ⟨#[]⟩, .string ⟨#[]⟩, .int .i64 0, .string ⟨#[]⟩, .int .i64 0, .slice none 0 0, .int .i64 0] 32)).drew) hb6) (Nat.le_refl _) _⟩
set_option maxRecDepth 100000 in
set_option maxHeartbeats 8000000 in
theorem messageSplit_any (A : Option Addr) (L c : Nat) (ys : List UInt8) (A2 : Option Addr) (L2 c2 : Nat) (zs : List UInt8) (a : Bool) (w : World) (hl : ys.length = L) (hm : L ≤ maxLen) (hU : Us w w.heap.size A ys) (hl2 : zs.length = L2) (hm2 : L2 ≤ maxLen) (hU2 : Us w w.heap.size A2 zs) (hT : Tabs w) : Calls Tryz.prog 8 #[.slice A L c, .slice A2 L2 c2, .bool a] w (BoolEnds true w) := by
  have HTb := Lib.hid hT
  have HPc := Lib.hid (fun W (hW : Below w.heap.size w W) => pieces9_any A L c ys W hl hm (hU.up hW))
  have HU2 := Lib.hid hU2
  have HL2 := Lib.hid hl2
  have HN := Lib.hid (fun W => mnew_c a [71, 69, 84] W)
  unfold maxLen at hm2
  clear hT hl hm hU hU2 hl2
  obtain ⟨iM, hi, hz0, hz1, hz2⟩ := info_parts infoMz
  have HIM := Lib.hid (show Tryz.prog.info? 49 = some iM ∧ _ ∧ _ ∧ _ from ⟨hi, hz0, hz1, hz2⟩)
  clear hi hz0 hz1 hz2
  go_enter Tryz.func8, Tryz.ntmps8
  go_wp2_with fail
  refine (awake9_any w HTb.out).mono ?_
  rintro E w0 ⟨rfl, hd0⟩
  go_wp2_with fail
  refine (HPc.out _ hd0).mono ?_
  rintro E w1 ⟨s, rfl, hs, hc⟩
  replace hd0 := bon hd0 hc
  clear hc HPc
  go_wp2_with fail
  refine (HN.out _).mono ?_
  rintro E w2 ⟨rfl, hb1⟩
  have HFd0 := Lib.hid (pfeed9_f (newR a [71, 69, 84]) ⟨none, 0, 0⟩ s w2 (fs_zero _) (sm_new _ _) (by omega) (HTb.out.up (bon hd0 hb1)).mx)
  rw [read_e] at HFd0
  obtain ⟨R0, hR0⟩ : ∃ R0, (feedM (newR a [71, 69, 84]) [] s).1 = R0 := ⟨_, rfl⟩
  obtain ⟨M0, hM0⟩ : ∃ M0, (feedM (newR a [71, 69, 84]) [] s).2 = M0 := ⟨_, rfl⟩
  rw [hR0, hM0] at HFd0
  have HEQ : Hid (feedM (newR a [71, 69, 84]) [] s = (R0, M0)) := Lib.hid (Prod.ext hR0 hM0)
  clear hR0 hM0
  go_wp2_with fail
  refine HFd0.out.mono ?_
  rintro E w3 ⟨S0, O0, ms0, rfl, hF0, -, hMs0, hm0, hb2, -, -⟩
  simp only at hF0 hm0 ⊢
  have HM0 := Lib.hid hm0
  have hc := bon hb1 hb2
  clear hb1 hb2 hm0 HFd0
  go_upto_region 6 with fail
  have hbA : Below w3.heap.size w3 ((w3.alloc (.cells #[.bool false, .string ⟨#[]⟩, .string ⟨#[]⟩, .int .i64 0, .int .i64 0, .string ⟨#[]⟩, .int .i64 0, .int .i64 0, .string ⟨#[]⟩, .int .i64 0, .string ⟨#[]⟩, .string ⟨#[]⟩, .int .i64 0, .string ⟨#[]⟩, .int .i64 0, .slice none 0 0, .int .i64 0] 32)).setRow w3.heap.size (rcs R0 S0)) := below_row (ba1 w3 _) (Nat.le_refl _) _
  have b0 := box_row (rcs R0 S0) (Box.new w3 32 #[.bool false, .string ⟨#[]⟩, .string ⟨#[]⟩, .int .i64 0, .int .i64 0, .string ⟨#[]⟩, .int .i64 0, .int .i64 0, .string ⟨#[]⟩, .int .i64 0, .string ⟨#[]⟩, .string ⟨#[]⟩, .int .i64 0, .string ⟨#[]⟩, .int .i64 0, .slice none 0 0, .int .i64 0])
  have hu := bon hc hbA

  replace hF0 := hF0.up hbA
  replace hMs0 := hMs0.up hbA
  have hd1 := bon hd0 hu
  obtain ⟨g0, hg⟩ : ∃ k, w3.heap.size = k := ⟨_, rfl⟩
  rw [hg] at b0 hd1 hF0 hMs0 ⊢
  clear hg hu hbA hc
  generalize (w3.alloc (.cells #[.bool false, .string ⟨#[]⟩, .string ⟨#[]⟩, .int .i64 0, .int .i64 0, .string ⟨#[]⟩, .int .i64 0, .int .i64 0, .string ⟨#[]⟩, .int .i64 0, .string ⟨#[]⟩, .string ⟨#[]⟩, .int .i64 0, .string ⟨#[]⟩, .int .i64 0, .slice none 0 0, .int .i64 0] 32)).setRow g0 (rcs R0 S0) = W1 at *
  go_wp2_with fail
  refine (HN.out _).mono ?_
  rintro E w4 ⟨rfl, hc⟩
  replace b0 := b0.up hc
  replace hF0 := hF0.up hc
  replace hMs0 := hMs0.up hc
  replace hd1 := bon hd1 hc
  clear hc HN
  have HB0 := Lib.hid b0
  have HF0 := Lib.hid hF0
  have HMs0 := Lib.hid hMs0
  have HD4 := Lib.hid hd1
  clear b0 hF0 hMs0 hd1 hd0
  go_upto_region 7 with fail
  have hbA : Below w4.heap.size w4 ((w4.alloc (.cells #[.bool false, .string ⟨#[]⟩, .string ⟨#[]⟩, .int .i64 0, .int .i64 0, .string ⟨#[]⟩, .int .i64 0, .int .i64 0, .string ⟨#[]⟩, .int .i64 0, .string ⟨#[]⟩, .string ⟨#[]⟩, .int .i64 0, .string ⟨#[]⟩, .int .i64 0, .slice none 0 0, .int .i64 0] 32)).setRow w4.heap.size (rcs (newR a [71, 69, 84]) ⟨none, 0, 0⟩)) := below_row (ba1 w4 _) (Nat.le_refl _) _
  have b1 := box_row (rcs (newR a [71, 69, 84]) ⟨none, 0, 0⟩) (Box.new w4 32 #[.bool false, .string ⟨#[]⟩, .string ⟨#[]⟩, .int .i64 0, .int .i64 0, .string ⟨#[]⟩, .int .i64 0, .int .i64 0, .string ⟨#[]⟩, .int .i64 0, .string ⟨#[]⟩, .string ⟨#[]⟩, .int .i64 0, .string ⟨#[]⟩, .int .i64 0, .slice none 0 0, .int .i64 0])
  have HG4 : Hid (∀ W, Below w4.heap.size w4 W → w4.heap.size ≤ W.heap.size) := Lib.hid (fun W h => h.size)
  obtain ⟨g, hg⟩ : ∃ k, w4.heap.size = k := ⟨_, rfl⟩
  have HGg := Lib.hid hg
  have hI : SpI w4 ((w4.alloc (.cells #[.bool false, .string ⟨#[]⟩, .string ⟨#[]⟩, .int .i64 0, .int .i64 0, .string ⟨#[]⟩, .int .i64 0, .int .i64 0, .string ⟨#[]⟩, .int .i64 0, .string ⟨#[]⟩, .string ⟨#[]⟩, .int .i64 0, .string ⟨#[]⟩, .int .i64 0, .slice none 0 0, .int .i64 0] 32)).setRow w4.heap.size (rcs (newR a [71, 69, 84]) ⟨none, 0, 0⟩)) w4.heap.size a [] (newR a [71, 69, 84]) ⟨none, 0, 0⟩ ⟨none, 0, 0⟩ [] := ⟨b1, fs_zero _, Mo.nil _ _ _, (fun _ _ _ _ h => by cases h), hbA, rfl⟩
  rw [hg] at hI ⊢
  clear hg b1 hbA HG4
  generalize (w4.alloc (.cells #[.bool false, .string ⟨#[]⟩, .string ⟨#[]⟩, .int .i64 0, .int .i64 0, .string ⟨#[]⟩, .int .i64 0, .int .i64 0, .string ⟨#[]⟩, .int .i64 0, .string ⟨#[]⟩, .string ⟨#[]⟩, .int .i64 0, .string ⟨#[]⟩, .int .i64 0, .slice none 0 0, .int .i64 0] 32)).setRow g (rcs (newR a [71, 69, 84]) ⟨none, 0, 0⟩) = W5 at *
  go_wp2_with fail
  go_loopw [15, 8, 13, 14] (fun i v k f wr => ∃ (j : Nat) (p u : Bs) (R : Rr) (S O : Sli) (ks : List MS7), j ≤ 1000 ∧ i = .int .i64 (j : Int) ∧ v = .string (tb u) ∧ k = .slice O.A O.n O.c ∧ f = .int .i64 R.e ∧ Hid (s = p ++ u) ∧ Hid (SpI w4 wr g a p R S O ks)) (fun i _ _ _ _ => 1000 - (intOf i).toNat)
  case atStart => exact ⟨0, [], s, newR a [71, 69, 84], ⟨none, 0, 0⟩, ⟨none, 0, 0⟩, [], by omega, rfl, rfl, rfl, rfl, Lib.hid rfl, Lib.hid hI⟩
  case round =>
    clear hI
    obtain ⟨j, p, u, R, S, O, ks, hj, rfl, rfl, rfl, rfl, HE, HI⟩ := hrel
    have hul : u.length ≤ 448 := by
      have h1 := congrArg List.length HE.out
      rw [List.length_append] at h1
      omega
    have hpl : p.length ≤ 448 := by
      have h1 := congrArg List.length HE.out
      rw [List.length_append] at h1
      omega
    have zs1 : (tb u).size = u.length := tb_size u
    by_cases hu : u = []
    case pos =>
      have hem := tb_em hu
      have hps : p = s := by rw [HE.out, hu, List.append_nil]
      have HRR : Hid (R = R0 ∧ ks.map (·.1) = M0) := Lib.hid (by
        have h1 := HI.out.eq
        rw [hps, HEQ.out] at h1
        exact ⟨(Prod.mk.inj h1).1.symm, (Prod.mk.inj h1).2.symm⟩)
      obtain rfl : R = R0 := HRR.out.1
      have hp0 : hpat wr g0 = some (.cells (rcs R S0) 32 (0, 0)) := HB0.out.up HI.out.hb
      have hp1 : hpat wr g = some (.cells (rcs R S) 32 (0, 0)) := HI.out.bx
      have HSr := Lib.hid (rsameR_c R S0 S wr (HF0.out.up HI.out.hb) HI.out.fs)
      have HSm := Lib.hid (fun W (h : Below wr.heap.size wr W) => rsameM_c O0 O ms0 ks W ((HMs0.out.up HI.out.hb).up h) (HI.out.mo.ms.up h) (by rw [HM0.out, HRR.out.2]))
      have HDr := Lib.hid (bon HD4.out HI.out.hb)
      clear hu hps HRR hul hpl zs1
      go_wp2_with fail
      refine HSr.out.mono ?_
      rintro E w6 ⟨rfl, hb6⟩
      clear hp0 hp1
      go_wp2_with fail
      refine (HSm.out _ hb6).mono ?_
      rintro E w7 ⟨rfl, hb7⟩
      go_wp2
      go_ret
      exact ⟨by first | rfl | simp, bon HDr.out (bon hb6 hb7)⟩
    case neg =>
      have hne := tb_ne hu
      by_cases hj1 : j < 1000
      case neg =>
        have hji : ¬ (j : Int) < 1000 := by omega
        have HDr := Lib.hid (bon HD4.out HI.out.hb)
        go_wp2
        go_ret
        exact ⟨by first | rfl | simp, HDr.out⟩
      case pos =>
        have hji : (j : Int) < 1000 := by omega
        go_upto_if 48 with fail
        go_cut [16] (fun n W => ∃ m : Nat, m ≤ u.length ∧ n = .int .i64 (m : Int) ∧ wr = W)
        case first =>
          by_cases hjl : j < L2
          · have x1i : (j : Int) < (L2 : Int) := by omega
            have x0i : (0 : Int) ≤ (j : Int) := by omega
            obtain ⟨bb, oo, hA, hbb, hcc⟩ := (HU2.out.up (bon HD4.out HI.out.hb)) (by rw [HL2.out]; omega)
            have cj := hcc j (by rw [HL2.out]; omega)
            clear hcc
            obtain ⟨y, hy⟩ : ∃ y, zs[j]?.getD 0 = y := ⟨_, rfl⟩
            rw [hy] at cj
            have hyb := y.toNat_lt
            clear hy
            obtain ⟨v, hv⟩ : ∃ v, y.toNat = v := ⟨_, rfl⟩
            rw [hv] at cj hyb
            clear hv
            subst hA
            obtain ⟨r, hr⟩ : ∃ r, v % 20 = r := ⟨_, rfl⟩
            have hr8 : r < 20 := by omega
            have t1 : IntKind.i64.wrap (v : Int) = (v : Int) := IntWalk.i64_in _ (by omega)
            have t2 : (v : Int).tmod 20 = (r : Int) := by rw [Int.tmod_eq_emod_of_nonneg (by omega), ← hr]; simp
            have t3 : (v : Int) % 20 = (r : Int) := by rw [← hr]; simp
            have t4 : IntKind.i64.wrap (r : Int) = (r : Int) := IntWalk.i64_in _ (by omega)
            clear hr
            by_cases hmin : u.length ≤ r
            · have tm : min (u.length : Int) (r : Int) = (u.length : Int) := by omega
              clear hr8 hmin
              go_wp2
              go_meet
              exact ⟨u.length, Nat.le_refl _, rfl, rfl⟩
            · have tm : min (u.length : Int) (r : Int) = (r : Int) := by omega
              have hrl : r ≤ u.length := by omega
              clear hr8 hmin
              go_wp2
              go_meet
              exact ⟨r, hrl, rfl, rfl⟩
          · have x1i : ¬ (j : Int) < (L2 : Int) := by omega
            go_wp2
            go_meet
            exact ⟨u.length, Nat.le_refl _, rfl, rfl⟩
        case rest =>
          obtain ⟨m, hmu, rfl, hwc⟩ := hcut
          subst hwc
          have hok : okR R := by
            have := read_okM a [71, 69, 84] p
            rw [HI.out.eq] at this
            exact this
          have HMr := Lib.hid (feed_more (newR a [71, 69, 84]) p (u.take m))
          rw [HI.out.eq] at HMr
          have HPl : Hid (ks.length ≤ 448) := Lib.hid (by
            have := feed_count p (newR a [71, 69, 84])
            rw [HI.out.eq, List.length_map] at this
            omega)
          have HYl : Hid ((feedM R [] (u.take m)).2.length ≤ 448) := Lib.hid (by
            have := feed_count (u.take m) R
            rw [List.length_take] at this
            omega)
          have HFd := Lib.hid (fun W (h : Below wr.heap.size wr W) => by
            have := pfeed9_f R S (u.take m) W (HI.out.fs.up h) (sm_of_ok hok) (by rw [List.length_take]; omega) (HTb.out.up (bon HD4.out (bon HI.out.hb h))).mx
            rw [read_piece hok] at this
            exact this)
          obtain ⟨R5, hR5⟩ : ∃ R5, (feedM R [] (u.take m)).1 = R5 := ⟨_, rfl⟩
          obtain ⟨M5, hM5⟩ : ∃ M5, (feedM R [] (u.take m)).2 = M5 := ⟨_, rfl⟩
          simp only [hR5, hM5] at HFd HMr HYl
          have hX : (tb u).extract 0 m = tb (u.take m) := by rw [tb_ext]; rfl
          have hX2 : (tb u).extract m u.length = tb (u.drop m) := by rw [tb_ext, List.take_of_length_le (Nat.le_refl _)]
          have m0 : (0 : Int) ≤ (m : Int) := by omega
          have m1 : (m : Int) ≤ (u.length : Int) := by omega
          have hpg : hpat wr g = some (.cells (rcs R S) 32 (0, 0)) := HI.out.bx
          clear hR5 hM5 hok hne hu
          go_upto_region 15 with fail
          go_cut [17, 18, 19] (CutF R5 M5 R5.e wr)
          case first =>
            have hpgA : ∀ o, hpat (wr.alloc o) g = some (.cells (rcs R S) 32 (0, 0)) := fun o => HI.out.bx.up (ba1 wr o)
            have hBd0 : Below wr.heap.size wr wr.drew := (Below.refl wr.heap.size wr).drew
            have hBd1 : Below wr.heap.size wr ((wr.alloc (.cells #[.bool false, .string ⟨#[]⟩, .string ⟨#[]⟩, .int .i64 0, .int .i64 0, .string ⟨#[]⟩, .int .i64 0, .int .i64 0, .string ⟨#[]⟩, .int .i64 0, .string ⟨#[]⟩, .string ⟨#[]⟩, .int .i64 0, .string ⟨#[]⟩, .int .i64 0, .slice none 0 0, .int .i64 0] 32)).drew) := (ba1 wr (.cells #[.bool false, .string ⟨#[]⟩, .string ⟨#[]⟩, .int .i64 0, .int .i64 0, .string ⟨#[]⟩, .int .i64 0, .int .i64 0, .string ⟨#[]⟩, .int .i64 0, .string ⟨#[]⟩, .string ⟨#[]⟩, .int .i64 0, .string ⟨#[]⟩, .int .i64 0, .slice none 0 0, .int .i64 0] 32)).drew
            have HzB : Hid (∀ w6, Below ((wr.alloc (.cells #[.bool false, .string ⟨#[]⟩, .string ⟨#[]⟩, .int .i64 0, .int .i64 0, .string ⟨#[]⟩, .int .i64 0, .int .i64 0, .string ⟨#[]⟩, .int .i64 0, .string ⟨#[]⟩, .string ⟨#[]⟩, .int .i64 0, .string ⟨#[]⟩, .int .i64 0, .slice none 0 0, .int .i64 0] 32)).drew).heap.size ((wr.alloc (.cells #[.bool false, .string ⟨#[]⟩, .string ⟨#[]⟩, .int .i64 0, .int .i64 0, .string ⟨#[]⟩, .int .i64 0, .int .i64 0, .string ⟨#[]⟩, .int .i64 0, .string ⟨#[]⟩, .string ⟨#[]⟩, .int .i64 0, .string ⟨#[]⟩, .int .i64 0, .slice none 0 0, .int .i64 0] 32)).drew) w6 → hpat w6 wr.heap.size = some (.cells #[.bool false, .string ⟨#[]⟩, .string ⟨#[]⟩, .int .i64 0, .int .i64 0, .string ⟨#[]⟩, .int .i64 0, .int .i64 0, .string ⟨#[]⟩, .int .i64 0, .string ⟨#[]⟩, .string ⟨#[]⟩, .int .i64 0, .string ⟨#[]⟩, .int .i64 0, .slice none 0 0, .int .i64 0] 32 (0, 0))) := Lib.hid (fun w6 h => (show Box ((wr.alloc (.cells #[.bool false, .string ⟨#[]⟩, .string ⟨#[]⟩, .int .i64 0, .int .i64 0, .string ⟨#[]⟩, .int .i64 0, .int .i64 0, .string ⟨#[]⟩, .int .i64 0, .string ⟨#[]⟩, .string ⟨#[]⟩, .int .i64 0, .string ⟨#[]⟩, .int .i64 0, .slice none 0 0, .int .i64 0] 32)).drew) wr.heap.size 32 #[.bool false, .string ⟨#[]⟩, .string ⟨#[]⟩, .int .i64 0, .int .i64 0, .string ⟨#[]⟩, .int .i64 0, .int .i64 0, .string ⟨#[]⟩, .int .i64 0, .string ⟨#[]⟩, .string ⟨#[]⟩, .int .i64 0, .string ⟨#[]⟩, .int .i64 0, .slice none 0 0, .int .i64 0] from Box.new wr 32 #[.bool false, .string ⟨#[]⟩, .string ⟨#[]⟩, .int .i64 0, .int .i64 0, .string ⟨#[]⟩, .int .i64 0, .int .i64 0, .string ⟨#[]⟩, .int .i64 0, .string ⟨#[]⟩, .string ⟨#[]⟩, .int .i64 0, .string ⟨#[]⟩, .int .i64 0, .slice none 0 0, .int .i64 0]).up h)
            go_region_law (first
              | (go_simp; go_at_call 19; refine (HFd.out _ ?_).mono ?_; (with_reducible first | exact hBd0 | exact hBd1); rintro E w6 ⟨S6, O6, ms6, rfl, hF6, hL6, hM6, hm6, hb6, hA6, hO6⟩; simp only at hF6 hm6 ⊢; (first | (have hz6 := HzB.out w6 (by with_reducible exact hb6); skip) | skip))
              | fail)
            all_goals
              (first | (have HC := Lib.hid (cutF_a (wr := wr) (e := R5.e) hF6 hL6 hM6 hm6 hb6 hA6 hO6); skip) | (have HC := Lib.hid (cutF_b (wr := wr) (e := R5.e) hF6 hL6 hM6 hm6 hb6 hA6 hO6); skip))
              clear hF6 hL6 hM6 hm6 hb6 hA6 hO6
              go_wp2_with fail
              go_meet
              exact HC.out
          case rest =>
            obtain ⟨g7, S6, O6, ms6, rfl, rfl, rfl, hg7, b7, hF6, hM6, hm6, hO6, hA6, hS6, hb6⟩ := hcut
            rename World => W6
            have h1 := HI.out
            have hgl : g < wr.heap.size := h1.bx.lt
            have hne7 : g ≠ g7 := by omega
            have hne8 : g7 ≠ g := by omega
            have hp7 : hpat W6 g7 = some (.cells (rcs R5 S6) 32 (0, 0)) := b7
            have bg := h1.bx.up hb6
            have hpg2 : hpat W6 g = some (.cells (rcs R S) 32 (0, 0)) := bg
            clear hpg
            go_upto_region 17 with fail
            have e1 := box_row (rcs R5 S6) bg
            have hF7 : Fs (W6.setRow g (rcs R5 S6)) S6 (mkF R5.now.fs) := Fs.row hF6 (hS6 g hgl) _
            have hMo7 := (h1.mo.up hb6).row_set bg (by decide) rfl (rcs R5 S6)
            have hAp6 : ∀ x ∈ ms6, Apt O x.2 (mkF x.1.h.fs) := fun x hx => h1.mo.apt (Nat.le_refl _) (hA6 x hx) x.2.n x.2.c
            have hAp5 : Apt O S6 (mkF R5.now.fs) := h1.mo.apt (Nat.le_refl _) hS6 S6.n S6.c
            have hMs7 : Ms (W6.setRow g (rcs R5 S6)) O6 ms6 := Ms.row hM6 (fun ad hA => by have := hO6 ad hA; omega) (fun x hx => hA6 x hx g hgl) _
            have hd7 : Below w4.heap.size w4 (W6.setRow g (rcs R5 S6)) := below_row (bon h1.hb hb6) (by have := HGg.out; omega) _
            have hsz7 : g + 1 ≤ (W6.setRow g (rcs R5 S6)).heap.size := by rw [row_size]; have := hb6.size; omega
            have hFe6 := hMs7.fs
            have hAg6 : ∀ x ∈ ms6, ∀ k, k = g → Away k x.2.A (mkF x.1.h.fs) := fun x hx k hk => by rw [hk]; exact hA6 x hx g hgl
            have hSrc := hMs7.src
            have hl6 : ms6.length = O6.n := hMs7.len
            have hlk : ks.length = O.n := hMo7.len
            have HNew : Hid ((newR a [71, 69, 84], p ++ u.take m).2 = p ++ u.take m) := Lib.hid rfl
            have HEq5 : Hid (feedM (newR a [71, 69, 84]) [] (p ++ u.take m) = (R5, (ks ++ ms6).map (·.1))) := Lib.hid (by rw [HMr.out, List.map_append, hm6])
            have hn6 : O6.n ≤ 448 := by
              have h2 := HYl.out
              rw [← hm6, List.length_map] at h2
              omega
            have hnk : O.n ≤ 448 := by have := HPl.out; omega
            obtain ⟨hi, hz0, hz1, hz2⟩ := HIM.out
            have HE5 : Hid (s = (p ++ u.take m) ++ u.drop m) := Lib.hid (by rw [HE.out, List.append_assoc, List.take_append_drop])
            have HS6 := Lib.hid hS6
            clear HMr HYl HPl hO6 hS6 hM6 hm6 bg b7 hF6 hb6 h1 hp7 hpg2 HFd hMs7 HE
            generalize W6.setRow g (rcs R5 S6) = W7 at *
            go_wp2_with (at_builtin; refine wpList_app _ rfl _ _ 44 rfl (g + 1) 49 iM _ 7 104 (by decide) Tryz.underlying44 hi hz0 hz1 hz2 rfl (.slice O.A O.n O.c) O.n (mvs ks) rfl hMo7.row O6.A O6.n O6.c (mvs ms6) rfl hSrc (mvs_one _) ?_ ?_ hsz7 (O.n + O6.n) rfl ?_; (unfold maxLen; omega); omega; intro A' c' w8 q1 q2 q3; refine Hid.out ?_)
            have hMo8 := mo_apps hMo7 q1 q2 q3 hFe6 hAg6 hAp6
            have e8 : Box w8 g 32 (rcs R5 S6) := (grown_other hMo7.row q2 e1 (by decide)).trans e1
            have hF8 : Fs w8 S6 (mkF R5.now.fs) := hF7.grown q2 hAp5
            have hd8 : Below w4.heap.size w4 w8 := grown_base hMo7.row q2 hd7 (by have := HGg.out; omega) (by have := HGg.out; omega)
            have hAp8 : Apt ⟨A', O.n + O6.n, c'⟩ S6 (mkF R5.now.fs) := fun hne2 ad o hA hO => by
              simp only at hO
              rw [own_of, own_of] at q3
              rw [hO] at q3
              rcases q3 with q3 | q3
              · cases hOA : O.A with
                | none => rw [hOA] at q3; cases q3
                | some z =>
                  rw [hOA] at q3
                  have e : o.block = z.block := Option.some.inj q3
                  rw [e]
                  exact hAp5 hne2 ad z hA hOA
              · have e : o.block = W7.heap.size := Option.some.inj q3
                have := hF7.lt hne2 hA
                omega
            have HI8 : Hid (SpI w4 w8 g a (p ++ u.take m) R5 S6 ⟨A', O.n + O6.n, c'⟩ (ks ++ ms6)) := Lib.hid ⟨e8, hF8, hMo8, hAp8, hd8, HEq5.out⟩
            refine Lib.hid ?_
            clear hMo8 e8 hF8 hd8 hAp8 q1 q2 q3 hMo7 e1 hF7 hd7 hAp5 hAp6 hFe6 hAg6 hSrc hi hz0 hz1 hz2 HEq5 HNew HS6 HI
            have hji2 : IntKind.i64.wrap ((j : Int) + 1) = (j : Int) + 1 := IntWalk.i64_in _ (by omega)
            go_wp2
            go_roundw
            case rel => exact ⟨j + 1, p ++ u.take m, u.drop m, R5, S6, ⟨A', O.n + O6.n, c'⟩, ks ++ ms6, by omega, by go_num, rfl, by first | rfl | go_num, rfl, HE5, HI8⟩
            case measure => simp [intOf]; omega
end Go.Proofs.YtdlihfbaepjliaaGreatDoor
