/-
  The walks of message's own readHead and read.
-/
import Derived.Test.YtdlihfbaepjliaaGreatDoorJPp
import Derived.Test.YtdlihfbaepjliaaGreatDoorJCkL
import Derived.Test.YtdlihfbaepjliaaGreatDoorJHdC
namespace Go.Proofs.YtdlihfbaepjliaaGreatDoor
open Go.RowKit
attribute [local go_sem ↓] exec_ldR exec_ldH exec_ldK exec_ldM exec_stR exec_stH exec_stK exec_stM exec_bdM exec_bsM
attribute [local go_sem] run_bdM run_bsM run_ldR run_ldH run_ldK run_ldM run_stR run_stH run_stK run_stM ldO_at stO_at rcs_size hcs_size kcs_size mca_size rcs_one hcs_one kcs_one mca_one rcs_oneN hcs_oneN kcs_oneN mca_oneN rcs_now rcs_ck mca_head hpat_drew hpat_new
attribute [local go_sem ↓] exec_stP exec_bdP
attribute [local go_sem] run_stP run_bdP pcs_size pcs_one pcs_oneN pcs_rd pcs_now pcs_ck pspl_now pspl_ck pspl_rd

theorem suf_ends (l : Bs) : Lib.hasSuffix l [13, 10, 13, 10] = ends4 l := by
  unfold Lib.hasSuffix ends4
  rw [Bool.eq_iff_iff, List.isSuffixOf_iff_suffix, Bool.and_eq_true, decide_eq_true_eq, decide_eq_true_eq]
  constructor
  · rintro ⟨t, rfl⟩
    simp
  · rintro ⟨h1, h2⟩
    exact ⟨l.take (l.length - 4), by rw [← h2, List.take_append_drop]⟩
theorem suf_trim {l : Bs} (h : ends4 l = true) : Lib.trimSuffix l [13, 10, 13, 10] = l.take (l.length - 4) := by
  rw [← suf_ends] at h
  unfold Lib.trimSuffix
  simp [h]
theorem pcut_c (l : Bs) (hl : l.length ≤ 4096) (w : World) : Calls Tryz.prog 86 #[.string (tb l), .string ⟨#[13, 10, 13, 10]⟩] w (fun E w' => E = .returned (.tuple #[.string (tb (Lib.trimSuffix l [13, 10, 13, 10])), .bool (ends4 l)]) ∧ w = w') := by
  have := sh_CutSuffix (tb l) ⟨#[13, 10, 13, 10]⟩ w (by rw [tb_size]; omega)
  rw [show (tb l).data.toList = l from dl_tb l] at this
  exact this.mono fun _ _ h => ⟨by rw [h.1, ← suf_ends]; rfl, h.2.symm⟩
set_option maxRecDepth 100000 in
set_option maxHeartbeats 2000000 in
theorem phead_c (R : Rr) (S O : Sli) (ch : UInt8) (g : Nat) (w : World) (h : PS w g R S O) (hh : R.hd.length ≤ 4000) : Calls Tryz.prog 63 #[.pointer (some ⟨g, 0, none⟩), .string (tb [ch])] w (IEnds g O S.A (mkF R.now.fs) (if ends4 (R.hd ++ [ch]) = true then framedR { R with hd := R.hd ++ [ch] } else if 2004 ≤ R.hd.length + 1 then failR R 2 else { R with hd := R.hd ++ [ch] }) w) := by
  obtain ⟨R', hR⟩ : ∃ R' : Rr, (if ends4 (R.hd ++ [ch]) = true then framedR { R with hd := R.hd ++ [ch] } else if 2004 ≤ R.hd.length + 1 then failR R 2 else { R with hd := R.hd ++ [ch] }) = R' := ⟨_, rfl⟩
  rw [hR]
  have c2 : w.cell? ⟨g, 2, none⟩ = some (.string (tb R.hd)) := h.bx.c 2 rfl
  have d2 := h.bx.f 2
  have hxs : (tb [ch]).size = 1 := by rw [tb_size]; rfl
  have kadd := fun W => run_string_add_sum (P := Tryz.prog) W (tb R.hd) (tb [ch]) (by rw [tb_size, hxs]; omega)
  clear hxs
  go_enter Tryz.func63, Tryz.ntmps63
  go_upto_region 1 with fail
  have hL : (R.hd ++ [ch]).length = R.hd.length + 1 := by simp
  have e1 : w.setCell ⟨g, 2, none⟩ (.string (tb R.hd ++ tb [ch])) = w.setRow g (pcs { R with hd := R.hd ++ [ch] } S O) := by rw [tb_app]; exact pset_hd h.bx _
  rw [e1]
  have h1 := h.row0 (R' := { R with hd := R.hd ++ [ch] }) rfl
  have hB := but_row (But.refl g w) (pcs { R with hd := R.hd ++ [ch] } S O)
  obtain ⟨L, hLe⟩ : ∃ L, R.hd ++ [ch] = L := ⟨_, rfl⟩
  rw [hLe] at h1 hB hL hR
  rw [hLe]
  obtain ⟨R1, hR1⟩ : ∃ R1 : Rr, { R with hd := L } = R1 := ⟨_, rfl⟩
  have HN1 : Hid (R1.now = R.now) := Lib.hid (by rw [← hR1])
  have HF1 : Hid (failR R1 2 = failR R 2) := Lib.hid (by rw [← hR1]; rfl)
  have HH1 : Hid (R1.hd = L) := Lib.hid (by rw [← hR1])
  rw [hR1] at h1 hB hR
  rw [hR1]
  have HR := Lib.hid hR
  have HLs := Lib.hid hL
  clear hLe hR1 hR e1 c2 d2 kadd h hL
  generalize w.setRow g (pcs R1 S O) = W1 at *
  have c2 : W1.cell? ⟨g, 2, none⟩ = some (.string (tb L)) := HH1.out ▸ h1.bx.c 2 rfl
  have HC := Lib.hid (pcut_c L (by have := HLs.out; omega) W1)
  go_wp2_with fail
  refine HC.out.mono ?_
  rintro E w2 ⟨rfl, rfl⟩
  clear HC
  cases hbe : ends4 L with
  | true =>
    have HV : Hid (R' = beginR R1 (L.take (L.length - 4))) := Lib.hid (by rw [← HR.out, if_pos hbe, beginR_eq, HH1.out])
    rw [suf_trim hbe]
    clear hbe HR c2
    have hb : (L.take (L.length - 4)).length ≤ 4096 := by rw [List.length_take]; have := HLs.out; omega
    go_wp2_with fail
    refine (pbegin_c R1 S O (L.take (L.length - 4)) g W1 h1 hb).mono ?_
    rintro E w3 ⟨rfl, S3, h3, hB3, hL3⟩
    clear hb
    go_wp2
    refine ⟨rfl, .tuple #[], end_unit rfl, ?_⟩
    rw [HV.out]
    exact IEnds.row h3 (hB.on hB3) (by rw [← HN1.out]; exact loc_up hL3 hB.size)
  | false =>
    have hsz : (tb L).size = R.hd.length + 1 := by rw [tb_size]; exact HLs.out
    by_cases hbig : 2004 ≤ R.hd.length + 1
    · have HV : Hid (R' = failR R1 2) := Lib.hid (by rw [← HR.out, hbe, if_neg (by decide), if_pos hbig, HF1.out])
      have hbj : (2003 : Int) < ((tb L).size : Int) := by rw [hsz]; omega
      clear hsz hbe HR
      go_wp2_with fail
      refine (pfail_c R1 S O 2 S.A (mkF R.now.fs) g W1 h1).mono ?_
      rintro E w3 ⟨rfl, S3, h3, hB3, hL3⟩
      go_wp2
      refine ⟨rfl, .tuple #[], end_unit rfl, ?_⟩
      rw [HV.out]
      exact IEnds.row h3 (hB.on hB3) (loc_up hL3 hB.size)
    · have HV : Hid (R' = R1) := Lib.hid (by rw [← HR.out, hbe, if_neg (by decide), if_neg hbig])
      have hbj : ¬ (2003 : Int) < ((tb L).size : Int) := by rw [hsz]; omega
      clear hsz hbe HR
      go_wp2
      refine ⟨rfl, .tuple #[], end_unit rfl, ?_⟩
      rw [HV.out]
      exact IEnds.row h1 hB (by rw [HN1.out]; exact loc_same _ _ _)
end Go.Proofs.YtdlihfbaepjliaaGreatDoor

/-
  The walks of message's own rightPart, zeroHead, bodiless, rightFrame and Right.
-/
namespace Go.Proofs.YtdlihfbaepjliaaGreatDoor
open Go.RowKit
theorem tb_ne {l : Bs} (h : l ≠ []) : (tb l).toList.isEmpty = false := by
  rw [isEmp, tb_size]
  exact decide_eq_false (fun h2 => h (List.eq_nil_of_length_eq_zero h2))
theorem tb_em {l : Bs} (h : l = []) : (tb l).toList.isEmpty = true := by
  rw [isEmp, tb_size, h]
  rfl
/-- are the chunks zero? -/
def ckB (c : Ck) : Bool := decide (ckZ c)
theorem ckB_iff (c : Ck) : ckB c = true ↔ ckZ c := decide_eq_true_iff
theorem eqK (c : Ck) (w : World) : (binOp .eql 26 (.agg (kcs c)) (.agg #[.int .i64 0, .int .i64 0, .string ⟨#[]⟩, .int .i64 0])).run Tryz.prog w = .ok (.bool (ckB c)) w := by
  have tb_toL : ((tb c.ln).toList = []) ↔ c.ln = [] := by
    have := isEmp (s := tb c.ln)
    rw [tb_size] at this
    rw [← List.isEmpty_iff, this, decide_eq_true_eq, List.length_eq_zero_iff]
  unfold kcs ckB ckZ
  go_simp
  by_cases h1 : c.s = 0 <;> by_cases h2 : c.l = 0 <;> by_cases h3 : c.ln = [] <;> by_cases h5 : c.m = 0 <;> simp [h1, h2, h3, h5]
def eqS (p q : Operand) (x y : Value) : Sem Next := do pure (.value (← (do eqGuard .eql 26 p q x y; binOp .eql 26 x y)))
theorem exec_eqK (ρ : Operand → Value) (dst : Option Tmp) (x y : Operand) (u ty : TypeId) (pos : String) (after : Array Edge) (guard : Option (Nat × Bool)) :
    execOp ρ { dst, op := .binOp .eql 26 x y u, type := ty, pos, after, guard } = eqS x y (ρ x) (ρ y) := by rfl
theorem run_eqK (p q : Operand) (c : Ck) (w : World) : (eqS p q (.agg (kcs c)) (.agg #[.int .i64 0, .int .i64 0, .string ⟨#[]⟩, .int .i64 0])).run Tryz.prog w = .ok (.value (.bool (ckB c))) w := by
  have h : (eqGuard .eql 26 p q (.agg (kcs c)) (.agg #[.int .i64 0, .int .i64 0, .string ⟨#[]⟩, .int .i64 0])).run Tryz.prog w = .ok () w := by kernel_rfl
  simp only [eqS, Sem.run_bind, h, eqK, Result.andThen_ok, Sem.run_pure]
attribute [local go_sem ↓] exec_ldR exec_ldH exec_ldK exec_ldM exec_stR exec_stH exec_stK exec_stM exec_bdM exec_bsM
attribute [local go_sem] run_bdM run_bsM run_ldR run_ldH run_ldK run_ldM run_stR run_stH run_stK run_stM ldO_at stO_at rcs_size hcs_size kcs_size mca_size rcs_one hcs_one kcs_one mca_one rcs_oneN hcs_oneN kcs_oneN mca_oneN rcs_now rcs_ck mca_head hpat_drew hpat_new
attribute [local go_sem ↓] exec_stP exec_bdP
attribute [local go_sem] run_stP run_bdP pcs_size pcs_one pcs_oneN pcs_rd pcs_now pcs_ck pspl_now pspl_ck pspl_rd
attribute [local go_sem ↓] exec_eqK
attribute [local go_sem] run_eqK
set_option maxRecDepth 100000 in
set_option maxHeartbeats 2000000 in
theorem pzero_c (H : Hd) (S : Sli) (w : World) (hF : Fs w S (mkF H.fs)) : Calls Tryz.prog 67 #[.agg (hcs H S)] w (BoolEnds (decide (hdZ H)) w) := by
  obtain ⟨B, hB⟩ : ∃ B, decide (hdZ H) = B := ⟨_, rfl⟩
  rw [hB]
  have HB : Hid (B = decide (hdZ H)) := Lib.hid hB.symm
  clear hB
  have hb0 := ba1 w (.cells (hcs H S) 29)
  have bv := Box.new w 29 (hcs H S)
  have hln : S.n = H.fs.length := by have := hF.len; rw [show (mkF H.fs).length = H.fs.length from List.length_map _] at this; exact this.symm
  have HLn := Lib.hid hln
  clear hln hF
  have c0 : (w.alloc (.cells (hcs H S) 29)).cell? ⟨w.heap.size, 0, none⟩ = some (.string (tb H.m)) := bv.c 0 rfl
  have c1 : (w.alloc (.cells (hcs H S) 29)).cell? ⟨w.heap.size, 1, none⟩ = some (.string (tb H.t)) := bv.c 1 rfl
  have c2 : (w.alloc (.cells (hcs H S) 29)).cell? ⟨w.heap.size, 2, none⟩ = some (.int .i64 H.st) := bv.c 2 rfl
  have c3 : (w.alloc (.cells (hcs H S) 29)).cell? ⟨w.heap.size, 3, none⟩ = some (.string (tb H.r)) := bv.c 3 rfl
  have c4 : (w.alloc (.cells (hcs H S) 29)).cell? ⟨w.heap.size, 4, none⟩ = some (.int .i64 H.mi) := bv.c 4 rfl
  have c5 : (w.alloc (.cells (hcs H S) 29)).cell? ⟨w.heap.size, 5, none⟩ = some (.slice S.A S.n S.c) := bv.c 5 rfl
  clear bv
  by_cases h_m : H.m = []
  case neg =>
    have g_m : (tb H.m).toList.isEmpty = false := tb_ne h_m
    have HV : Hid (B = false) := Lib.hid (by rw [HB.out]; exact decide_eq_false (fun h => h_m h.1))
    clear h_m HB
    go_enter Tryz.func67, Tryz.ntmps67
    go_wp2
    go_ret
    exact ⟨ret_bool HV.out.symm, hb0⟩
  case pos =>
    have g_m : (tb H.m).toList.isEmpty = true := tb_em h_m
    have H_m := Lib.hid h_m
    clear h_m
    by_cases h_t : H.t = []
    case neg =>
      have g_t : (tb H.t).toList.isEmpty = false := tb_ne h_t
      have HV : Hid (B = false) := Lib.hid (by rw [HB.out]; exact decide_eq_false (fun h => h_t h.2.1))
      clear h_t HB
      go_enter Tryz.func67, Tryz.ntmps67
      go_wp2
      go_ret
      exact ⟨ret_bool HV.out.symm, hb0⟩
    case pos =>
      have g_t : (tb H.t).toList.isEmpty = true := tb_em h_t
      have H_t := Lib.hid h_t
      clear h_t
      by_cases h_st : H.st = 0
      case neg =>
        have g_st : (H.st == 0) = false := beq_eq_false_iff_ne.2 h_st
        have HV : Hid (B = false) := Lib.hid (by rw [HB.out]; exact decide_eq_false (fun h => h_st h.2.2.1))
        clear h_st HB
        go_enter Tryz.func67, Tryz.ntmps67
        go_wp2
        go_ret
        exact ⟨ret_bool HV.out.symm, hb0⟩
      case pos =>
        have g_st : (H.st == 0) = true := beq_iff_eq.2 h_st
        have H_st := Lib.hid h_st
        clear h_st
        by_cases h_r : H.r = []
        case neg =>
          have g_r : (tb H.r).toList.isEmpty = false := tb_ne h_r
          have HV : Hid (B = false) := Lib.hid (by rw [HB.out]; exact decide_eq_false (fun h => h_r h.2.2.2.1))
          clear h_r HB
          go_enter Tryz.func67, Tryz.ntmps67
          go_wp2
          go_ret
          exact ⟨ret_bool HV.out.symm, hb0⟩
        case pos =>
          have g_r : (tb H.r).toList.isEmpty = true := tb_em h_r
          have H_r := Lib.hid h_r
          clear h_r
          by_cases h_mi : H.mi = 0
          case neg =>
            have g_mi : (H.mi == 0) = false := beq_eq_false_iff_ne.2 h_mi
            have HV : Hid (B = false) := Lib.hid (by rw [HB.out]; exact decide_eq_false (fun h => h_mi h.2.2.2.2.1))
            clear h_mi HB
            go_enter Tryz.func67, Tryz.ntmps67
            go_wp2
            go_ret
            exact ⟨ret_bool HV.out.symm, hb0⟩
          case pos =>
            have g_mi : (H.mi == 0) = true := beq_iff_eq.2 h_mi
            have H_mi := Lib.hid h_mi
            clear h_mi
            by_cases h_fs : H.fs = []
            case neg =>
              have g_fs : ((S.n : Int) == 0) = false := beq_eq_false_iff_ne.2 (by rw [HLn.out]; intro h; exact h_fs (List.eq_nil_of_length_eq_zero (by omega)))
              have HV : Hid (B = false) := Lib.hid (by rw [HB.out]; exact decide_eq_false (fun h => h_fs h.2.2.2.2.2))
              clear h_fs HB
              go_enter Tryz.func67, Tryz.ntmps67
              go_wp2
              go_ret
              exact ⟨ret_bool HV.out.symm, hb0⟩
            case pos =>
              have g_fs : ((S.n : Int) == 0) = true := beq_iff_eq.2 (by rw [HLn.out, h_fs]; rfl)
              have H_fs := Lib.hid h_fs
              clear h_fs
              have HV : Hid (B = true) := Lib.hid (by rw [HB.out]; exact decide_eq_true ⟨H_m.out, H_t.out, H_st.out, H_r.out, H_mi.out, H_fs.out⟩)
              clear HB
              go_enter Tryz.func67, Tryz.ntmps67
              go_wp2
              go_ret
              exact ⟨ret_bool HV.out.symm, hb0⟩

def okF (r : Rr) : Prop := if r.k = 2 then (r.b.length : Int) < r.z ∧ r.z ≤ 4000 ∧ ckZ r.ck
     else if r.k = 3 then r.z = 0 ∧ okC r.ck ∧ r.ck.s ≠ 4 ∧ r.ck.m = (r.b.length : Int)
     else if r.k = 4 then r.a = true ∧ r.z = 0 ∧ ckZ r.ck else False
instance (r : Rr) : Decidable (okF r) := by
  unfold okF
  repeat' split
  all_goals exact inferInstance
set_option maxRecDepth 100000 in
set_option maxHeartbeats 2000000 in
theorem pbody_c (R : Rr) (S : Sli) (w : World) (hF : Fs w S (mkF R.now.fs)) : Calls Tryz.prog 41 #[.agg (rcs R S)] w (BoolEnds (decide (R.b = [] ∧ ckZ R.ck ∧ hdZ R.now)) w) := by
  obtain ⟨B, hB⟩ : ∃ B, decide (R.b = [] ∧ ckZ R.ck ∧ hdZ R.now) = B := ⟨_, rfl⟩
  rw [hB]
  have HB : Hid (B = decide (R.b = [] ∧ ckZ R.ck ∧ hdZ R.now)) := Lib.hid hB.symm
  clear hB
  have hb0 := ba1 w (.cells (rcs R S) 32)
  have bv := Box.new w 32 (rcs R S)
  have c5 : (w.alloc (.cells (rcs R S) 32)).cell? ⟨w.heap.size, 5, none⟩ = some (.string (tb R.b)) := bv.c 5 rfl
  have HZ := Lib.hid (pzero_c R.now S (w.alloc (.cells (rcs R S) 32)) (hF.up hb0))
  clear bv hF
  by_cases hb : R.b = []
  case neg =>
    have g1 := tb_ne hb
    have HV : Hid (B = false) := Lib.hid (by rw [HB.out]; exact decide_eq_false (fun h => hb h.1))
    clear hb HB
    go_enter Tryz.func41, Tryz.ntmps41
    go_wp2
    go_ret
    exact ⟨ret_bool HV.out.symm, hb0⟩
  case pos =>
    have g1 := tb_em hb
    have H1 := Lib.hid hb
    clear hb
    cases hk : ckB R.ck with
    | false =>
      have HV : Hid (B = false) := Lib.hid (by rw [HB.out]; exact decide_eq_false (fun h => by have := (ckB_iff R.ck).2 h.2.1; rw [hk] at this; cases this))
      clear HB
      go_enter Tryz.func41, Tryz.ntmps41
      go_wp2
      go_ret
      exact ⟨ret_bool HV.out.symm, hb0⟩
    | true =>
      have HV : Hid (B = decide (hdZ R.now)) := Lib.hid (by rw [HB.out, decide_eq_decide]; exact ⟨fun h => h.2.2, fun h => ⟨H1.out, (ckB_iff R.ck).1 hk, h⟩⟩)
      clear HB
      go_enter Tryz.func41, Tryz.ntmps41
      go_wp2_with fail
      refine HZ.out.mono ?_
      rintro E w2 ⟨rfl, hb2⟩
      obtain ⟨B2, hB2⟩ : ∃ B, decide (hdZ R.now) = B := ⟨_, rfl⟩
      rw [hB2] at HV ⊢
      clear hB2
      go_wp2
      go_ret
      exact ⟨ret_bool HV.out.symm, bon hb0 hb2⟩
theorem phas_c (l : Bs) (hl : l.length ≤ 4611686018427387904) (w : World) : Calls Tryz.prog 68 #[.string (tb l), .string ⟨#[13, 10, 13, 10]⟩] w (fun E w' => E = .returned (.bool (ends4 l)) ∧ w = w') := by
  have := sh_HasSuffix (tb l) ⟨#[13, 10, 13, 10]⟩ w (by rw [tb_size]; omega)
  rw [show (tb l).data.toList = l from dl_tb l] at this
  exact this.mono fun _ _ h => ⟨by rw [h.1, ← suf_ends], h.2.symm⟩
set_option maxRecDepth 100000 in
set_option maxHeartbeats 2000000 in
theorem ppart_c (l : Bs) (hl : l.length ≤ 4611686018427387904) (w : World) : Calls Tryz.prog 42 #[.string (tb l)] w (fun E w' => E = .returned (.bool (decide (l.length ≤ 2003) && !ends4 l)) ∧ w = w') := by
  have hs : (tb l).size = l.length := tb_size l
  by_cases h1 : l.length ≤ 2003
  · have h1i : ((tb l).size : Int) ≤ 2003 := by rw [hs]; omega
    have HV : Hid ((decide (l.length ≤ 2003) && !ends4 l) = !ends4 l) := Lib.hid (by rw [decide_eq_true h1]; rfl)
    have HH := Lib.hid (phas_c l hl w)
    obtain ⟨b, hb⟩ : ∃ b, ends4 l = b := ⟨_, rfl⟩
    rw [HV.out]
    rw [hb] at HH ⊢
    clear hb hs h1 HV
    go_enter Tryz.func42, Tryz.ntmps42
    go_wp2_with fail
    refine HH.out.mono ?_
    rintro E w2 ⟨rfl, rfl⟩
    go_wp2
    go_ret
    exact ⟨rfl, rfl⟩
  · have h1i : ¬ ((tb l).size : Int) ≤ 2003 := by rw [hs]; omega
    have HV : Hid ((decide (l.length ≤ 2003) && !ends4 l) = false) := Lib.hid (by rw [decide_eq_false h1]; rfl)
    rw [HV.out]
    clear hs h1 HV
    go_enter Tryz.func42, Tryz.ntmps42
    go_wp2
    go_ret
    exact ⟨rfl, rfl⟩
theorem pkright_c (c : Ck) (w : World) : Calls Tryz.prog 74 #[.agg (kcs c)] w (BoolEnds (decide (okC c)) w) := by
  have := cright_any c.s c.l (tb c.ln) c.m w
  rw [ckOf_tb] at this
  exact this
theorem phright_c (H : Hd) (S : Sli) (a : Bool) (w : World) (hF : Fs w S (mkF H.fs)) (hm : H.m.length ≤ 4096) (ht : H.t.length ≤ 4096) (hr : H.r.length ≤ 4096) (hn : H.fs.length ≤ 4096) (hf : ∀ f ∈ H.fs, f.1.length ≤ 4096 ∧ f.2.length ≤ 4096) : Calls Tryz.prog 43 #[.agg (hcs H S), .bool a] w (BoolEnds (rightB H a) w) := by
  have hl := hF.len
  rw [show (mkF H.fs).length = H.fs.length from List.length_map _] at hl
  have := right_any (tb H.m) (tb H.t) H.st (tb H.r) H.mi S.A S.n S.c (mkF H.fs) a w (by rw [tb_size]; exact hm) (by rw [tb_size]; exact ht) (by rw [tb_size]; exact hr) hF (by omega) (few_of (by rw [dls_mkF]; exact hf))
  rw [hdOf_tb] at this
  exact this
set_option maxRecDepth 100000 in
set_option maxHeartbeats 4000000 in
theorem pframeOk_c (R : Rr) (S : Sli) (w : World) : Calls Tryz.prog 44 #[.agg (rcs R S)] w (BoolEnds (decide (okF R)) w) := by
  obtain ⟨B, hB⟩ : ∃ B, decide (okF R) = B := ⟨_, rfl⟩
  rw [hB]
  have HB : Hid (B = decide (okF R)) := Lib.hid hB.symm
  clear hB
  have hb0 := ba1 w (.cells (rcs R S) 32)
  have bv := Box.new w 32 (rcs R S)
  have c0 : (w.alloc (.cells (rcs R S) 32)).cell? ⟨w.heap.size, 0, none⟩ = some (.bool R.a) := bv.c 0 rfl
  have c3 : (w.alloc (.cells (rcs R S) 32)).cell? ⟨w.heap.size, 3, none⟩ = some (.int .i64 R.k) := bv.c 3 rfl
  have c4 : (w.alloc (.cells (rcs R S) 32)).cell? ⟨w.heap.size, 4, none⟩ = some (.int .i64 R.z) := bv.c 4 rfl
  have c5 : (w.alloc (.cells (rcs R S) 32)).cell? ⟨w.heap.size, 5, none⟩ = some (.string (tb R.b)) := bv.c 5 rfl
  have c6 : (w.alloc (.cells (rcs R S) 32)).cell? ⟨w.heap.size, 6, none⟩ = some (.int .i64 R.ck.s) := bv.c 6 rfl
  have c9 : (w.alloc (.cells (rcs R S) 32)).cell? ⟨w.heap.size, 9, none⟩ = some (.int .i64 R.ck.m) := bv.c 9 rfl
  have hs : (tb R.b).size = R.b.length := tb_size _
  have HKr := Lib.hid (pkright_c R.ck (w.alloc (.cells (rcs R S) 32)))
  have hck := ckB_iff R.ck
  obtain ⟨kb, hkb⟩ : ∃ b, ckB R.ck = b := ⟨_, rfl⟩
  have HCK : Hid (kb = true ↔ ckZ R.ck) := Lib.hid (by rw [← hkb]; exact hck)
  have HS := Lib.hid hs
  clear hck bv hs
  have hcs : R.k = 2 ∨ R.k = 3 ∨ R.k = 4 ∨ (R.k ≠ 2 ∧ R.k ≠ 3 ∧ R.k ≠ 4) := by omega
  rcases hcs with hk | hk | hk | ⟨k2, k3, k4⟩
  · rw [hk] at c3
    have HO : Hid (okF R ↔ ((tb R.b).size : Int) < R.z ∧ R.z ≤ 4000 ∧ ckZ R.ck) := Lib.hid (by unfold okF; rw [if_pos hk, HS.out])
    clear hk
    by_cases q1 : ((tb R.b).size : Int) < R.z
    · by_cases q2 : R.z ≤ 4000
      · have HV : Hid (B = kb) := Lib.hid (by
          rw [HB.out, Bool.eq_iff_iff, decide_eq_true_eq, HO.out, HCK.out]
          exact ⟨fun h => h.2.2, fun h => ⟨q1, q2, h⟩⟩)
        go_enter Tryz.func44, Tryz.ntmps44
        go_wp2
        go_ret
        exact ⟨ret_bool HV.out.symm, hb0⟩
      · have HV : Hid (B = false) := Lib.hid (by rw [HB.out]; exact decide_eq_false (fun h => q2 (HO.out.1 h).2.1))
        go_enter Tryz.func44, Tryz.ntmps44
        go_wp2
        go_ret
        exact ⟨ret_bool HV.out.symm, hb0⟩
    · have HV : Hid (B = false) := Lib.hid (by rw [HB.out]; exact decide_eq_false (fun h => q1 (HO.out.1 h).1))
      go_enter Tryz.func44, Tryz.ntmps44
      go_wp2
      go_ret
      exact ⟨ret_bool HV.out.symm, hb0⟩
  · rw [hk] at c3
    have HO : Hid (okF R ↔ R.z = 0 ∧ okC R.ck ∧ R.ck.s ≠ 4 ∧ R.ck.m = ((tb R.b).size : Int)) := Lib.hid (by unfold okF; rw [if_neg (by omega), if_pos hk, HS.out])
    clear hk
    by_cases q1 : R.z = 0
    · rw [q1] at c4
      obtain ⟨ob, hob⟩ : ∃ b, decide (okC R.ck) = b := ⟨_, rfl⟩
      rw [hob] at HKr
      have HOB : Hid (ob = true ↔ okC R.ck) := Lib.hid (by rw [← hob, decide_eq_true_eq])
      have Hq1 := Lib.hid q1
      clear hob q1
      go_enter Tryz.func44, Tryz.ntmps44
      go_wp2_with fail
      refine HKr.out.mono ?_
      rintro E w2 ⟨rfl, hb2⟩
      have hd2 := bon hb0 hb2
      have c62 := cell_up hb2 c6
      have c92 := cell_up hb2 c9
      have c52 := cell_up hb2 c5
      clear c0 c3 c4 c5 c6 c9 HKr hb2 hb0
      cases ob with
      | false =>
        have HV : Hid (B = false) := Lib.hid (by rw [HB.out]; exact decide_eq_false (fun h => by have := HOB.out.2 (HO.out.1 h).2.1; cases this))
        go_wp2
        go_ret
        exact ⟨ret_bool HV.out.symm, hd2⟩
      | true =>
        by_cases q3 : R.ck.s = 4
        · have q3b : (R.ck.s != 4) = false := by rw [q3]; rfl
          have HV : Hid (B = false) := Lib.hid (by rw [HB.out]; exact decide_eq_false (fun h => (HO.out.1 h).2.2.1 q3))
          clear q3
          go_wp2
          go_ret
          exact ⟨ret_bool HV.out.symm, hd2⟩
        · have q3b : (R.ck.s != 4) = true := bne_iff_ne.2 q3
          have HV : Hid (B = (R.ck.m == ((tb R.b).size : Int))) := Lib.hid (by
            rw [HB.out, Bool.eq_iff_iff, decide_eq_true_eq, HO.out, beq_iff_eq]
            exact ⟨fun h => h.2.2.2, fun h => ⟨Hq1.out, HOB.out.1 rfl, q3, h⟩⟩)
          clear q3
          go_wp2
          go_ret
          exact ⟨ret_bool (by rw [HV.out]), hd2⟩
    · have q1b : (R.z == 0) = false := beq_eq_false_iff_ne.2 q1
      have HV : Hid (B = false) := Lib.hid (by rw [HB.out]; exact decide_eq_false (fun h => q1 (HO.out.1 h).1))
      clear q1
      go_enter Tryz.func44, Tryz.ntmps44
      go_wp2
      go_ret
      exact ⟨ret_bool HV.out.symm, hb0⟩
  · rw [hk] at c3
    have HO : Hid (okF R ↔ R.a = true ∧ R.z = 0 ∧ ckZ R.ck) := Lib.hid (by unfold okF; rw [if_neg (by omega), if_neg (by omega), if_pos hk])
    clear hk
    by_cases q1 : R.z = 0
    · rw [q1] at c4
      have Hq1 := Lib.hid q1
      clear q1
      cases kb with
      | false =>
        have HV : Hid (B = false) := Lib.hid (by rw [HB.out]; exact decide_eq_false (fun h => by have := HCK.out.2 (HO.out.1 h).2.2; cases this))
        go_enter Tryz.func44, Tryz.ntmps44
        go_wp2
        go_ret
        exact ⟨ret_bool HV.out.symm, hb0⟩
      | true =>
        have HV : Hid (B = R.a) := Lib.hid (by
          rw [HB.out, Bool.eq_iff_iff, decide_eq_true_eq, HO.out]
          exact ⟨fun h => h.1, fun h => ⟨h, Hq1.out, HCK.out.1 rfl⟩⟩)
        go_enter Tryz.func44, Tryz.ntmps44
        go_wp2
        go_ret
        exact ⟨ret_bool HV.out.symm, hb0⟩
    · have q1b : (R.z == 0) = false := beq_eq_false_iff_ne.2 q1
      have HV : Hid (B = false) := Lib.hid (by rw [HB.out]; exact decide_eq_false (fun h => q1 (HO.out.1 h).2.1))
      clear q1
      go_enter Tryz.func44, Tryz.ntmps44
      go_wp2
      go_ret
      exact ⟨ret_bool HV.out.symm, hb0⟩
  · have HV : Hid (B = false) := Lib.hid (by rw [HB.out]; exact decide_eq_false (fun h => by unfold okF at h; rw [if_neg k2, if_neg k3, if_neg k4] at h; exact h))
    have b2 : (R.k == 2) = false := beq_eq_false_iff_ne.2 k2
    have b3 : (R.k == 3) = false := beq_eq_false_iff_ne.2 k3
    have b4 : (R.k == 4) = false := beq_eq_false_iff_ne.2 k4
    clear k2 k3 k4
    go_enter Tryz.func44, Tryz.ntmps44
    go_wp2
    go_ret
    exact ⟨ret_bool HV.out.symm, hb0⟩
end Go.Proofs.YtdlihfbaepjliaaGreatDoor
