/-
  The walk of the law MessageAny.
-/
import Derived.Test.YtdlihfbaepjliaaGreatDoorLsD
namespace Go.Proofs.YtdlihfbaepjliaaGreatDoor
open Go.RowKit
attribute [local go_sem ↓] exec_ldR exec_ldH exec_ldK exec_ldM exec_stR exec_stH exec_stK exec_stM exec_bdM exec_bsM
attribute [local go_sem] run_bdM run_bsM run_ldR run_ldH run_ldK run_ldM run_stR run_stH run_stK run_stM ldO_at stO_at rcs_size hcs_size kcs_size mca_size rcs_one hcs_one kcs_one mca_one rcs_oneN hcs_oneN kcs_oneN mca_oneN rcs_now rcs_ck mca_head hpat_drew hpat_new
attribute [local go_sem ↓] exec_stP exec_bdP
attribute [local go_sem] run_stP run_bdP pcs_size pcs_one pcs_oneN pcs_rd pcs_now pcs_ck pspl_now pspl_ck pspl_rd
attribute [local go_sem] zM_one zM_size
/-- how many bytes fields have, and one each -/
def szG : List Fd → Nat
  | [] => 0
  | f :: r => f.1.size + f.2.size + 1 + szG r
theorem szG_app (a b : List Fd) : szG (a ++ b) = szG a + szG b := by
  induction a with
  | nil => simp [szG]
  | cons f r ih => simp only [List.cons_append, szG, ih]; omega
theorem szG_succ {fs : List Fd} {k : Nat} {x y : ByteArray} (h : fs[k]? = some (x, y)) : szG (fs.take (k + 1)) = szG (fs.take k) + x.size + y.size + 1 := by
  rw [List.take_add_one, h, szG_app]
  simp only [Option.toList, szG]
  omega
theorem szG_len (fs : List Fd) : fs.length ≤ szG fs := by
  induction fs with
  | nil => exact Nat.zero_le _
  | cons f r ih => simp only [List.length_cons, szG]; omega
theorem szG_mem : ∀ (fs : List Fd), ∀ f ∈ fs, f.1.size + f.2.size ≤ szG fs
  | [], f, h => by cases h
  | x :: r, f, h => by
    rcases List.mem_cons.1 h with rfl | h
    · simp only [szG]; omega
    · have := szG_mem r f h
      simp only [szG]
      omega
theorem sm_few {R : Rr} {N : Nat} (hN : N = (tb R.hd).size + (tb R.b).size + (tb R.ck.ln).size + (tb R.now.t).size + (tb R.now.m).size + (tb R.now.r).size + szG (mkF R.now.fs)) (h : N ≤ 600) : SmR R := by
  simp only [tb_size] at hN
  have hl := szG_len (mkF R.now.fs)
  rw [show (mkF R.now.fs).length = R.now.fs.length from List.length_map _] at hl
  refine sm_mk (by omega) (by omega) (by omega) ⟨by omega, by omega, by omega, by omega, fun f hf => ?_⟩
  have := szG_mem (mkF R.now.fs) (tb f.1, tb f.2) (List.mem_map.2 ⟨f, hf, rfl⟩)
  simp only [tb_size] at this
  omega
set_option maxRecDepth 100000 in
set_option maxHeartbeats 8000000 in
theorem messageAny_any (R : Rr) (S : Sli) (s : Bs) (a : Bool) (w : World) (h1 : R.hd.length ≤ 140737488355328) (h2 : R.b.length ≤ 140737488355328) (h3 : R.ck.ln.length ≤ 140737488355328) (h4 : R.now.m.length ≤ 140737488355328) (h5 : R.now.t.length ≤ 140737488355328) (h6 : R.now.r.length ≤ 140737488355328) (hF : Fs w S (mkF R.now.fs)) (hf : ∀ f ∈ mkF R.now.fs, f.1.size ≤ 140737488355328 ∧ f.2.size ≤ 140737488355328) (hs : s.length ≤ 140737488355328) (hT : Tabs w) :
    Calls Tryz.prog 4 #[.agg (rcs R S), .string (tb s), .bool a] w (BoolEnds true w) := by
  have hn := Nat.le_trans hF.le.1 hF.le.2
  unfold maxLen at hn
  have hd0 := ba1 w (.cells (rcs R S) 32)
  have b0 := Box.new w 32 (rcs R S)
  have HF := Lib.hid (hF.up hd0)
  have HFs := Lib.hid hf
  have hlen : Hid ((mkF R.now.fs).length = S.n) := Lib.hid hF.len
  have HTb := Lib.hid (hT.up hd0)
  have HLs : Hid (s.length ≤ 600 → ∀ (R : Rr) (S : Sli) W, Fs W S (mkF R.now.fs) → SmR R → Mx W → Calls Tryz.prog 12 #[.agg (rcs R S), .string (tb s)] W (BoolEnds true W)) := Lib.hid (fun h R S W hF hk hM => same9_c R S s W hF hk (by omega) hM)
  have HN := Lib.hid (fun W => rnew_c a [71, 69, 84] none [] W)
  have HOn := Lib.hid (sm_new a [71, 69, 84])
  have z1 : (tb R.hd).size ≤ 140737488355328 := by rw [tb_size]; exact h1
  have z2 : (tb R.b).size ≤ 140737488355328 := by rw [tb_size]; exact h2
  have z3 : (tb R.ck.ln).size ≤ 140737488355328 := by rw [tb_size]; exact h3
  have z4 : (tb R.now.m).size ≤ 140737488355328 := by rw [tb_size]; exact h4
  have z5 : (tb R.now.t).size ≤ 140737488355328 := by rw [tb_size]; exact h5
  have z6 : (tb R.now.r).size ≤ 140737488355328 := by rw [tb_size]; exact h6
  have zs : (tb s).size = s.length := tb_size s
  clear h1 h2 h3 h4 h5 h6 hF hf hT
  obtain ⟨SA, Sn, Sc⟩ := S
  simp only at hn hlen
  go_enter Tryz.func4, Tryz.ntmps4
  go_upto_region 1 with fail
  obtain ⟨g, hg⟩ : ∃ g, w.heap.size = g := ⟨_, rfl⟩
  rw [hg] at b0 ⊢
  clear hg
  generalize w.alloc (.cells (rcs R ⟨SA, Sn, Sc⟩) 32) = W0 at *
  have v1 : IntKind.i64.wrap (((tb R.hd).size : Int) + ((tb R.b).size : Int)) = ((tb R.hd).size : Int) + ((tb R.b).size : Int) := IntWalk.i64_in _ (by omega)
  have v2 : IntKind.i64.wrap (((tb R.hd).size : Int) + ((tb R.b).size : Int) + ((tb R.ck.ln).size : Int)) = ((tb R.hd).size : Int) + ((tb R.b).size : Int) + ((tb R.ck.ln).size : Int) := IntWalk.i64_in _ (by omega)
  have v3 : IntKind.i64.wrap (((tb R.hd).size : Int) + ((tb R.b).size : Int) + ((tb R.ck.ln).size : Int) + ((tb R.now.t).size : Int)) = ((tb R.hd).size : Int) + ((tb R.b).size : Int) + ((tb R.ck.ln).size : Int) + ((tb R.now.t).size : Int) := IntWalk.i64_in _ (by omega)
  have v4 : IntKind.i64.wrap (((tb R.hd).size : Int) + ((tb R.b).size : Int) + ((tb R.ck.ln).size : Int) + ((tb R.now.t).size : Int) + ((tb R.now.m).size : Int)) = ((tb R.hd).size : Int) + ((tb R.b).size : Int) + ((tb R.ck.ln).size : Int) + ((tb R.now.t).size : Int) + ((tb R.now.m).size : Int) := IntWalk.i64_in _ (by omega)
  have v5 : IntKind.i64.wrap (((tb R.hd).size : Int) + ((tb R.b).size : Int) + ((tb R.ck.ln).size : Int) + ((tb R.now.t).size : Int) + ((tb R.now.m).size : Int) + ((tb R.now.r).size : Int)) = ((tb R.hd).size : Int) + ((tb R.b).size : Int) + ((tb R.ck.ln).size : Int) + ((tb R.now.t).size : Int) + ((tb R.now.m).size : Int) + ((tb R.now.r).size : Int) := IntWalk.i64_in _ (by omega)
  obtain ⟨q0, q1, q2, q3, q4, q5, q6, q7, q8, q9, q10, q11, q12, q13, q14, q15, q16⟩ := b0.cr
  go_wp2_with fail
  clear q0 q1 q2 q3 q4 q5 q6 q7 q8 q9 q10 q11 q12 q13 q14 q15 q16 v1 v2 v3 v4 v5
  go_loopw [8, 7] (fun i z wr => ∃ (k N : Nat), k ≤ Sn ∧ i = .int .i64 (k : Int) ∧ z = .int .i64 (N : Int) ∧ N ≤ 2251799813685248 ∧ Hid (N = (tb R.hd).size + (tb R.b).size + (tb R.ck.ln).size + (tb R.now.t).size + (tb R.now.m).size + (tb R.now.r).size + szG ((mkF R.now.fs).take k)) ∧ Hid (Below W0.heap.size W0 wr)) (fun i _ _ => Sn - (intOf i).toNat)
  case atStart => exact ⟨0, (tb R.hd).size + (tb R.b).size + (tb R.ck.ln).size + (tb R.now.t).size + (tb R.now.m).size + (tb R.now.r).size, Nat.zero_le _, rfl, by go_num, by omega, Lib.hid (by simp [szG]), Lib.hid (Below.refl _ _)⟩
  case round =>
    obtain ⟨k, N, hk, rfl, rfl, hN, HNs, HB⟩ := hrel
    have c15 : wr.cell? ⟨g, 15, none⟩ = some (.slice SA Sn Sc) := (b0.up HB.out).c 15 rfl
    by_cases hgo : k < Sn ∧ N ≤ 600
    case pos =>
      obtain ⟨hlt, hN6⟩ := hgo
      have hki : (k : Int) < (Sn : Int) := by omega
      have hk0 : (0 : Int) ≤ (k : Int) := by omega
      have hNi : (N : Int) ≤ 600 := by omega
      obtain ⟨b, o, x, y, hA, hb, hx, e1, e2⟩ := (HF.out.up HB.out).cell (k := k) hlt
      simp only at hA
      subst hA
      obtain ⟨zx, zy⟩ := HFs.out _ (List.mem_of_getElem? hx)
      simp only at zx zy
      have HS := Lib.hid (szG_succ hx)
      clear hx
      have HR : Hid (N + 1 + x.size + y.size = (tb R.hd).size + (tb R.b).size + (tb R.ck.ln).size + (tb R.now.t).size + (tb R.now.m).size + (tb R.now.r).size + szG ((mkF R.now.fs).take (k + 1))) := Lib.hid (by have := HNs.out; rw [HS.out]; omega)
      have hN2 : N + 1 + x.size + y.size ≤ 2251799813685248 := by omega
      have t1 : IntKind.i64.wrap ((N : Int) + 1) = (N : Int) + 1 := IntWalk.i64_in _ (by omega)
      have t2 : IntKind.i64.wrap ((N : Int) + 1 + (x.size : Int)) = (N : Int) + 1 + (x.size : Int) := IntWalk.i64_in _ (by omega)
      have t3 : IntKind.i64.wrap ((N : Int) + 1 + (x.size : Int) + (y.size : Int)) = (N : Int) + 1 + (x.size : Int) + (y.size : Int) := IntWalk.i64_in _ (by omega)
      clear z1 z2 z3 z4 z5 z6
      go_wp2_with fail
      go_quiet (fail)
      clear t1 t2 t3
      go_wp2
      go_roundw
      case rel => exact ⟨k + 1, N + 1 + x.size + y.size, by omega, by go_num, by go_num, hN2, HR, Lib.hid (bon HB.out (below_drewN _ _))⟩
      case measure => simp [intOf]; omega
    case neg =>
      have HSm : Hid (N ≤ 600 → SmR R) := Lib.hid (fun h => by
        obtain rfl : k = Sn := by omega
        refine sm_few ?_ h
        rw [HNs.out, List.take_of_length_le (by rw [hlen.out]; exact Nat.le_refl _)])
      clear z1 z2 z3 z4 z5 z6 HNs HFs
      by_cases he : k < Sn
      · have hki : (k : Int) < (Sn : Int) := by omega
        have hNi : ¬ (N : Int) ≤ 600 := by omega
        clear hgo HSm
        have hB := HB.out
        go_wp2_with fail
        refine (awake9_any _ (HTb.out.up hB)).mono ?_
        rintro E w1 ⟨rfl, hb1⟩
        have hbi : (600 : Int) < (N : Int) := by omega
        go_wp2
        go_ret
        exact ⟨by first | rfl | simp, bon hd0 (bon hB hb1)⟩
      · have hki : ¬ (k : Int) < (Sn : Int) := by omega
        clear hgo
        have hB := HB.out
        have b1 := b0.up hB
        go_wp2_with fail
        refine (awake9_any _ (HTb.out.up hB)).mono ?_
        rintro E w1 ⟨rfl, hb1⟩
        replace hB := bon hB hb1
        replace b1 := b1.up hb1
        clear hb1
        by_cases hbig : 600 < N
        · have hbi : (600 : Int) < (N : Int) := by omega
          go_wp2
          go_ret
          exact ⟨by first | rfl | simp, bon hd0 hB⟩
        · have hbi : ¬ (600 : Int) < (N : Int) := by omega
          by_cases hsb : 600 < s.length
          · have hsi : (600 : Int) < ((tb s).size : Int) := by omega
            go_wp2
            go_ret
            exact ⟨by first | rfl | simp, bon hd0 hB⟩
          · have hsi : ¬ (600 : Int) < ((tb s).size : Int) := by omega
            have HSm2 := Lib.hid (HSm.out (by omega))
            have HLs2 := Lib.hid (HLs.out (by omega))
            have hpg : hpat w1 g = some (.cells (rcs R ⟨SA, Sn, Sc⟩) 32 (0, 0)) := b1
            clear HLs HSm
            go_wp2_with fail
            refine (HLs2.out R ⟨SA, Sn, Sc⟩ _ (HF.out.up hB) HSm2.out (HTb.out.up hB).mx).mono ?_
            rintro E w2 ⟨rfl, hb2⟩
            replace hB := bon hB hb2
            clear hpg b1 hb2
            go_wp2_with fail
            refine (HN.out _).mono ?_
            rintro E w3 ⟨S3, rfl, hF3, -, hb3⟩
            replace hB := bon hB hb3
            clear hb3
            go_wp2_with fail
            refine (HLs2.out (newR a [71, 69, 84]) S3 _ hF3 HOn.out (HTb.out.up hB).mx).mono ?_
            rintro E w4 ⟨rfl, hb4⟩
            go_wp2
            go_ret
            exact ⟨by first | rfl | simp, bon hd0 (bon hB hb4)⟩
end Go.Proofs.YtdlihfbaepjliaaGreatDoor
