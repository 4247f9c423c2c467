/-
  The walk of the law MessageBack.
-/
import Derived.Test.YtdlihfbaepjliaaGreatDoorLsF
import Derived.Test.YtdlihfbaepjliaaGreatDoorRt
namespace Go.Proofs.YtdlihfbaepjliaaGreatDoor
open Go.RowKit
attribute [local go_sem ↓] exec_ldR exec_ldH exec_ldK exec_ldM exec_stR exec_stH exec_stK exec_stM exec_bdM exec_bsM
attribute [local go_sem] run_bdM run_bsM run_ldR run_ldK run_stR run_stH run_stK run_stM ldO_at stO_at rcs_size hcs_size kcs_size mca_size rcs_one hcs_one kcs_one mca_one rcs_oneN hcs_oneN kcs_oneN mca_oneN rcs_now rcs_ck mca_head hpat_drew hpat_new
attribute [local go_sem ↓] exec_stP exec_bdP
attribute [local go_sem] run_stP run_bdP pcs_size pcs_one pcs_oneN pcs_rd pcs_now pcs_ck pspl_now pspl_ck pspl_rd
attribute [local go_sem] zM_one zM_size
theorem ld_cells {t : TypeId} {n : Nat} (hd : ∃ d, Tryz.prog.underlying t = some d ∧ d.isRow = true) (hi : (Tryz.prog.info? t).map (·.size) = some n) {g o : Nat} {w : World} {vs : Array Value} (hn : vs.size = n) (hc : ∀ j v, vs.toList[j]? = some v → w.cell? ⟨g, o + j, none⟩ = some v) :
    (ldS t (.pointer (some ⟨g, o, none⟩))).run Tryz.prog w = .ok (.value (.agg vs)) w := by
  obtain ⟨d, h1, h2⟩ := hd
  have hrun := run_loadAt_mid (P := Tryz.prog) w g o t vs.toList d hc h1 h2 (by rw [Array.length_toList, hn]; exact hi)
  simp only [ldS, Sem.run_bind, hrun, Result.andThen_ok, Sem.run_pure, Array.toArray_toList]
theorem ld_box {t : TypeId} {n : Nat} (hd : ∃ d, Tryz.prog.underlying t = some d ∧ d.isRow = true) (hi : (Tryz.prog.info? t).map (·.size) = some n) {g : Nat} {w : World} {t' : TypeId} {vs : Array Value} (hb : Box w g t' vs) (hn : vs.size = n) :
    (ldS t (.pointer (some ⟨g, 0, none⟩))).run Tryz.prog w = .ok (.value (.agg vs)) w :=
  ld_cells hd hi hn fun j v hj => by rw [Nat.zero_add]; exact hb.c j (by simpa using hj)
theorem heldBC {W0 w w' : World} {g : Nat} {o : Obj} {a : Addr} {v : Value} (hb : Below w.heap.size w w') (h : Below W0.heap.size W0 w ∧ w.cell? a = some v ∧ hpat w g = some o) : Below W0.heap.size W0 w' ∧ w'.cell? a = some v ∧ hpat w' g = some o := by
  refine ⟨bon h.1 hb, cell_up hb h.2.1, ?_⟩
  have h2 : w.heap[g]? = some o := h.2.2
  exact (hb.block g (Array.getElem?_eq_some_iff.1 h2).1).trans h2
theorem ms_at {w : World} {b o n c : Nat} {M : Mg} {T : Sli} (h : Ms w ⟨some ⟨b, o, none⟩, n, c⟩ [(M, T)]) : ∀ j u, (mcs (M, T))[j]? = some u → w.cell? ⟨b, o + j, none⟩ = some u := by
  obtain ⟨_, b', o', hA, hx⟩ := ms_cells h
  cases hA
  exact hx
theorem head_cell {M : Mg} {T : Sli} {j : Nat} {v : Value} (h : (hcs M.h T).toList[j]? = some v) : (mcs (M, T))[j]? = some v := by
  have hj : j < (hcs M.h T).toList.length := (List.getElem?_eq_some_iff.1 h).1
  rw [show mcs (M, T) = (hcs M.h T).toList ++ [.string (tb M.b)] from rfl, List.getElem?_append_left hj]
  exact h
set_option maxRecDepth 100000 in
set_option maxHeartbeats 8000000 in
theorem messageBack_any (A : Option Addr) (L c : Nat) (ys : List UInt8) (b0 : Bs) (a : Bool) (A2 : Option Addr) (L2 c2 : Nat) (w : World) (hl : ys.length = L) (hm : L ≤ maxLen) (hU : Us w w.heap.size A ys) (hb0 : b0.length ≤ 140737488355328) (hT : Tabs w) : Calls Tryz.prog 9 #[.slice A L c, .string (tb b0), .bool a, .slice A2 L2 c2] w (BoolEnds true w) := by
  have HTb := Lib.hid hT
  have HMd := Lib.hid (fun W (hW : Below w.heap.size w W) => made9_any A L c ys a W hl hm (hU.up hW))
  have zs : (tb b0).size = b0.length := tb_size b0
  clear hT hl hm hU
  go_enter Tryz.func9, Tryz.ntmps9
  go_wp2_with fail
  refine (awake9_any w HTb.out).mono ?_
  rintro E w0 ⟨rfl, hd0⟩
  go_upto_if 25 with fail
  go_cut [1] (fun v W => ∃ b : Bs, b.length ≤ 300 ∧ v = .string (tb b) ∧ W = w0)
  case first =>
    by_cases hbig : 300 < b0.length
    · have i1 : (300 : Int) < ((tb b0).size : Int) := by omega
      have i2 : (300 : Int) ≤ ((tb b0).size : Int) := by omega
      go_wp2
      go_meet
      exact ⟨(b0.take 300).drop 0, by simp; omega, by rw [tb_ext], rfl⟩
    · have i1 : ¬ (300 : Int) < ((tb b0).size : Int) := by omega
      go_wp2
      go_meet
      exact ⟨b0, by omega, rfl, rfl⟩
  case rest =>
    obtain ⟨b, hb, rfl, rfl⟩ := hcut
    clear zs
    go_wp2_with fail
    refine (HMd.out _ hd0).mono ?_
    rintro E w1 ⟨H, S1, rfl, hr, hmi, hF1, hfr1, hc⟩
    have HAw : Hid (Away w1.heap.size S1.A (mkF H.fs)) := Lib.hid (fun hne ad hA => by have := hF1.lt hne hA; omega)
    have HG : Hid (w.heap.size ≤ w1.heap.size) := Lib.hid (bon hd0 hc).size
    have HRi := Lib.hid hr
    have HMi := Lib.hid hmi
    clear hr hmi hfr1 HMd
    go_upto_region 7 with fail
    have hbA : Below w1.heap.size w1 ((w1.alloc (.cells #[.string ⟨#[]⟩, .string ⟨#[]⟩, .int .i64 0, .string ⟨#[]⟩, .int .i64 0, .slice none 0 0] 29)).setRow w1.heap.size (hcs H S1)) := below_row (ba1 w1 _) (Nat.le_refl _) _
    have b1 := box_row (hcs H S1) (Box.new w1 29 #[.string ⟨#[]⟩, .string ⟨#[]⟩, .int .i64 0, .string ⟨#[]⟩, .int .i64 0, .slice none 0 0])
    have hu := bon hc hbA

    replace hF1 := hF1.up hbA
    have hd1 := bon hd0 hu
    obtain ⟨g1, hg⟩ : ∃ k, w1.heap.size = k := ⟨_, rfl⟩
    rw [hg] at b1 hd1 hF1 HAw HG ⊢
    clear hg hu hbA hc
    generalize (w1.alloc (.cells #[.string ⟨#[]⟩, .string ⟨#[]⟩, .int .i64 0, .string ⟨#[]⟩, .int .i64 0, .slice none 0 0] 29)).setRow g1 (hcs H S1) = W1 at *
    have c2 : W1.cell? ⟨g1, 2, none⟩ = some (.int .i64 H.st) := b1.c 2 rfl
    obtain ⟨B, hB⟩ : ∃ B : Bool, decide (a = true ∧ (H.st < 200 ∨ H.st = 204 ∨ H.st = 304)) = B := ⟨_, rfl⟩
    go_cut [46] (fun v W => v = .bool B ∧ W = W1)
    case first =>
      by_cases ha : a = true
      · subst ha
        by_cases h1 : H.st < 200
        · have hBt : B = true := by rw [← hB, decide_eq_true_eq]; exact ⟨rfl, .inl h1⟩
          subst hBt
          clear hB
          go_wp2
          go_meet
          exact ⟨by first | rfl | simp, rfl⟩
        · by_cases h2 : H.st = 204
          · have hBt : B = true := by rw [← hB, decide_eq_true_eq]; exact ⟨rfl, .inr (.inl h2)⟩
            subst hBt
            have h2b : (H.st == 204) = true := beq_iff_eq.2 h2
            clear hB h2
            go_wp2
            go_meet
            exact ⟨by first | rfl | simp, rfl⟩
          · have h2b : (H.st == 204) = false := beq_eq_false_iff_ne.2 h2
            by_cases h3 : H.st = 304
            · have hBt : B = true := by rw [← hB, decide_eq_true_eq]; exact ⟨rfl, .inr (.inr h3)⟩
              subst hBt
              have h3b : (H.st == 304) = true := beq_iff_eq.2 h3
              clear hB h3 h2
              go_wp2
              go_meet
              exact ⟨by first | rfl | simp, rfl⟩
            · have hBf : B = false := by rw [← hB, decide_eq_false_iff_not]; rintro ⟨_, h | h | h⟩ <;> contradiction
              subst hBf
              have h3b : (H.st == 304) = false := beq_eq_false_iff_ne.2 h3
              clear hB h3 h2
              go_wp2
              go_meet
              exact ⟨by first | rfl | simp, rfl⟩
      · have hBf : B = false := by rw [← hB, decide_eq_false_iff_not]; exact fun h => ha h.1
        subst hBf
        have haf : a = false := by simpa using ha
        subst haf
        clear hB
        go_wp2
        go_meet
        exact ⟨by first | rfl | simp, rfl⟩
    case rest =>
      obtain ⟨rfl, rfl⟩ := hcut
      rename World => W1
      obtain ⟨H2, hH2⟩ : ∃ H2, setSt H a = H2 := ⟨_, rfl⟩
      have HR2 : Hid (rightB H2 a = true) := Lib.hid (by rw [← hH2]; exact set_right HRi.out)
      have HM2 : Hid (Mini H2) := Lib.hid (by rw [← hH2]; exact set_mini HMi.out)
      have HB2 : Hid (a = true → bareB H2.st [71, 69, 84] = false) := Lib.hid (by rw [← hH2]; exact set_bare)
      have HN2 : Hid (H2.fs = H.fs) := Lib.hid (by rw [← hH2]; unfold setSt; split <;> rfl)
      go_upto_if 46 with fail
      go_cut [] (fun W => Box W g1 29 (hcs H2 S1) ∧ Fs W S1 (mkF H2.fs) ∧ Below w.heap.size w W)
      case first =>
        cases B
        · have e : H2 = H := by
            rw [← hH2]
            unfold setSt
            rw [if_neg (by simpa using hB)]
          clear hB hH2
          go_wp2
          go_meet
          rw [e]
          exact ⟨b1, hF1, hd1⟩
        · have e : H2 = { H with st := 200 } := by
            rw [← hH2]
            unfold setSt
            rw [if_pos (by simpa using hB)]
          have HQ : Hid (W1.setCell ⟨g1, 2, none⟩ (.int .i64 200) = W1.setRow g1 (hcs H2 S1)) := Lib.hid (by rw [e]; exact b1.row_eq 2 _ rfl)
          have f2 := b1.f 2
          clear hB hH2 e
          go_wp2
          go_meet
          rw [HQ.out]
          exact ⟨box_row _ b1, by rw [HN2.out]; exact Fs.row hF1 HAw.out _, below_row hd1 HG.out _⟩
      case rest =>
        obtain ⟨b2, hF2, hd2⟩ := hcut
        rename World => W2
        clear hB hH2 c2 b1 hF1 hd1 HAw HRi HMi HN2
        obtain ⟨M, hM⟩ : ∃ M : Mg, (⟨H2, b⟩ : Mg) = M := ⟨_, rfl⟩
        have hMh : M.h = H2 := by rw [← hM]
        have hMb : M.b = b := by rw [← hM]
        have HPo : Hid (printR M a = (textH (headP M) a ++ b, 0)) := Lib.hid (by
          have := print_ok9 (M := M) (a := a) (by rw [hMh]; exact HR2.out) (by rw [hMh]; exact HM2.out) (by rw [hMb]; exact hb)
          rw [hMb] at this
          exact this)
        have HBk : Hid (feedR (newR a [71, 69, 84]) (textH (headP M) a ++ b) = (newR a [71, 69, 84], [⟨headP M, b⟩], 0)) := Lib.hid (by
          have := back_ok (M := M) (a := a) (by rw [hMh]; exact HR2.out) (by rw [hMh]; exact HM2.out) (by rw [hMb]; exact hb) (by rw [hMh]; exact HB2.out)
          rw [hMb] at this
          exact this)
        have HLn : Hid ((textH (headP M) a).length ≤ 2004) := Lib.hid (len_headP (by rw [hMh]; exact HR2.out) (by rw [hMh]; exact HM2.out) (by rw [hMb]; omega))
        have HRP : Hid (rightB (headP M) a = true) := Lib.hid (right_headP (by rw [hMh]; exact HR2.out) (by rw [hMh]; have := HM2.out.2.2.2.1; omega) (by rw [hMb]; omega))
        have HSmM : Hid (SmH M.h) := Lib.hid (by rw [hMh]; exact right_sm9 HR2.out)
        have l1 : (ldS 29 (.pointer (some ⟨g1, 0, none⟩))).run Tryz.prog W2 = .ok (.value (.agg (hcs H2 S1))) W2 := ld_box isRowH infoH b2 rfl
        have hMe : mca ⟨H2, b⟩ S1 = mca M S1 := by rw [hM]
        have HPr := Lib.hid (pprint9_c M S1 a W2 (by rw [hMh]; exact hF2) HSmM.out (HTb.out.up hd2))
        rw [HPo.out] at HPr
        go_wp2_with fail
        refine HPr.out.mono ?_
        rintro E w3 ⟨s, rfl, hs, hc⟩
        simp only at hs
        have b3 := b2.up hc
        have hF3 := hF2.up hc
        have hd3 := bon hd2 hc
        clear l1 b2 hF2 hd2 hc HPr hMe
        obtain rfl := tb_of hs
        clear hs
        have HN3 := Lib.hid (fun W => mnew_c a [71, 69, 84] W)
        go_wp2_with fail
        refine (HN3.out _).mono ?_
        rintro E w4 ⟨rfl, hb4⟩
        have HFd : Hid (Calls Tryz.prog 19 #[.agg (rcs (newR a [71, 69, 84]) ⟨none, 0, 0⟩), .string (tb (textH (headP M) a ++ b))] w4 (Feed9New (newR a [71, 69, 84], [⟨headP M, b⟩], 0) w4)) := Lib.hid (by
          rw [← HBk.out]
          exact pfeed9_f (newR a [71, 69, 84]) ⟨none, 0, 0⟩ _ w4 (fs_zero _) (sm_new _ _) (by rw [List.length_append]; have := HLn.out; omega) (HTb.out.up (bon hd3 hb4)).mx)
        go_wp2_with fail
        refine HFd.out.mono ?_
        rintro E w5 ⟨S5, O5, ms5, rfl, hF5, -, hM5, hm5, hb5, hA5, hO5⟩
        simp only at hF5 hm5 ⊢
        obtain ⟨T, rfl⟩ := map_one hm5
        have hFT := hM5.fs (⟨headP M, b⟩, T) (by simp)
        simp only at hFT
        have HG4 : g1 < w4.heap.size := by have := b3.lt; have := hb4.size; omega
        have HAT : Hid (Away g1 T.A (mkF (headP M).fs)) := Lib.hid (hA5 (⟨headP M, b⟩, T) (by simp) g1 HG4)
        have HOx : Hid (∀ ad, O5.A = some ad → g1 < ad.block) := Lib.hid (fun ad hA => Nat.lt_of_lt_of_le HG4 (hO5 ad hA))
        clear hA5 hO5 HG4
        have HGg : Hid (g1 < w5.heap.size) := Lib.hid (by have := b3.lt; have := hb4.size; have := hb5.size; omega)
        have hc := bon hb4 hb5
        clear hb4 hb5 hm5 HFd HN3
        go_upto_region 11 with fail
        have hbA : Below w5.heap.size w5 ((w5.alloc (.cells #[.bool false, .string ⟨#[]⟩, .string ⟨#[]⟩, .int .i64 0, .int .i64 0, .string ⟨#[]⟩, .int .i64 0, .int .i64 0, .string ⟨#[]⟩, .int .i64 0, .string ⟨#[]⟩, .string ⟨#[]⟩, .int .i64 0, .string ⟨#[]⟩, .int .i64 0, .slice none 0 0, .int .i64 0] 32)).setRow w5.heap.size (rcs (newR a [71, 69, 84]) S5)) := below_row (ba1 w5 _) (Nat.le_refl _) _
        have b5 := box_row (rcs (newR a [71, 69, 84]) S5) (Box.new w5 32 #[.bool false, .string ⟨#[]⟩, .string ⟨#[]⟩, .int .i64 0, .int .i64 0, .string ⟨#[]⟩, .int .i64 0, .int .i64 0, .string ⟨#[]⟩, .int .i64 0, .string ⟨#[]⟩, .string ⟨#[]⟩, .int .i64 0, .string ⟨#[]⟩, .int .i64 0, .slice none 0 0, .int .i64 0])
        have hu := bon hc hbA
        replace b3 := b3.up hu
        replace hF3 := hF3.up hu
        replace hF5 := hF5.up hbA
        replace hM5 := hM5.up hbA
        replace hFT := hFT.up hbA
        have hd5 := bon hd3 hu
        obtain ⟨g5, hg⟩ : ∃ k, w5.heap.size = k := ⟨_, rfl⟩
        rw [hg] at b5 hd5 b3 hF3 hF5 hM5 hFT HGg ⊢
        clear hg hu hbA hc
        generalize (w5.alloc (.cells #[.bool false, .string ⟨#[]⟩, .string ⟨#[]⟩, .int .i64 0, .int .i64 0, .string ⟨#[]⟩, .int .i64 0, .int .i64 0, .string ⟨#[]⟩, .int .i64 0, .string ⟨#[]⟩, .string ⟨#[]⟩, .int .i64 0, .string ⟨#[]⟩, .int .i64 0, .slice none 0 0, .int .i64 0] 32)).setRow g5 (rcs (newR a [71, 69, 84]) S5) = W5 at *
        obtain ⟨A5, n5, c5⟩ := O5
        obtain ⟨rfl, x5, y5, hA5, hx5⟩ := ms_cells hM5
        obtain rfl := hA5
        have kb : W5.cell? ⟨x5, y5 + 6, none⟩ = some (.string (tb b)) := hx5 6 _ rfl
        have hp5 : hpat W5 g5 = some (.cells (rcs (newR a [71, 69, 84]) S5) 32 (0, 0)) := b5
        have HF5 := Lib.hid hF5
        have HNr := Lib.hid (fun W => rnew_c a [71, 69, 84] none [] W)
        have HX5 : Hid (g1 < x5) := Lib.hid (HOx.out _ rfl)
        have HGne : Hid (g1 < g5) := HGg
        clear HOx HGg
        go_cut [89] (fun v W => v = .bool false ∧ Below W5.heap.size W5 W)
        case first =>
          have HSa := Lib.hid (fun W (h : Below W5.heap.size W5 W) S (hS : Fs W S (mkF (newR a [71, 69, 84]).now.fs)) => rsameR_c (newR a [71, 69, 84]) S5 S W (HF5.out.up h) hS)
          clear hM5 hFT b3 hF3 b5 hF5 hx5
          go_region_held3 (fun W' => Below W5.heap.size W5 W' ∧ W'.cell? ⟨x5, y5 + 6, none⟩ = some (.string (tb b)) ∧ hpat W' g5 = some (.cells (rcs (newR a [71, 69, 84]) S5) 32 (0, 0)))
            (first | exact heldBC hbP (by assumption) | exact ⟨(Below.refl _ _).drew, kb, hp5⟩ | fail)
            (first
              | (go_at_call 14; refine (HNr.out _).mono ?_; rintro e wP ⟨SP, rfl, hFP, -, hbP⟩)
              | (go_at_call 21; refine (HSa.out _ (And.left (by assumption)) SP hFP).mono ?_; rintro e wP ⟨rfl, hbP⟩)
              | fail)
          all_goals
            rename_i hHeld
            have hfin := hHeld.1
            clear hHeld
            go_wp2
            go_meet
            exact ⟨by first | rfl | simp, hfin⟩
        case rest =>
          obtain ⟨rfl, hc⟩ := hcut
          rename World => W6
          have b6 := b3.up hc
          have hF6 := hF3.up hc
          have hd6 := bon hd5 hc
          have hM6 := hM5.up hc
          have hFT6 := hFT.up hc
          clear b3 hF3 hd5 hM5 hFT hc kb hp5 b5 hF5 hx5 HF5 HNr
          go_upto_region 14 with fail
          have hss : Ss (W6.alloc (.cells #[.string ⟨#[99, 111, 110, 116, 101, 110, 116, 45, 108, 101, 110, 103, 116, 104]⟩, .string ⟨#[116, 114, 97, 110, 115, 102, 101, 114, 45, 101, 110, 99, 111, 100, 105, 110, 103]⟩] 9)) ⟨some ⟨W6.heap.size, 0, none⟩, 2, 2⟩ nsR := Ss.new W6 nsR 2 rfl (by decide)
          have hbN := ba1 W6 (.cells #[.string ⟨#[99, 111, 110, 116, 101, 110, 116, 45, 108, 101, 110, 103, 116, 104]⟩, .string ⟨#[116, 114, 97, 110, 115, 102, 101, 114, 45, 101, 110, 99, 111, 100, 105, 110, 103]⟩] 9)
          replace b6 := b6.up hbN
          replace hF6 := hF6.up hbN
          replace hM6 := hM6.up hbN
          replace hFT6 := hFT6.up hbN
          replace hd6 := bon hd6 hbN
          clear hbN
          obtain ⟨gn, hg⟩ : ∃ k, W6.heap.size = k := ⟨_, rfl⟩
          rw [hg] at hss ⊢
          clear hg
          generalize W6.alloc (.cells #[.string ⟨#[99, 111, 110, 116, 101, 110, 116, 45, 108, 101, 110, 103, 116, 104]⟩, .string ⟨#[116, 114, 97, 110, 115, 102, 101, 114, 45, 101, 110, 99, 111, 100, 105, 110, 103]⟩] 9) = W7 at *
          have hx7 := ms_at hM6
          have l2 : (ldS 29 (.pointer (some ⟨x5, y5, none⟩))).run Tryz.prog W7 = .ok (.value (.agg (hcs (headP M) T))) W7 := ld_cells isRowH infoH rfl (fun j v hj => hx7 j v (head_cell hj))
          have hc := Below.refl W7.heap.size W7
          have HG7 : Hid (g1 < W7.heap.size) := Lib.hid b6.lt
          clear hx7
          go_upto_region 15 with fail
          have hbA : Below W7.heap.size W7 ((W7.alloc (.cells #[.string ⟨#[]⟩, .string ⟨#[]⟩, .int .i64 0, .string ⟨#[]⟩, .int .i64 0, .slice none 0 0] 29)).setRow W7.heap.size (hcs (headP M) T)) := below_row (ba1 W7 _) (Nat.le_refl _) _
          have b7 := box_row (hcs (headP M) T) (Box.new W7 29 #[.string ⟨#[]⟩, .string ⟨#[]⟩, .int .i64 0, .string ⟨#[]⟩, .int .i64 0, .slice none 0 0])
          have hu := bon hc hbA
          replace b6 := b6.up hu
          replace hF6 := hF6.up hu
          replace hM6 := hM6.up hu
          replace hFT6 := hFT6.up hu
          replace hss := hss.up hu

          replace hd6 := bon hd6 hu
          obtain ⟨g7, hg⟩ : ∃ k, W7.heap.size = k := ⟨_, rfl⟩
          rw [hg] at b7 hd6 b6 hF6 hM6 hFT6 hss HG7 ⊢
          clear hg hu hbA hc
          generalize (W7.alloc (.cells #[.string ⟨#[]⟩, .string ⟨#[]⟩, .int .i64 0, .string ⟨#[]⟩, .int .i64 0, .slice none 0 0] 29)).setRow g7 (hcs (headP M) T) = W8 at *
          have c17 : W8.cell? ⟨g7, 5, none⟩ = some (.slice T.A T.n T.c) := b7.c 5 rfl
          have c15 : W8.cell? ⟨g1, 5, none⟩ = some (.slice S1.A S1.n S1.c) := b6.c 5 rfl
          have hln : (headP M).fs.length ≤ 4096 := Nat.le_trans (right_sm9 HRP.out).n (by decide)
          have hl2 : H2.fs.length ≤ 4096 := Nat.le_trans (right_sm9 HR2.out).n (by decide)
          have HDa : Hid (∀ W, Below W8.heap.size W8 W → Calls Tryz.prog 24 #[.slice T.A T.n T.c, .slice (some ⟨gn, 0, none⟩) 2 2] W (FsEnds (mkF (dropB H2.fs)) W)) := Lib.hid (fun W hW => by
            have := rdrop_any T ⟨some ⟨gn, 0, none⟩, 2, 2⟩ (mkF (headP M).fs) nsR W (hFT6.up hW) (hss.up hW) (by
              have h1 := hFT6.len
              rw [show (mkF (headP M).fs).length = (headP M).fs.length from List.length_map _] at h1
              omega) (by show 2 ≤ 4096; decide) (fun f hf => by
              obtain ⟨x, hx, rfl⟩ := List.mem_map.1 hf
              have := ((right_sm9 HRP.out).fs x hx).1
              rw [← tb_size] at this
              exact this) (by decide)
            rw [drop_mkF _ nsR nsR_low, show dropB (headP M).fs = dropB M.h.fs from drop_twice _ _, hMh] at this
            exact this)
          have HDb : Hid (∀ W, Below W8.heap.size W8 W → Calls Tryz.prog 24 #[.slice S1.A S1.n S1.c, .slice (some ⟨gn, 0, none⟩) 2 2] W (FsEnds (mkF (dropB H2.fs)) W)) := Lib.hid (fun W hW => by
            have := rdrop_any S1 ⟨some ⟨gn, 0, none⟩, 2, 2⟩ (mkF H2.fs) nsR W (hF6.up hW) (hss.up hW) (by
              have h1 := hF6.len
              rw [show (mkF H2.fs).length = H2.fs.length from List.length_map _] at h1
              omega) (by show 2 ≤ 4096; decide) (fun f hf => by
              obtain ⟨x, hx, rfl⟩ := List.mem_map.1 hf
              have := ((right_sm9 HR2.out).fs x hx).1
              rw [← tb_size] at this
              exact this) (by decide)
            rw [drop_mkF _ nsR nsR_low] at this
            exact this)
          clear hln hl2
          go_cut [104] (fun v W => v = .bool false ∧ Below W8.heap.size W8 W)
          case first =>
            clear b6 b7 hF6 hM6 hFT6 hss
            go_region_held3 (fun W' => Below W8.heap.size W8 W' ∧ W'.cell? ⟨g7, 5, none⟩ = some (.slice T.A T.n T.c) ∧ W'.cell? ⟨g1, 5, none⟩ = some (.slice S1.A S1.n S1.c))
              (first | exact held2C hbP (by assumption) | exact ⟨(Below.refl _ _).drew, c17, c15⟩ | fail)
              (first
                | (go_at_call 24; (first | ((with_reducible refine (HDa.out _ ?_).mono ?_); exact And.left (by assumption); rintro e wP ⟨D1, rfl, hR1, hbP⟩; have hD1 := hR1.fs) | ((with_reducible refine (HDb.out _ ?_).mono ?_); exact And.left (by assumption); rintro e wP ⟨D2, rfl, hR2, hbP⟩; have hD2 := hR2.fs; have hD3 := hD1.up hbP)))
                | (go_at_call 23; refine (same_same D1 D2 _ _ hD3 hD2).mono ?_; rintro e wP ⟨rfl, hbP⟩)
                | fail)
            all_goals
              rename_i hHeld
              have hfin := hHeld.1
              clear hHeld
              go_wp2
              go_meet
              exact ⟨by first | rfl | simp, hfin⟩
          case rest =>
            obtain ⟨rfl, hc⟩ := hcut
            rename World => W9
            replace b6 := b6.up hc
            replace b7 := b7.up hc
            replace hM6 := hM6.up hc
            replace hFT6 := hFT6.up hc
            replace hd6 := bon hd6 hc
            clear c17 c15 hF6 hss hc HDa HDb
            have c17 : W9.cell? ⟨g7, 5, none⟩ = some (.slice T.A T.n T.c) := b7.c 5 rfl
            have c15 : W9.cell? ⟨g1, 5, none⟩ = some (.slice S1.A S1.n S1.c) := b6.c 5 rfl
            have f15 := b6.f 5
            rw [← hMh] at b6
            have HQ : Hid (W9.setCell ⟨g1, 5, none⟩ (.slice T.A T.n T.c) = W9.setRow g1 (hcs (headP M) T)) := Lib.hid (b6.row_eq 5 _ rfl)
            go_upto_region 18 with fail
            rw [HQ.out]
            have e1 := box_row (hcs (headP M) T) b6
            have e7 := b7.row_far (g := g1) (by have := HG7.out; omega) (hcs (headP M) T)
            have hF8 : Fs (W9.setRow g1 (hcs (headP M) T)) T (mkF (headP M).fs) := Fs.row hFT6 HAT.out _
            have hx8 : ∀ j u, (mcs (⟨headP M, b⟩, T))[j]? = some u → (W9.setRow g1 (hcs (headP M) T)).cell? ⟨x5, y5 + j, none⟩ = some u := fun j u hu => (cell_setRow_other _ _ _ _ (by have := HX5.out; show x5 ≠ g1; omega)).trans (ms_at hM6 j u hu)
            have hd8 : Below w.heap.size w (W9.setRow g1 (hcs (headP M) T)) := below_row hd6 HG.out _
            clear HQ b6 b7 hM6 hFT6 hd6 c17 c15 f15
            generalize W9.setRow g1 (hcs (headP M) T) = W10 at *
            have l3 : (ldS 49 (.pointer (some ⟨x5, y5, none⟩))).run Tryz.prog W10 = .ok (.value (.agg (mca ⟨headP M, b⟩ T))) W10 := ld_cells isRowM infoM rfl (fun j v hj => hx8 j v hj)
            have HP2 := Lib.hid (pprint9_c ⟨headP M, b⟩ T a W10 hF8 (right_sm9 HRP.out) (HTb.out.up hd8))
            have HPt : Hid (printR ⟨headP M, b⟩ a = (textH (headP M) a ++ b, 0)) := Lib.hid (by rw [← hMb, print_twice, hMb]; exact HPo.out)
            rw [HPt.out] at HP2
            clear hx8 HPt
            go_wp2_with fail
            refine HP2.out.mono ?_
            rintro E w11 ⟨s2, rfl, hs2, hc⟩
            simp only at hs2
            obtain rfl := tb_of hs2
            have q1 := e1.up hc
            have q7 := e7.up hc
            have hF11 := hF8.up hc
            have hd11 := bon hd8 hc
            clear l3 e1 e7 hF8 hd8 hc hs2 HP2
            have l1 : (ldS 29 (.pointer (some ⟨g1, 0, none⟩))).run Tryz.prog w11 = .ok (.value (.agg (hcs (headP M) T))) w11 := ld_box isRowH infoH q1 rfl
            have l7 : (ldS 29 (.pointer (some ⟨g7, 0, none⟩))).run Tryz.prog w11 = .ok (.value (.agg (hcs (headP M) T))) w11 := ld_box isRowH infoH q7 rfl
            have HSh := Lib.hid (heads_c (headP M) T T w11 hF11 hF11)
            clear q1 q7 hF11
            go_wp2_with fail
            refine HSh.out.mono ?_
            rintro E w12 ⟨rfl, hc⟩
            go_wp2
            go_ret
            exact ⟨by first | rfl | simp, bon hd11 hc⟩
end Go.Proofs.YtdlihfbaepjliaaGreatDoor
