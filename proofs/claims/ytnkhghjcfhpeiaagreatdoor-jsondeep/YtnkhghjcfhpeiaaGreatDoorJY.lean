/-
  The walk of the law JsonDeep, over the calls' contracts.
-/
import Derived.Test.YtnkhghjcfhpeiaaGreatDoorJX
namespace Go.Proofs.YtnkhghjcfhpeiaaGreatDoor
open Go.RowKit

theorem leaf_one : ∀ u ∈ leafC, u.oneCell' = true := by
  intro u hu
  simp only [leafC, List.mem_cons, List.not_mem_nil, or_false] at hu
  rcases hu with rfl | rfl | rfl | rfl <;> rfl
/-- what JsonDeep holds when it asks -/
def DeepE (w W : World) (gv : Nat) (l : Bs) : Prop := l.length ≤ 2000 ∧ ∃ (v : Jv) (S : Sli), DpV w W gv v S ∧ wtJ v ≤ 10000
set_option maxRecDepth 100000 in
set_option maxHeartbeats 8000000 in
theorem jsonDeep_any (hR : JPR) (hP : JPP) (hJ : JPJ) (hS : JPS) (rR : RPR) (rP : RPP) (rJ : RPJ) (n h : Nat) (cut : Bool) (w : World) (hn : n < 256) (hh : h < 256) (hT : TJ w) :
    Calls Tryz.prog 4 #[.int .u8 (n : Int), .int .u8 (h : Int), .bool cut] w (BoolEnds true w) := by
  have HAw := Lib.hid (fun W t => awakeJ hR hP hJ hS W t)
  have HTo := Lib.hid (fun v K S W (hw : wtJ v ≤ 10000) h t => told_any hR hP hS rR rP v v K S K S W hw h h t)
  have HTx := Lib.hid (fun s W (hl : s.length ≤ 1000000) t => text11_any hJ rJ s W hl t)
  have HT := Lib.hid hT
  clear hR hP hJ hS rR rP rJ hT
  obtain ⟨m, hm⟩ : ∃ m, n % 20 = m := ⟨_, rfl⟩
  have hm20 : m < 20 := by omega
  have m1 : IntKind.i64.wrap (n : Int) = (n : Int) := IntWalk.i64_in _ (by omega)
  have m3 : (n : Int) % 20 = (m : Int) := by omega
  have m2 : (n : Int).tmod 20 = (m : Int) := by rw [Int.tmod_eq_emod_of_nonneg (by omega)]; exact m3
  have m4 : IntKind.i64.wrap (m : Int) = (m : Int) := IntWalk.i64_in _ (by omega)
  have m5 : IntKind.i64.wrap (488 + (m : Int)) = ((488 + m : Nat) : Int) := by rw [IntWalk.i64_in _ (by omega)]; omega
  clear hm
  go_enter Tryz.func4, Tryz.ntmps4
  go_upto_region 3 with fail
  have hbA := ba1 w (.cells #[.int .i64 1, .string ⟨#[]⟩, .slice none 0 0, .slice none 0 0] 25)
  have bl := Box.new w 25 #[.int .i64 1, .string ⟨#[]⟩, .slice none 0 0, .slice none 0 0]
  obtain ⟨gv, hgv⟩ : ∃ gv, w.heap.size = gv := ⟨_, rfl⟩
  have HD0 : Hid (DpV w (w.alloc (.cells #[.int .i64 1, .string ⟨#[]⟩, .slice none 0 0, .slice none 0 0] 25)) gv (.mk 1 [] [] []) ⟨none, 0, 0⟩) := Lib.hid ⟨hbA, by rw [← hgv]; exact bl, jleaf _ _ _ _, by omega⟩
  rw [hgv]
  clear hgv hbA bl
  generalize w.alloc (.cells #[.int .i64 1, .string ⟨#[]⟩, .slice none 0 0, .slice none 0 0] 25) = W0 at *
  have hm0 : (0 : Int) ≤ (m : Int) := by omega
  go_cut [15] (fun v W => v = .bool (decide (h % 2 = 0)) ∧ W0 = W)
  case first =>
    have hcase : h % 2 = 0 ∨ h % 2 = 1 := by omega
    rcases hcase with he | he
    · have r1 : (h : Int) % 2 = 0 := by omega
      have r2 : (h : Int).tmod 2 = 0 := by rw [Int.tmod_eq_emod_of_nonneg (by omega)]; exact r1
      have hd := Lib.hid (decide_eq_true he)
      clear he
      go_wp2
      go_meet
      exact ⟨by rw [hd.out], rfl⟩
    · have r1 : (h : Int) % 2 = 1 := by omega
      have r2 : (h : Int).tmod 2 = 1 := by rw [Int.tmod_eq_emod_of_nonneg (by omega)]; exact r1
      have hd := Lib.hid (decide_eq_false (p := h % 2 = 0) (by omega))
      clear he
      go_wp2
      go_meet
      exact ⟨by rw [hd.out], rfl⟩
  case rest =>
  obtain ⟨rfl, rfl⟩ := hcut
  go_upto_if 15 with fail
  go_cut [7, 9, 10, 11] (fun s _ _ _ W => ∃ l, s = .string (tb l) ∧ DeepE w W gv l)
  case first =>
    obtain ⟨b, hb⟩ : ∃ b, decide (h % 2 = 0) = b := ⟨_, rfl⟩
    rw [hb]
    clear hb
    cases b with
    | true =>
      go_wp2_with fail
      go_loopw [7, 9] (fun s i wr => ∃ (j : Nat) (l : Bs) (v : Jv) (S : Sli), j ≤ m ∧ i = .int .i64 (j : Int) ∧ s = .string (tb l) ∧ Hid (l.length = j) ∧ Hid (wtJ v = j + 1) ∧ Hid (DpV w wr gv v S)) (fun _ i _ => m - (intOf i).toNat)
      case atStart => exact ⟨0, [], _, _, Nat.zero_le _, rfl, rfl, Lib.hid rfl, Lib.hid rfl, HD0⟩
      case round =>
        obtain ⟨j, l, v, S, hj, rfl, rfl, HL, HW, HD⟩ := hrel
        have hj0 : (0 : Int) ≤ (j : Int) := by omega
        by_cases hlt : j < m
        case pos =>
          have hji : (j : Int) < (m : Int) := by omega
          have zl : (tb l).size = j := by rw [tb_size, HL.out]
          have hap : tb l ++ ⟨#[91]⟩ = tb (l ++ [91]) := tb_app l [91]
          have HL1 : Hid ((l ++ [91]).length = j + 1) := Lib.hid (by rw [List.length_append, HL.out]; rfl)
          have HW1 : Hid (wtJ (.mk 6 [] [] [v]) = j + 1 + 1) := Lib.hid (by rw [wtJ, wtK, wtL, wtL, HW.out]; simp; omega)
          have HD1 := Lib.hid HD.out.nest
          obtain ⟨c0, c1, c2, c3⟩ := box4 HD.out.bx
          obtain ⟨SA, Sn, Sc⟩ := S
          simp only at c3 HD1
          have hb0 := (HD.out.up (ba1 wr (.cells #[.int .i64 v.k, .string (tb v.t), .slice none 0 0, .slice SA Sn Sc] 25))).bx
          have f0 := hb0.f 0
          have f1 := hb0.f 1
          have f2 := hb0.f 2
          have f3 := hb0.f 3
          obtain ⟨d0, d1, d2, d3⟩ := box4 hb0
          clear hb0
          go_wp2_with fail
          go_roundw
          case rel => exact ⟨j + 1, l ++ [91], _, _, by omega, by go_num, rfl, HL1, HW1, HD1⟩
          case measure => simp [intOf]; omega
        case neg =>
          have hji : ¬ (j : Int) < (m : Int) := by omega
          have zl : (tb l).size = j := by rw [tb_size, HL.out]
          have hap : tb l ++ ⟨#[49]⟩ = tb (l ++ [49]) := tb_app l [49]
          have HL1 : Hid ((l ++ [49]).length = j + 1) := Lib.hid (by rw [List.length_append, HL.out]; rfl)
          generalize l ++ [49] = l1 at *
          go_wp2_with fail
          go_loopw [7, 10] (fun s i wr2 => ∃ (q : Nat) (l2 : Bs), q ≤ m ∧ i = .int .i64 (q : Int) ∧ s = .string (tb l2) ∧ Hid (l2.length = j + 1 + q) ∧ wr = wr2) (fun _ i _ => m - (intOf i).toNat)
          case atStart => exact ⟨0, l1, Nat.zero_le _, rfl, rfl, HL1, rfl⟩
          case round =>
            obtain ⟨q, l2, hq, rfl, rfl, HL2, rfl⟩ := hrel
            have hq0 : (0 : Int) ≤ (q : Int) := by omega
            have HE : Hid (DeepE w wr gv l2) := Lib.hid ⟨by rw [HL2.out]; omega, v, S, HD.out, by rw [HW.out]; omega⟩
            by_cases hqt : q < m
            case pos =>
              have hqi : (q : Int) < (m : Int) := by omega
              cases cut with
              | true =>
                go_wp2_with fail
                go_meet
                exact ⟨l2, rfl, HE.out⟩
              | false =>
                have zl2 : (tb l2).size = j + 1 + q := by rw [tb_size, HL2.out]
                have hap2 : tb l2 ++ ⟨#[93]⟩ = tb (l2 ++ [93]) := tb_app l2 [93]
                have HL3 : Hid ((l2 ++ [93]).length = j + 1 + (q + 1)) := Lib.hid (by rw [List.length_append, HL2.out]; rfl)
                go_wp2_with fail
                go_roundw
                case rel => exact ⟨q + 1, l2 ++ [93], by omega, by go_num, rfl, HL3, trivial⟩
                case measure => simp [intOf]; omega
            case neg =>
              have hqi : ¬ (q : Int) < (m : Int) := by omega
              go_wp2_with fail
              go_meet
              exact ⟨l2, rfl, HE.out⟩
    | false =>
      have c0 := HD0.out.bx.c 0 rfl
      have f0 := HD0.out.bx.f 0
      have HL0 : Hid (DpL w (W0.setCell ⟨gv, 0, none⟩ (.int .i64 6)) gv ⟨none, 0, 0⟩ 0) := Lib.hid (by
        have h1 := HD0.out.bx.set 0 (.int .i64 6)
        have h2 : Box (W0.setCell ⟨gv, 0, none⟩ (.int .i64 6)) gv 25 #[.int .i64 6, .string (tb []), .slice none 0 0, .slice none 0 0] := by simpa [Jv.t] using h1
        exact ⟨HD0.out.below.setCell (p := ⟨gv, 0, none⟩) HD0.out.lo _, h2, World.ownsRow_nil _ _ _ _, HD0.out.lo⟩)
      obtain ⟨iV, hi, hz0, hz1, hz2⟩ := info_parts infoV
      go_wp2_with fail
      clear c0 f0 HD0
      generalize W0.setCell ⟨gv, 0, none⟩ (.int .i64 6) = W1 at *
      go_loopw [7, 11] (fun s i wr => ∃ (j : Nat) (l : Bs) (S : Sli), j ≤ 488 + m ∧ i = .int .i64 (j : Int) ∧ s = .string (tb l) ∧ S.n = j ∧ Hid (l.length = 2 + 2 * j) ∧ Hid (DpL w wr gv S j)) (fun _ i _ => 488 + m - (intOf i).toNat)
      case atStart => exact ⟨0, [91, 48], _, Nat.zero_le _, rfl, rfl, rfl, Lib.hid rfl, HL0⟩
      case round =>
        obtain ⟨j, l, S, hj, rfl, rfl, hSj, HL, HD⟩ := hrel
        obtain ⟨SA, Sn, Sc⟩ := S
        simp only at hSj
        subst hSj
        have hj0 : (0 : Int) ≤ (Sn : Int) := by omega
        have zl : (tb l).size = 2 + 2 * Sn := by rw [tb_size, HL.out]
        by_cases hlt : Sn < 488 + m
        case pos =>
          have hji : (Sn : Int) < 488 + (m : Int) := by omega
          have hap : tb l ++ ⟨#[44, 48]⟩ = tb (l ++ [44, 48]) := tb_app l [44, 48]
          have HL1 : Hid ((l ++ [44, 48]).length = 2 + 2 * (Sn + 1)) := Lib.hid (by rw [List.length_append, HL.out]; rfl)
          have HD5 := Lib.hid (HD.out.up (ba1 wr (.cells #[.int .i64 3, .string ⟨#[]⟩, .slice none 0 0, .slice none 0 0] 25)))
          have HSrc := Lib.hid (src_one wr 25 leafC 1 4 rfl)
          have hBw : gv + 1 ≤ (wr.alloc (.cells #[.int .i64 3, .string ⟨#[]⟩, .slice none 0 0, .slice none 0 0] 25)).heap.size := HD5.out.bx.lt
          have d3 := HD.out.bx.c 3 rfl
          clear HD
          go_wp2_with (at_builtin; refine wpList_app _ rfl _ _ 23 rfl (gv + 1) 25 iV _ 4 72 (by decide) Tryz.underlying23 hi hz0 hz1 hz2 rfl (.slice SA Sn Sc) Sn (manyC Sn) rfl HD5.out.row (some ⟨wr.heap.size, 0, none⟩) 1 1 leafC rfl HSrc.out leaf_one ?_ ?_ hBw (Sn + 1) rfl ?_; (unfold maxLen; omega); omega; intro A' c' w5 h1 h2 h3; refine Hid.out ?_)
          obtain ⟨hP3, d6, e6⟩ := HD5.out.app h1 h2
          have HD3 := Lib.hid hP3
          clear h1 h2 h3 HD5 HSrc hP3 d3
          refine Lib.hid ?_
          go_wp2
          go_roundw
          case rel => exact ⟨Sn + 1, l ++ [44, 48], ⟨A', Sn + 1, c'⟩, by omega, by go_num, rfl, rfl, HL1, HD3⟩
          case measure => simp [intOf]; omega
        case neg =>
          have hji : ¬ (Sn : Int) < 488 + (m : Int) := by omega
          have HE : ∀ l2 : Bs, l2.length ≤ 2 + 2 * Sn + 1 → Hid (DeepE w wr gv l2) := fun l2 h2 => Lib.hid ⟨by omega, _, _, HD.out.ds, by rw [wtJ, wtK, many_wt]; simp; omega⟩
          have HE1 := HE l (by rw [HL.out]; omega)
          have HE2 := HE (l ++ [93]) (by rw [List.length_append, HL.out]; exact Nat.le_refl _)
          clear HE
          cases cut with
          | true =>
            go_wp2_with fail
            go_meet
            exact ⟨l, rfl, HE1.out⟩
          | false =>
            have hap : tb l ++ ⟨#[93]⟩ = tb (l ++ [93]) := tb_app l [93]
            go_wp2_with fail
            go_meet
            exact ⟨_, rfl, HE2.out⟩
  case rest =>
  obtain ⟨l, rfl, hll, v, ⟨SA, Sn, Sc⟩, hds, hwt⟩ := hcut
  have HD1 := Lib.hid hds
  clear HD0 hds
  go_wp2_with fail
  refine (HAw.out wc (HT.out.up HD1.out.below)).mono ?_
  rintro E w1 ⟨rfl, hb1⟩
  have HD2 := Lib.hid (HD1.out.up hb1)
  clear hb1 HD1 HAw
  go_wp2_with fail
  refine (HTx.out l w1 (by omega) (HT.out.up HD2.out.below)).mono ?_
  rintro E w2 ⟨rfl, hb2⟩
  have HD3 := Lib.hid (HD2.out.up hb2)
  clear hb2 HD2 HTx
  obtain ⟨c0, c1, c2, c3⟩ := box4 HD3.out.bx
  simp only at c3
  go_wp2_with fail
  refine (HTo.out v ⟨none, 0, 0⟩ ⟨SA, Sn, Sc⟩ w2 hwt (JV.to (Keeps.same (fun _ _ _ => trivial)) _ _ HD3.out.jv) (HT.out.up HD3.out.below)).mono ?_
  rintro E w3 ⟨rfl, hb3⟩
  have hB := bon HD3.out.below hb3
  go_wp2
  go_ret
  exact ⟨by first | rfl | simp, hB⟩
end Go.Proofs.YtnkhghjcfhpeiaaGreatDoor
