/-
  The walk of the laws' own Value: values by numbers.
-/
import Derived.Test.YtnkhghjcfhpeiaaGreatDoorJE
import Derived.Test.YtnkhghjcfhpeiaaGreatDoorJWords
import Derived.Deep.RegionLaw
namespace Go.Proofs.YtnkhghjcfhpeiaaGreatDoor
open Go.RowKit
theorem key_one : ∀ a b : Fin 4, ∀ k ∈ lsKey, lsKey[a.val]? = some k → lsKey[b.val]? = some k → a = b := by decide +kernel
theorem key_inj {a b : Nat} {k : Bs} (ha : lsKey[a]? = some k) (hb : lsKey[b]? = some k) : a = b := by
  have h1 : a < 3 := (List.getElem?_eq_some_iff.1 ha).1
  have h2 : b < 3 := (List.getElem?_eq_some_iff.1 hb).1
  have := key_one ⟨a, by omega⟩ ⟨b, by omega⟩ k (List.mem_of_getElem? ha) ha hb
  exact congrArg Fin.val this
theorem listJ_step {d j : Nat} {kd : Int} {ks ks2 : List Bs} {vs : List Jv} {v : Jv} (hj : 0 < j) (h : ListJ d kd j ks vs) (hk : (kd = 6 ∧ ks2 = ks) ∨ (kd = 7 ∧ ∃ k, lsKey[j - 1]? = some k ∧ ks2 = ks ++ [k])) (hv : MadeJ d v) : ListJ d kd (j - 1) ks2 (vs ++ [v]) := by
  obtain ⟨h1, h2, h3, h4⟩ := h
  refine ⟨by rw [List.length_append]; simp only [List.length_cons, List.length_nil]; omega, fun u hu => ?_, fun e => ?_, fun e => ?_⟩
  · rcases List.mem_append.1 hu with q | q
    · exact h2 u q
    · rw [List.mem_singleton.1 q]
      exact hv
  · rcases hk with ⟨_, rfl⟩ | ⟨e7, _⟩
    · exact h3 e
    · omega
  · rcases hk with ⟨e6, _⟩ | ⟨_, k, hk, rfl⟩
    · omega
    · obtain ⟨a, b, c⟩ := h4 e
      refine ⟨by simp [a], ?_, fun k' hk' => ?_⟩
      · rw [apart_app, b, Bool.true_and, Bool.not_eq_true', List.contains_eq_mem, decide_eq_false_iff_not]
        intro hm
        obtain ⟨i, hi, hki⟩ := c k hm
        have := key_inj hk hki
        omega
      · rcases List.mem_append.1 hk' with q | q
        · obtain ⟨i, hi, hki⟩ := c k' q
          exact ⟨i, by omega, hki⟩
        · rw [List.mem_singleton.1 q]
          exact ⟨j - 1, Nat.le_refl _, hk⟩
set_option maxRecDepth 100000 in
set_option maxHeartbeats 8000000 in
theorem jfvalue_any (A : Option Addr) (L c : Nat) (ys : List UInt8) (hl : ys.length = L) (hm : L ≤ maxLen) : ∀ (d gm : Nat) (ix : Int) (w : World), d ≤ 4 → 0 ≤ ix → ix + (cntJ d : Int) ≤ 1000 → Us w gm A ys → Box w gm 35 #[.slice A L c, .int .i64 ix] → Calls Tryz.prog 11 #[.pointer (some ⟨gm, 0, none⟩), .int .i64 (d : Int)] w (ValEnds gm A L c ix d w) := by
  intro D
  induction D using Nat.strongRecOn with
  | ind D ih =>
  intro gm ix w hd h0 h1 hU hbx
  have hc2 := cnt_ge D
  have HM := Lib.hid hm
  have HL := Lib.hid hl
  have IH := Lib.hid ih
  have HU := Lib.hid hU
  have hgm := hbx.lt
  clear ih hU
  go_enter Tryz.func11, Tryz.ntmps11
  go_wp2_with fail
  have hbA := ba1 w (.cells #[.int .i64 0, .string ⟨#[]⟩, .slice none 0 0, .slice none 0 0] 25)
  have brr := Box.new w 25 #[.int .i64 0, .string ⟨#[]⟩, .slice none 0 0, .slice none 0 0]
  obtain ⟨gr, hgr⟩ : ∃ gr, w.heap.size = gr := ⟨_, rfl⟩
  have HV0 : Hid (VS w (w.alloc (.cells #[.int .i64 0, .string ⟨#[]⟩, .slice none 0 0, .slice none 0 0] 25)) gm gr A L c ix) := Lib.hid ⟨But.of hbA, hbx.up hbA, by rw [← hgr]; exact brr, by omega, hgm⟩
  rw [hgr]
  have HGr := Lib.hid hgr
  clear brr hbA hbx hgr
  generalize w.alloc (.cells #[.int .i64 0, .string ⟨#[]⟩, .slice none 0 0, .slice none 0 0] 25) = W0 at *
  refine (pickb_any gm 9 ix A L c ys W0 HV0.out.mkr h0 (by omega) HL.out HM.out (us_but HU.out HV0.out.but hgm) (by omega) (by omega)).mono ?_
  rintro E w1 ⟨k, hk, rfl, hb1, hx1⟩
  have HV1 : Hid (VS w w1 gm gr A L c (ix + 1)) := Lib.hid ⟨HV0.out.but.on hb1, hx1, HV0.out.res.but hb1 (by have := HGr.out; omega), HV0.out.lo, hgm⟩
  clear HV0 hb1 hx1
  go_upto_region 2 with fail
  go_cut [15] (fun v W => v = .bool (decide (D = 0) && decide (4 < k)) ∧ w1 = W)
  case first =>
    by_cases hD0 : D = 0
    · subst hD0
      by_cases hk4 : 4 < k
      · have hki : (4 : Int) < (k : Int) := by omega
        have hdd := Lib.hid (decide_eq_true hk4)
        clear hk4
        go_wp2
        go_meet
        exact ⟨by rw [hdd.out]; rfl, rfl⟩
      · have hki : ¬ (4 : Int) < (k : Int) := by omega
        have hdd := Lib.hid (decide_eq_false hk4)
        clear hk4
        go_wp2
        go_meet
        exact ⟨by rw [hdd.out]; rfl, rfl⟩
    · have hDi : ¬ (D : Int) < 1 := by omega
      have hdd := Lib.hid (decide_eq_false hD0)
      clear hD0
      go_wp2
      go_meet
      exact ⟨by rw [hdd.out]; rfl, rfl⟩
  case rest =>
  obtain ⟨rfl, rfl⟩ := hcut
  go_upto_if 15 with fail
  go_cut [5] (fun v W => ∃ q : Nat, q ≤ 8 ∧ (D = 0 → q ≤ 4) ∧ v = .int .i64 (q : Int) ∧ w1 = W)
  case first =>
    cases hcc : (decide (D = 0) && decide (4 < k)) with
    | true =>
      rw [Bool.and_eq_true, decide_eq_true_eq, decide_eq_true_eq] at hcc
      have hw4 : IntKind.i64.wrap ((k : Int) - 4) = ((k - 4 : Nat) : Int) := by rw [IntWalk.i64_in _ (by omega)]; omega
      go_wp2
      go_meet
      exact ⟨k - 4, by omega, fun _ => by omega, rfl, rfl⟩
    | false =>
      have hq : D = 0 → k ≤ 4 := fun h => by
        rw [decide_eq_true h, Bool.true_and] at hcc
        exact Nat.le_of_not_lt (of_decide_eq_false hcc)
      clear hcc
      go_wp2
      go_meet
      exact ⟨k, by omega, hq, rfl, rfl⟩
  case rest =>
  obtain ⟨q, hq8, hqD, rfl, rfl⟩ := hcut
  obtain ⟨c0, c1, c2, c3⟩ := box4 HV1.out.res
  have f0 := HV1.out.res.f 0
  have f1 := HV1.out.res.f 1
  have f2 := HV1.out.res.f 2
  have f3 := HV1.out.res.f 3
  have hcase : q < 3 ∨ q = 3 ∨ (q = 4 ∨ q = 5) ∨ 5 < q := by omega
  rcases hcase with h3 | rfl | h45 | h6
  · have h3i : (q : Int) < 3 := by omega
    have hwq : IntKind.i64.wrap (1 + (q : Int)) = 1 + (q : Int) := IntWalk.i64_in _ (by omega)
    have b4 := box_set4 HV1.out.res (.int .i64 (1 + (q : Int))) (.string ⟨#[]⟩) (.slice none 0 0) (.slice none 0 0)
    obtain ⟨q0, q1, q2, q3⟩ := box4 b4
    have hbut := but_set4 (gr := gr) HV1.out.but HV1.out.lo (.int .i64 (1 + (q : Int))) (.string ⟨#[]⟩) (.slice none 0 0) (.slice none 0 0)
    have hbm := box_far4 (gr := gr) HV1.out.mkr (by have := HGr.out; omega) (.int .i64 (1 + (q : Int))) (.string ⟨#[]⟩) (.slice none 0 0) (.slice none 0 0)
    have HEnd : Hid (MadeJ D (.mk (1 + (q : Int)) [] [] [])) := Lib.hid (made_word h3)
    clear h3
    go_wp2
    refine bodyPost_ret (v := .agg #[.int .i64 (1 + (q : Int)), .string ⟨#[]⟩, .slice none 0 0, .slice none 0 0]) (by simp [results, Tryz.results11, go_sem, q0, q1, q2, q3]) rfl ?_
    exact ⟨_, ⟨none, 0, 0⟩, ⟨none, 0, 0⟩, ix + 1, rfl, HEnd.out, jleaf _ _ _ _, hbut, hbm, by omega, by omega⟩
  · clear c0 c1 c2 c3 f0 f1 f2 f3
    go_wp2_with fail
    have hbA := ba1 w1 (.cells #[.string ⟨#[48]⟩, .string ⟨#[45, 49]⟩, .string ⟨#[49, 46, 53]⟩, .string ⟨#[50, 101, 51]⟩, .string ⟨#[45, 48, 46, 49, 69, 45, 55]⟩, .string ⟨#[50, 48, 48]⟩] 9)
    have bl := Box.new w1 9 #[.string ⟨#[48]⟩, .string ⟨#[45, 49]⟩, .string ⟨#[49, 46, 53]⟩, .string ⟨#[50, 101, 51]⟩, .string ⟨#[45, 48, 46, 49, 69, 45, 55]⟩, .string ⟨#[50, 48, 48]⟩]
    obtain ⟨gl, hgl⟩ : ∃ gl, w1.heap.size = gl := ⟨_, rfl⟩
    have hgl2 : w.heap.size ≤ gl := by rw [← hgl]; exact HV1.out.but.size
    have hgl3 : gr < gl := by rw [← hgl]; exact HV1.out.res.lt
    have HV2 : Hid (VS w (w1.alloc (.cells #[.string ⟨#[48]⟩, .string ⟨#[45, 49]⟩, .string ⟨#[49, 46, 53]⟩, .string ⟨#[50, 101, 51]⟩, .string ⟨#[45, 48, 46, 49, 69, 45, 55]⟩, .string ⟨#[50, 48, 48]⟩] 9)) gm gr A L c (ix + 1)) := Lib.hid ⟨HV1.out.but.on (But.of hbA), HV1.out.mkr.up hbA, HV1.out.res.up hbA, HV1.out.lo, hgm⟩
    have HLt : Hid (Box (w1.alloc (.cells #[.string ⟨#[48]⟩, .string ⟨#[45, 49]⟩, .string ⟨#[49, 46, 53]⟩, .string ⟨#[50, 101, 51]⟩, .string ⟨#[45, 48, 46, 49, 69, 45, 55]⟩, .string ⟨#[50, 48, 48]⟩] 9)) gl 9 (svs (lsNum.map tb)).toArray) := Lib.hid (by rw [← hgl]; exact bl)
    rw [hgl]
    clear hbA bl hgl HV1
    generalize w1.alloc (.cells #[.string ⟨#[48]⟩, .string ⟨#[45, 49]⟩, .string ⟨#[49, 46, 53]⟩, .string ⟨#[50, 101, 51]⟩, .string ⟨#[45, 48, 46, 49, 69, 45, 55]⟩, .string ⟨#[50, 48, 48]⟩] 9) = W2 at *
    refine (pickb_any gm 6 (ix + 1) A L c ys W2 HV2.out.mkr (by omega) (by omega) HL.out HM.out (us_but HU.out HV2.out.but hgm) (by omega) (by omega)).mono ?_
    rintro E w3 ⟨p, hp, rfl, hb3, hx3⟩
    have HV3 : Hid (VS w w3 gm gr A L c (ix + 1 + 1)) := Lib.hid ⟨HV2.out.but.on hb3, hx3, HV2.out.res.but hb3 (by have := HGr.out; omega), HV2.out.lo, hgm⟩
    obtain ⟨x, hx, cx⟩ := lit_c (xs := lsNum) (HLt.out.but hb3 (by omega)) (p := p) hp
    have hMd : Hid (MadeJ D (.mk 4 x [] [])) := Lib.hid (made_num hx)
    clear hx hb3 hx3 HV2 HLt
    have hpi : (p : Int) < 6 := by omega
    have hp0 : (0 : Int) ≤ (p : Int) := by omega
    obtain ⟨c0, c1, c2, c3⟩ := box4 HV3.out.res
    have f0 := HV3.out.res.f 0
    have f1 := HV3.out.res.f 1
    have f2 := HV3.out.res.f 2
    have f3 := HV3.out.res.f 3
    have b4 := box_set4 HV3.out.res (.int .i64 4) (.string (tb x)) (.slice none 0 0) (.slice none 0 0)
    obtain ⟨q0, q1, q2, q3⟩ := box4 b4
    have hbut := but_set4 (gr := gr) HV3.out.but HV3.out.lo (.int .i64 4) (.string (tb x)) (.slice none 0 0) (.slice none 0 0)
    have hbm := box_far4 (gr := gr) HV3.out.mkr (by have := HGr.out; omega) (.int .i64 4) (.string (tb x)) (.slice none 0 0) (.slice none 0 0)
    go_wp2
    refine bodyPost_ret (v := .agg #[.int .i64 4, .string (tb x), .slice none 0 0, .slice none 0 0]) (by simp [results, Tryz.results11, go_sem, q0, q1, q2, q3]) rfl ?_
    exact ⟨_, ⟨none, 0, 0⟩, ⟨none, 0, 0⟩, ix + 1 + 1, rfl, hMd.out, jleaf _ _ _ _, hbut, hbm, by omega, by omega⟩
  · clear c0 c1 c2 c3 f0 f1 f2 f3
    have t3 : ¬ (q : Int) < 3 := by omega
    have t4 : ¬ (q : Int) = 3 := by omega
    have t6 : (q : Int) < 6 := by omega
    clear h45
    go_wp2_with fail
    have hbA := ba1 w1 (.cells #[.string ⟨#[]⟩, .string ⟨#[97]⟩, .string ⟨#[195, 169, 10]⟩, .string ⟨#[34]⟩, .string ⟨#[120, 32, 121]⟩] 9)
    have bl := Box.new w1 9 #[.string ⟨#[]⟩, .string ⟨#[97]⟩, .string ⟨#[195, 169, 10]⟩, .string ⟨#[34]⟩, .string ⟨#[120, 32, 121]⟩]
    obtain ⟨gl, hgl⟩ : ∃ gl, w1.heap.size = gl := ⟨_, rfl⟩
    have hgl2 : w.heap.size ≤ gl := by rw [← hgl]; exact HV1.out.but.size
    have hgl3 : gr < gl := by rw [← hgl]; exact HV1.out.res.lt
    have HV2 : Hid (VS w (w1.alloc (.cells #[.string ⟨#[]⟩, .string ⟨#[97]⟩, .string ⟨#[195, 169, 10]⟩, .string ⟨#[34]⟩, .string ⟨#[120, 32, 121]⟩] 9)) gm gr A L c (ix + 1)) := Lib.hid ⟨HV1.out.but.on (But.of hbA), HV1.out.mkr.up hbA, HV1.out.res.up hbA, HV1.out.lo, hgm⟩
    have HLt : Hid (Box (w1.alloc (.cells #[.string ⟨#[]⟩, .string ⟨#[97]⟩, .string ⟨#[195, 169, 10]⟩, .string ⟨#[34]⟩, .string ⟨#[120, 32, 121]⟩] 9)) gl 9 (svs (lsTxt.map tb)).toArray) := Lib.hid (by rw [← hgl]; exact bl)
    rw [hgl]
    clear hbA bl hgl HV1
    generalize w1.alloc (.cells #[.string ⟨#[]⟩, .string ⟨#[97]⟩, .string ⟨#[195, 169, 10]⟩, .string ⟨#[34]⟩, .string ⟨#[120, 32, 121]⟩] 9) = W2 at *
    refine (pickb_any gm 5 (ix + 1) A L c ys W2 HV2.out.mkr (by omega) (by omega) HL.out HM.out (us_but HU.out HV2.out.but hgm) (by omega) (by omega)).mono ?_
    rintro E w3 ⟨p, hp, rfl, hb3, hx3⟩
    have HV3 : Hid (VS w w3 gm gr A L c (ix + 1 + 1)) := Lib.hid ⟨HV2.out.but.on hb3, hx3, HV2.out.res.but hb3 (by have := HGr.out; omega), HV2.out.lo, hgm⟩
    obtain ⟨x, hx, cx⟩ := lit_c (xs := lsTxt) (HLt.out.but hb3 (by omega)) (p := p) hp
    have hMd : Hid (MadeJ D (.mk 5 x [] [])) := Lib.hid (made_txt hx)
    clear hx hb3 hx3 HV2 HLt
    have hpi : (p : Int) < 5 := by omega
    have hp0 : (0 : Int) ≤ (p : Int) := by omega
    obtain ⟨c0, c1, c2, c3⟩ := box4 HV3.out.res
    have f0 := HV3.out.res.f 0
    have f1 := HV3.out.res.f 1
    have f2 := HV3.out.res.f 2
    have f3 := HV3.out.res.f 3
    have b4 := box_set4 HV3.out.res (.int .i64 5) (.string (tb x)) (.slice none 0 0) (.slice none 0 0)
    obtain ⟨q0, q1, q2, q3⟩ := box4 b4
    have hbut := but_set4 (gr := gr) HV3.out.but HV3.out.lo (.int .i64 5) (.string (tb x)) (.slice none 0 0) (.slice none 0 0)
    have hbm := box_far4 (gr := gr) HV3.out.mkr (by have := HGr.out; omega) (.int .i64 5) (.string (tb x)) (.slice none 0 0) (.slice none 0 0)
    go_wp2
    refine bodyPost_ret (v := .agg #[.int .i64 5, .string (tb x), .slice none 0 0, .slice none 0 0]) (by simp [results, Tryz.results11, go_sem, q0, q1, q2, q3]) rfl ?_
    exact ⟨_, ⟨none, 0, 0⟩, ⟨none, 0, 0⟩, ix + 1 + 1, rfl, hMd.out, jleaf _ _ _ _, hbut, hbm, by omega, by omega⟩
  · have t3 : ¬ (q : Int) < 3 := by omega
    have t4 : ¬ (q : Int) = 3 := by omega
    have t6 : ¬ (q : Int) < 6 := by omega
    obtain ⟨d, rfl⟩ : ∃ d, D = d + 1 := ⟨D - 1, by omega⟩
    have hcs : cntJ (d + 1) = 3 * cntJ d + 2 := rfl
    clear hqD c0 c1 c2 c3 f0 f1 f2 f3
    have hq3 : ((q : Int) == 3) = false := beq_eq_false_iff_ne.2 t4
    go_upto_region 11 with fail
    have hbA := ba1 w1 (.cells #[.int .i64 6, .string ⟨#[]⟩, .slice none 0 0, .slice none 0 0] 25)
    have bl := Box.new w1 25 #[.int .i64 6, .string ⟨#[]⟩, .slice none 0 0, .slice none 0 0]
    obtain ⟨gv, hgv⟩ : ∃ gv, w1.heap.size = gv := ⟨_, rfl⟩
    have hgv3 : gr < gv := by rw [← hgv]; exact HV1.out.res.lt
    have HL0 : Hid (LS w (w1.alloc (.cells #[.int .i64 6, .string ⟨#[]⟩, .slice none 0 0, .slice none 0 0] 25)) gm gr gv A L c (ix + 1) 6 ⟨none, 0, 0⟩ [] ⟨none, 0, 0⟩ [] []) := Lib.hid ⟨HV1.out.but.on (But.of hbA), HV1.out.mkr.up hbA, HV1.out.res.up hbA, by rw [← hgv]; exact bl, World.ownsRow_nil _ _ _ _, World.ownsRow_nil _ _ _ _, by rw [JL], HV1.out.lo, hgv3, hgm⟩
    rw [hgv]
    clear hbA bl hgv HV1
    generalize w1.alloc (.cells #[.int .i64 6, .string ⟨#[]⟩, .slice none 0 0, .slice none 0 0] 25) = W2 at *
    go_upto_if 44 with fail
    go_cut [44] (fun v W => (∃ b, v = .bool b) ∧ ∃ kd : Int, (kd = 6 ∨ kd = 7) ∧ LS w W gm gr gv A L c (ix + 1) kd ⟨none, 0, 0⟩ [] ⟨none, 0, 0⟩ [] [])
    case first =>
      by_cases h7 : 7 < q
      · have h7i : (7 : Int) < (q : Int) := by omega
        have c0 := HL0.out.bx.c 0 rfl
        have f0 := HL0.out.bx.f 0
        have hb7 := HL0.out.bx.set 0 (.int .i64 7)
        have HL7 : Hid (LS w (W2.setCell ⟨gv, 0, none⟩ (.int .i64 7)) gm gr gv A L c (ix + 1) 7 ⟨none, 0, 0⟩ [] ⟨none, 0, 0⟩ [] []) := Lib.hid (by
          have o1 := HL0.out.lo
          have o2 := HL0.out.rv
          have o3 := HL0.out.mr
          exact ⟨but_set HL0.out.but (by omega) 0 _, HL0.out.mkr.far (p := ⟨gv, 0, none⟩) (by simp only; omega) _, HL0.out.res.far (p := ⟨gv, 0, none⟩) (by simp only; omega) _, by simpa using hb7, World.ownsRow_nil _ _ _ _, World.ownsRow_nil _ _ _ _, by rw [JL], o1, o2, o3⟩)
        clear h7 hb7
        go_wp2
        go_meet
        exact ⟨⟨_, rfl⟩, 7, .inr rfl, HL7.out⟩
      · have h7i : ¬ (7 : Int) < (q : Int) := by omega
        clear h7
        go_wp2
        go_meet
        exact ⟨⟨_, rfl⟩, 6, .inl rfl, HL0.out⟩
    case rest =>
    obtain ⟨⟨bq, rfl⟩, kd, hkd, hls⟩ := hcut
    have HLs := Lib.hid hls
    clear hls HL0 t3 t4 t6 h6
    generalize wc = W3 at *
    go_wp2_with fail
    refine (pickb_any gm 4 (ix + 1) A L c ys W3 HLs.out.mkr (by omega) (by omega) HL.out HM.out (us_but HU.out HLs.out.but hgm) (by omega) (by omega)).mono ?_
    rintro E w4 ⟨n, hn, rfl, hb4, hx4⟩
    have HL4 : Hid (LS w w4 gm gr gv A L c (ix + 1 + 1) kd ⟨none, 0, 0⟩ [] ⟨none, 0, 0⟩ [] []) := Lib.hid (HLs.out.call hb4 hx4)
    clear hb4 hx4 HLs
    go_wp2_with fail
    go_loopw [7] (fun i wr => ∃ (j : Nat) (ix2 : Int) (K S : Sli) (ks : List Bs) (vs : List Jv) (cs : List Value), i = .int .i64 (j : Int) ∧ j ≤ 3 ∧ 0 ≤ ix2 ∧ ix2 + (j * cntJ d : Nat) ≤ ix + (cntJ (d + 1) : Nat) ∧ Hid (ListJ d kd j ks vs) ∧ Hid (LS w wr gm gr gv A L c ix2 kd K ks S vs cs)) (fun i _ => (intOf i).toNat)
    case atStart =>
      refine ⟨n, ix + 1 + 1, ⟨none, 0, 0⟩, ⟨none, 0, 0⟩, [], [], [], rfl, by omega, by omega, ?_, Lib.hid (show ListJ d kd n [] [] from ⟨by simp; omega, fun v hv => absurd hv (by simp), fun _ => rfl, fun _ => ⟨rfl, rfl, fun k hk => absurd hk (by simp)⟩⟩), HL4⟩
      have : n * cntJ d ≤ 3 * cntJ d := Nat.mul_le_mul_right _ (by omega)
      rw [hcs]
      omega
    case round =>
      obtain ⟨j, ix2, K, S, ks, vs, cs, rfl, hj3, hi0, hi1, HJ, HLr⟩ := hrel
      clear HL4
      obtain ⟨KA, Kn, Kc⟩ := K
      obtain ⟨SA, Sn, Sc⟩ := S
      by_cases hj : 0 < j
      case neg =>
        obtain rfl : j = 0 := by omega
        have hMd := Lib.hid (made_list hkd HJ.out)
        obtain ⟨c0, c1, c2, c3⟩ := box4 HLr.out.bx
        obtain ⟨r0, r1, r2, r3⟩ := box4 HLr.out.res
        have f0 := HLr.out.res.f 0
        have f1 := HLr.out.res.f 1
        have f2 := HLr.out.res.f 2
        have f3 := HLr.out.res.f 3
        have b4 := box_set4 HLr.out.res (.int .i64 kd) (.string ⟨#[]⟩) (.slice KA Kn Kc) (.slice SA Sn Sc)
        obtain ⟨q0, q1, q2, q3⟩ := box4 b4
        have hbut := but_set4 (gr := gr) HLr.out.but HLr.out.lo (.int .i64 kd) (.string ⟨#[]⟩) (.slice KA Kn Kc) (.slice SA Sn Sc)
        have hbm := box_far4 (gr := gr) HLr.out.mkr (by have := HLr.out.lo; omega) (.int .i64 kd) (.string ⟨#[]⟩) (.slice KA Kn Kc) (.slice SA Sn Sc)
        have hjv : Hid (JV ((((wr.setCell ⟨gr, 0, none⟩ (.int .i64 kd)).setCell ⟨gr, 1, none⟩ (.string ⟨#[]⟩)).setCell ⟨gr, 2, none⟩ (.slice KA Kn Kc)).setCell ⟨gr, 3, none⟩ (.slice SA Sn Sc)) (fun b => w.heap.size ≤ b) (.mk kd [] ks vs) (jx (.mk kd [] ks vs) ⟨KA, Kn, Kc⟩ ⟨SA, Sn, Sc⟩)) := Lib.hid (by
          have o1 := HLr.out.lo
          have hP : ∀ b, gv + 1 ≤ b → b ≠ gr := fun b hb => by omega
          exact JV.to (Keeps.same (fun b hb _ => by omega)) _ _ (JV.to (keep_set hP) _ _ (JV.to (keep_set hP) _ _ (JV.to (keep_set hP) _ _ (JV.to (keep_set hP) _ _ HLr.out.jv)))))
        go_wp2
        refine bodyPost_ret (v := .agg #[.int .i64 kd, .string ⟨#[]⟩, .slice KA Kn Kc, .slice SA Sn Sc]) (by simp [results, Tryz.results11, go_sem, q0, q1, q2, q3]) rfl ?_
        exact ⟨_, ⟨KA, Kn, Kc⟩, ⟨SA, Sn, Sc⟩, ix2, rfl, hMd.out, hjv.out, hbut, hbm, hi0, by omega⟩
      case pos =>
        have hji : (0 : Int) < (j : Int) := by omega
        have hkd2 := Lib.hid hkd
        have hc0 := HLr.out.bx.c 0 rfl
        clear hkd
        go_upto_if 54 with fail
        clear hc0
        go_cut [54] (fun v W => (∃ b, v = .bool b) ∧ ∃ (K2 : Sli) (ks2 : List Bs), LS w W gm gr gv A L c ix2 kd K2 ks2 ⟨SA, Sn, Sc⟩ vs cs ∧ ((kd = 6 ∧ ks2 = ks) ∨ (kd = 7 ∧ ∃ k, lsKey[j - 1]? = some k ∧ ks2 = ks ++ [k])))
        case first =>
          rcases hkd2.out with rfl | rfl
          · clear hkd2
            go_wp2
            go_meet
            exact ⟨⟨_, rfl⟩, _, ks, HLr.out, by simp⟩
          · clear hkd2
            go_upto_region 17 with fail
            clear hc2 hcs
            obtain ⟨p, hp⟩ : ∃ p, j - 1 = p := ⟨_, rfl⟩
            have hw : IntKind.i64.wrap ((j : Int) - 1) = (p : Int) := by rw [IntWalk.i64_in _ (by omega)]; omega
            have hp3 : (p : Int) < 3 := by omega
            have hp0 : (0 : Int) ≤ (p : Int) := by omega
            have hpn : p < lsKey.length := by show p < 3; omega
            have Hp := Lib.hid hp
            obtain ⟨x, hx⟩ : ∃ x, lsKey[p]? = some x := ⟨_, List.getElem?_eq_getElem hpn⟩
            have Hx := Lib.hid hx
            have hbA := ba1 wr (.cells #[.string ⟨#[97]⟩, .string ⟨#[98, 92]⟩, .string ⟨#[99]⟩] 9)
            have hbB := ba1 (wr.alloc (.cells #[.string ⟨#[97]⟩, .string ⟨#[98, 92]⟩, .string ⟨#[99]⟩] 9)) (.cells #[.string (tb x)] 9)
            have bl : Box (wr.alloc (.cells #[.string ⟨#[97]⟩, .string ⟨#[98, 92]⟩, .string ⟨#[99]⟩] 9)) wr.heap.size 9 (svs (lsKey.map tb)).toArray := Box.new wr 9 #[.string ⟨#[97]⟩, .string ⟨#[98, 92]⟩, .string ⟨#[99]⟩]
            have k1 : wr.cell? ⟨gv, 2, none⟩ = some (.slice KA Kn Kc) := HLr.out.bx.c 2 rfl
            have k2 : (wr.alloc (.cells #[.string ⟨#[97]⟩, .string ⟨#[98, 92]⟩, .string ⟨#[99]⟩] 9)).cell? ⟨gv, 2, none⟩ = some (.slice KA Kn Kc) := (HLr.out.up hbA).bx.c 2 rfl
            have k3 : ((wr.alloc (.cells #[.string ⟨#[97]⟩, .string ⟨#[98, 92]⟩, .string ⟨#[99]⟩] 9)).alloc (.cells #[.string (tb x)] 9)).cell? ⟨gv, 2, none⟩ = some (.slice KA Kn Kc) := ((HLr.out.up hbA).up hbB).bx.c 2 rfl
            have kx : (wr.alloc (.cells #[.string ⟨#[97]⟩, .string ⟨#[98, 92]⟩, .string ⟨#[99]⟩] 9)).cell? ⟨wr.heap.size, p, none⟩ = some (.string (tb x)) := by
              refine bl.c p ?_
              have := List.getElem?_eq_some_iff.1 hx
              obtain ⟨h1, h2⟩ := this
              simp [svs, h2, hpn]
            clear hx bl hj hji hpn hp
            have HA := Lib.hid (hbA)
            have HB := Lib.hid (hbB)
            clear hbA hbB
            have HLX : Hid (LS w ((wr.alloc (.cells #[.string ⟨#[97]⟩, .string ⟨#[98, 92]⟩, .string ⟨#[99]⟩] 9)).alloc (.cells #[.string (tb x)] 9)).drew gm gr gv A L c ix2 7 ⟨KA, Kn, Kc⟩ ks ⟨SA, Sn, Sc⟩ vs cs) := Lib.hid (((HLr.out.up HA.out).up HB.out).up (Below.refl _ _).drew)
            have hKn : Kn ≤ 3 := by
              have e1 := HLr.out.krow.1
              obtain ⟨e2, _, _, e3⟩ := HJ.out
              have e4 := (e3 rfl).1
              simp only [svs, List.length_map] at e1
              omega
            have hgs : gv + 1 ≤ (((wr.alloc (.cells #[.string ⟨#[97]⟩, .string ⟨#[98, 92]⟩, .string ⟨#[99]⟩] 9)).alloc (.cells #[.string (tb x)] 9)).drew).heap.size := by have := HLX.out.bx.lt; omega
            have HSrc : Hid (Src (((wr.alloc (.cells #[.string ⟨#[97]⟩, .string ⟨#[98, 92]⟩, .string ⟨#[99]⟩] 9)).alloc (.cells #[.string (tb x)] 9)).drew) 1 (some ⟨wr.heap.size + 1, 0, none⟩) 1 1 [.string (tb x)]) := Lib.hid (by
              have := src_one (wr.alloc (.cells #[.string ⟨#[97]⟩, .string ⟨#[98, 92]⟩, .string ⟨#[99]⟩] 9)) 9 [.string (tb x)] 1 1 rfl
              have e : (wr.alloc (.cells #[.string ⟨#[97]⟩, .string ⟨#[98, 92]⟩, .string ⟨#[99]⟩] 9)).heap.size = wr.heap.size + 1 := by show (wr.heap.push _).size = _; simp
              rw [e] at this
              exact this)
            obtain ⟨iT, hi, hz0, hz1, hz2⟩ := info_parts infoT
            go_region_law (first
              | (refine step_app _ (by rfl) _ _ 22 (by rfl) (gv + 1) 9 iT _ 1 16 (by decide) Tryz.underlying22 hi hz0 hz1 hz2 rfl (.slice KA Kn Kc) Kn (svs (ks.map tb)) (by rfl) HLX.out.krow (some ⟨wr.heap.size + 1, 0, none⟩) 1 1 [.string (tb x)] (by rfl) HSrc.out (fun u hu => by rw [List.mem_singleton.1 hu]; rfl) ?_ ?_ hgs (Kn + 1) rfl ?_; (unfold maxLen; omega); omega; intro A' c' w4 q1 q2 q3; obtain ⟨h6, k4, f4⟩ := HLX.out.key (ks' := ks ++ [x]) (by simpa [svs] using q1) q2 q3)
              | fail)
            all_goals
              have H6 := Lib.hid h6
              clear h6 q1 q2 q3
              go_wp2_with fail
              go_meet
              exact ⟨⟨_, rfl⟩, ⟨A', Kn + 1, c'⟩, ks ++ [x], H6.out, by simp [Hp.out, Hx.out]⟩
        case rest =>
          obtain ⟨⟨bq2, rfl⟩, ⟨K2A, K2n, K2c⟩, ks2, hls2, hks⟩ := hcut
          have HKs := Lib.hid hks
          have HLd : Hid (LS w wc.drew gm gr gv A L c ix2 kd ⟨K2A, K2n, K2c⟩ ks2 ⟨SA, Sn, Sc⟩ vs cs) := Lib.hid (hls2.up (Below.refl _ _).drew)
          clear hls2 HLr hks hc2 hji
          go_upto_region 18 with fail
          have k1 : wc.cell? ⟨gv, 3, none⟩ = some (.slice SA Sn Sc) := HLd.out.bx.c 3 rfl
          have hSn : Sn ≤ 2 := by
            have e1 := HLd.out.vrow.1
            have e2 := HLd.out.jl.len
            have e3 := HJ.out.1
            simp only at e1
            omega
          have hwd : IntKind.i64.wrap (d : Int) = (d : Int) := IntWalk.i64_in _ (by omega)
          have hcm : cntJ d ≤ j * cntJ d := Nat.le_mul_of_pos_left _ hj
          obtain ⟨iV, hi, hz0, hz1, hz2⟩ := info_parts infoV
          go_region_law (first
            | (go_simp; go_at_call 11; refine (IH.out d (by omega) gm ix2 wc.drew (by omega) hi0 (by omega) (us_but HU.out HLd.out.but hgm) HLd.out.mkr).mono ?_; rintro E w5 ⟨v, K3, S3, ix', rfl, hmd, hjv, hb5, hx5, h05, h15⟩; have h5 := HLd.out.call hb5 hx5; have hap := HLd.out.apart hjv; have hbA := ba1 w5 (.cells #[.int .i64 v.k, .string (tb v.t), .slice K3.A K3.n K3.c, .slice S3.A S3.n S3.c] 25); have h6 := h5.up hbA; have hap6 := hap.up hbA; have k5 : w5.cell? ⟨gv, 3, none⟩ = some (.slice SA Sn Sc) := h5.bx.c 3 rfl; have k6 : (w5.alloc (.cells #[.int .i64 v.k, .string (tb v.t), .slice K3.A K3.n K3.c, .slice S3.A S3.n S3.c] 25)).cell? ⟨gv, 3, none⟩ = some (.slice SA Sn Sc) := h6.bx.c 3 rfl; have hgs : gv + 1 ≤ (w5.alloc (.cells #[.int .i64 v.k, .string (tb v.t), .slice K3.A K3.n K3.c, .slice S3.A S3.n S3.c] 25)).heap.size := h6.bx.lt; have HSrc := Lib.hid (src_one w5 25 [.int .i64 v.k, .string (tb v.t), .slice K3.A K3.n K3.c, .slice S3.A S3.n S3.c] 1 4 rfl); have HOn : Hid (∀ u ∈ [Value.int .i64 v.k, .string (tb v.t), .slice K3.A K3.n K3.c, .slice S3.A S3.n S3.c], u.oneCell' = true) := Lib.hid (by intro u hu; simp only [List.mem_cons, List.not_mem_nil, or_false] at hu; rcases hu with rfl | rfl | rfl | rfl <;> rfl))
            | (refine step_app _ (by rfl) _ _ 23 (by rfl) (gv + 1) 25 iV _ 4 72 (by decide) Tryz.underlying23 hi hz0 hz1 hz2 rfl (.slice SA Sn Sc) Sn cs (by rfl) h6.vrow (some ⟨w5.heap.size, 0, none⟩) 1 1 [.int .i64 v.k, .string (tb v.t), .slice K3.A K3.n K3.c, .slice S3.A S3.n S3.c] (by rfl) HSrc.out HOn.out ?_ ?_ hgs (Sn + 1) rfl ?_; (unfold maxLen; omega); omega; intro A' c' w7 q1 q2 q3; obtain ⟨h8, k8, f8⟩ := h6.kid hap6 q1 q2 q3)
            | fail)
          all_goals
            have H8 := Lib.hid h8
            have HJ2 := Lib.hid (listJ_step hj HJ.out HKs.out hmd)
            clear h8 q1 q2 q3 h5 h6 hap hap6 hbA k5 k6 hb5 hx5 hjv HLd
            have hwj : IntKind.i64.wrap ((j : Int) - 1) = ((j - 1 : Nat) : Int) := by rw [IntWalk.i64_in _ (by omega)]; omega
            go_wp2_with fail
            go_roundw
            case rel =>
              refine ⟨j - 1, ix', ⟨K2A, K2n, K2c⟩, ⟨A', Sn + 1, c'⟩, ks2, vs ++ [v], _, by go_num, by omega, h05, ?_, HJ2, H8⟩
              have e : (j - 1 + 1) * cntJ d = (j - 1) * cntJ d + cntJ d := Nat.succ_mul _ _
              rw [show j - 1 + 1 = j from by omega] at e
              omega
            case measure => simp [intOf]; omega
end Go.Proofs.YtnkhghjcfhpeiaaGreatDoor
