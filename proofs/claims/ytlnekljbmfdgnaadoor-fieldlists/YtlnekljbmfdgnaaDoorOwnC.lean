/-
  The walks of field's own Get and Drop (slices.ContainsFunc with the call's own closure).
-/
import Derived.Test.YtlnekljbmfdgnaaDoorOwnB
import Derived.Test.YtlnekljbmfdgnaaDoorRefE
import Derived.Shelf.Abstract
namespace Go.Proofs.YtlnekljbmfdgnaaDoor
open Go.RowKit

set_option maxRecDepth 100000 in
set_option maxHeartbeats 4000000 in
theorem get_any (L : Sli) (fs : List Fd) (name : ByteArray) (w : World) (hL : Fs w L fs) (hn : L.n ≤ 4096) (hf : ∀ f ∈ fs, f.1.size ≤ 4096) (hm : name.size ≤ 4096) : Calls Tryd.prog 13 #[L.v, .string name] w (SsEnds (getL fs name) w) := by
  obtain ⟨i9, hi, hz0, hz1, hz2⟩ := info_parts info9
  have HF := Lib.hid hf
  have HL := Lib.hid hL
  obtain ⟨A, n, c⟩ := L
  simp only [Sli.v] at hn ⊢
  have hlen : Hid (fs.length = n) := Lib.hid hL.len
  clear hf hL
  go_enter Tryd.func13, Tryd.ntmps13
  go_wp2_with fail
  go_loopw [10, 5] (fun i o wr => ∃ (k : Nat) (O : Sli), k ≤ n ∧ O.n ≤ k ∧ i = .int .i64 (k : Int) ∧ o = .slice O.A O.n O.c ∧ Hid (Out 9 1 w wr O (svs (getL (fs.take k) name)))) (fun i _ _ => n - (intOf i).toNat)
  case atStart => exact ⟨0, ⟨none, 0, 0⟩, by omega, Nat.le_refl _, rfl, rfl, Lib.hid (Out.nil _ _ _ _ (Below.refl _ _))⟩
  case round =>
    obtain ⟨k, O, hk, hOn, rfl, rfl, HO⟩ := hrel
    by_cases hlt : k < n
    · obtain ⟨b, o, x, y, hA, hb, hx, c1, d1⟩ := (HL.out.up HO.out.hb).cell (k := k) hlt
      simp only at hA
      subst hA
      have hxs := HF.out _ (List.mem_of_getElem? hx)
      have HM := Lib.hid (fun W => match_any x name hxs hm W)
      have HS := Lib.hid (getL_succ (name := name) hx)
      clear hx hxs
      have hki : (k : Int) < (n : Int) := by omega
      have hk0 : (0 : Int) ≤ (k : Int) := by omega
      go_wp2_with fail
      refine (HM.out _).mono ?_
      rintro e w1 ⟨rfl, hb1⟩
      have d2 : w1.cell? ⟨wr.heap.size, 1, none⟩ = some (.string y) := ((Box.new wr 32 #[.string x, .string y]).up hb1).c 1 rfl
      have HO2 := Lib.hid (HO.out.up (bon (ba1 wr (.cells #[.string x, .string y] 32)) hb1))
      clear HO c1 d1 hb1
      generalize wr.heap.size = gf at *
      by_cases hq : lowerL (dl x) = lowerL (dl name)
      · have HS2 : Hid (getL (fs.take (k + 1)) name = getL (fs.take k) name ++ [y]) := Lib.hid (by rw [HS.out, if_pos hq])
        rw [decide_eq_true hq]
        clear hq HS HM
        have HSrc := Lib.hid (src_one w1 9 (svs [y]) 1 1 rfl)
        have HO3 := Lib.hid (HO2.out.up (ba1 w1 (.cells #[.string y] 9)))
        have hBw : w.heap.size ≤ (w1.alloc (.cells #[.string y] 9)).heap.size := HO3.out.le
        clear HO2
        go_wp2_with (at_builtin; refine wpList_app _ rfl _ _ 30 rfl w.heap.size 9 i9 _ 1 16 (by decide) Tryd.underlying30 hi hz0 hz1 hz2 rfl (.slice O.A O.n O.c) O.n (svs (getL (fs.take k) name)) rfl HO3.out.row (some ⟨w1.heap.size, 0, none⟩) 1 1 (svs [y]) rfl HSrc.out (svs_one _) ?_ ?_ hBw (O.n + 1) rfl ?_; (unfold maxLen; omega); omega; intro A' c' w3 h1 h2 h3; refine Hid.out ?_)
        have HO4 := Lib.hid (HO3.out.app (cs' := svs (getL (fs.take (k + 1)) name)) (by rw [HS2.out, svs, List.map_append]; exact h1) h2)
        clear h1 h2 h3 HO3 HSrc
        refine Lib.hid ?_
        go_wp2
        go_roundw
        case rel => exact ⟨k + 1, ⟨A', O.n + 1, c'⟩, by omega, by simp only; omega, by go_num, rfl, HO4⟩
        case measure => simp [intOf]; omega
      · have HS2 : Hid (getL (fs.take (k + 1)) name = getL (fs.take k) name) := Lib.hid (by rw [HS.out, if_neg hq])
        rw [decide_eq_false hq]
        clear hq HS HM
        go_wp2
        go_roundw
        case rel => exact ⟨k + 1, O, by omega, by omega, by go_num, rfl, by rw [HS2.out]; exact HO2⟩
        case measure => simp [intOf]; omega
    · obtain rfl : k = n := by omega
      have HE : Hid (fs.take k = fs) := Lib.hid (List.take_of_length_le (by rw [hlen.out]; exact Nat.le_refl _))
      rw [HE.out] at HO
      go_wp2
      go_ret
      exact ⟨O, rfl, HO.out.row.ss, HO.out.hb⟩

set_option maxHeartbeats 1000000 in
/-- Drop's closure: does the captured field's name match? -/
theorem drop1_any (gf : Nat) (x y z : ByteArray) (hx : x.size ≤ 4096) (hz : z.size ≤ 4096) (w : World) (hb : Box w gf 32 #[.string x, .string y]) : Calls Tryd.prog 32 #[.string z, .pointer (some ⟨gf, 0, none⟩)] w (BoolEnds (decide (lowerL (dl x) = lowerL (dl z))) w) := by
  obtain ⟨c0, c1, _, _⟩ := hb.two
  have HM := Lib.hid (fun W => match_any x z hx hz W)
  go_enter Tryd.func32, Tryd.ntmps32
  go_wp2_with fail
  refine (HM.out _).mono ?_
  rintro e w1 ⟨rfl, hb1⟩
  go_wp2
  go_ret
  exact ⟨rfl, hb1⟩

set_option maxRecDepth 100000 in
set_option maxHeartbeats 2000000 in
theorem indexFunc_any (gf : Nat) (x y : ByteArray) (N : Sli) (ns : List ByteArray) (w : World) (hN : Ss w N ns) (hn : N.n ≤ 4096) (hx : x.size ≤ 4096) (hns : ∀ z ∈ ns, z.size ≤ 4096) (hb : Box w gf 32 #[.string x, .string y]) :
    Calls Tryd.prog 40 #[N.v, .func (.func 32) #[] #[.pointer (some ⟨gf, 0, none⟩)]] w fun e w' => ∃ i : Int, e = .returned (.int .i64 i) ∧ decide (0 ≤ i) = hitL x ns ∧ Below w.heap.size w w' := by
  have HN := Lib.hid hN
  have HNS := Lib.hid hns
  have HB := Lib.hid hb
  obtain ⟨A, n, c⟩ := N
  simp only [Sli.v] at hn ⊢
  have hlen : Hid (ns.length = n) := Lib.hid hN.len
  have eg : ∀ args w, (callFunc 32 args).run Tryd.prog w = .ok (.enter 32 args) w := enters_of Tryd.func32 (by kernel_rfl) rfl
  clear hN hns hb
  go_enter Tryd.func40, Tryd.ntmps40
  go_wp2_with fail
  go_loopw [8] (fun i wr => ∃ k : Nat, k ≤ n ∧ i = .int .i64 (k : Int) ∧ Hid (hitL x (ns.take k) = false) ∧ Below w.heap.size w wr) (fun i _ => n - (intOf i).toNat)
  case atStart => exact ⟨0, Nat.zero_le _, rfl, Lib.hid rfl, Below.refl _ _⟩
  case round =>
    obtain ⟨k, hk, rfl, HK, hbel⟩ := hrel
    by_cases hlt : k < n
    · obtain ⟨b, o, z, hA, hb, hz, c1⟩ := (HN.out.up hbel).cell (k := k) hlt
      simp only at hA
      subst hA
      have hzs := HNS.out _ (List.mem_of_getElem? hz)
      have HH := Lib.hid (hit_succ (x := x) hz)
      have HC := Lib.hid (drop1_any gf x y z hx hzs wr (HB.out.up hbel))
      have HZ := Lib.hid hz
      clear hz hzs
      go_wp2_with fail
      refine HC.out.mono ?_
      rintro e w2 ⟨rfl, hb2⟩
      by_cases hq : lowerL (dl x) = lowerL (dl z)
      · have HE : Hid (hitL x ns = true) := Lib.hid (by
          unfold hitL
          rw [List.any_eq_true]
          exact ⟨z, List.mem_of_getElem? HZ.out, decide_eq_true hq⟩)
        rw [decide_eq_true hq]
        clear hq
        go_wp2
        go_ret
        exact ⟨_, rfl, by rw [HE.out]; exact decide_eq_true (by omega), bon hbel hb2⟩
      · have HE : Hid (hitL x (ns.take (k + 1)) = false) := Lib.hid (by rw [HH.out, HK.out, decide_eq_false hq]; rfl)
        rw [decide_eq_false hq]
        clear hq
        go_wp2
        go_roundw
        case rel => exact ⟨k + 1, by omega, by go_num, HE, bon hbel hb2⟩
        case measure => simp [intOf]; omega
    · obtain rfl : k = n := by omega
      have HE : Hid (hitL x ns = false) := Lib.hid (by have := HK.out; rw [List.take_of_length_le (by rw [hlen.out]; exact Nat.le_refl _)] at this; exact this)
      go_wp2
      go_ret
      exact ⟨_, rfl, by rw [HE.out]; rfl, hbel⟩

set_option maxHeartbeats 1000000 in
theorem contains_any (gf : Nat) (x y : ByteArray) (N : Sli) (ns : List ByteArray) (w : World) (hN : Ss w N ns) (hn : N.n ≤ 4096) (hx : x.size ≤ 4096) (hns : ∀ z ∈ ns, z.size ≤ 4096) (hb : Box w gf 32 #[.string x, .string y]) :
    Calls Tryd.prog 31 #[N.v, .func (.func 32) #[] #[.pointer (some ⟨gf, 0, none⟩)]] w (BoolEnds (hitL x ns) w) := by
  have HC := Lib.hid (indexFunc_any gf x y N ns w hN hn hx hns hb)
  clear hN hns hb
  simp only [Sli.v] at HC ⊢
  go_enter Tryd.func31, Tryd.ntmps31
  go_wp2_with fail
  refine HC.out.mono ?_
  rintro e w1 ⟨i, rfl, hi, hb1⟩
  have HI := Lib.hid hi
  clear hi
  go_wp2
  go_ret
  exact ⟨ret_bool HI.out, hb1⟩

set_option maxRecDepth 100000 in
set_option maxHeartbeats 4000000 in
theorem drop_any (L N : Sli) (fs : List Fd) (ns : List ByteArray) (w : World) (hL : Fs w L fs) (hN : Ss w N ns) (hn : L.n ≤ 4096) (hm : N.n ≤ 4096) (hf : ∀ f ∈ fs, f.1.size ≤ 4096) (hns : ∀ y ∈ ns, y.size ≤ 4096) : Calls Tryd.prog 16 #[L.v, N.v] w (FsEnds (dropL fs ns) w) := by
  obtain ⟨i32, hi, hz0, hz1, hz2⟩ := info_parts info32
  have HF := Lib.hid hf
  have HL := Lib.hid hL
  have HC := Lib.hid (fun gf x y W (hW : Below w.heap.size w W) (hx : x.size ≤ 4096) (hb : Box W gf 32 #[.string x, .string y]) => contains_any gf x y N ns W (hN.up hW) hm hx hns hb)
  obtain ⟨A, n, c⟩ := L
  obtain ⟨A2, m, c2⟩ := N
  simp only [Sli.v] at hn hm HC ⊢
  have hlen : Hid (fs.length = n) := Lib.hid hL.len
  clear hf hL hN hns
  go_enter Tryd.func16, Tryd.ntmps16
  go_wp2_with fail
  go_loopw [10, 5] (fun i o wr => ∃ (k : Nat) (O : Sli), k ≤ n ∧ O.n ≤ k ∧ i = .int .i64 (k : Int) ∧ o = .slice O.A O.n O.c ∧ Hid (Out 32 2 w wr O (fvs (dropL (fs.take k) ns)))) (fun i _ _ => n - (intOf i).toNat)
  case atStart => exact ⟨0, ⟨none, 0, 0⟩, by omega, Nat.le_refl _, rfl, rfl, Lib.hid (Out.nil _ _ _ _ (Below.refl _ _))⟩
  case round =>
    obtain ⟨k, O, hk, hOn, rfl, rfl, HO⟩ := hrel
    by_cases hlt : k < n
    · obtain ⟨b, o, x, y, hA, hb, hx, c1, d1⟩ := (HL.out.up HO.out.hb).cell (k := k) hlt
      simp only at hA
      subst hA
      have hxs := HF.out _ (List.mem_of_getElem? hx)
      have HS := Lib.hid (dropL_succ (ns := ns) hx)
      clear hx
      have hki : (k : Int) < (n : Int) := by omega
      have hk0 : (0 : Int) ≤ (k : Int) := by omega
      have HCk := Lib.hid (HC.out wr.heap.size x y _ (bon HO.out.hb (ba1 wr (.cells #[.string x, .string y] 32))) hxs (Box.new wr 32 #[.string x, .string y]))
      go_wp2_with fail
      refine HCk.out.mono ?_
      rintro e w1 ⟨rfl, hb1⟩
      have bx := (Box.new wr 32 #[.string x, .string y]).up hb1
      have HO2 := Lib.hid (HO.out.up (bon (ba1 wr (.cells #[.string x, .string y] 32)) hb1))
      clear HO c1 d1 hb1 HCk
      generalize wr.heap.size = gf at *
      obtain ⟨c1, d1, _, _⟩ := bx.two
      cases hh : hitL x ns with
      | true =>
        have HS2 : Hid (dropL (fs.take (k + 1)) ns = dropL (fs.take k) ns) := Lib.hid (by rw [HS.out, hh]; rfl)
        clear hh HS
        go_wp2
        go_roundw
        case rel => exact ⟨k + 1, O, by omega, by omega, by go_num, rfl, by rw [HS2.out]; exact HO2⟩
        case measure => simp [intOf]; omega
      | false =>
        have HS2 : Hid (dropL (fs.take (k + 1)) ns = dropL (fs.take k) ns ++ [(x, y)]) := Lib.hid (by rw [HS.out, hh]; rfl)
        clear hh HS
        have HSrc := Lib.hid (src_one w1 32 (fvs [(x, y)]) 1 2 rfl)
        have HO3 := Lib.hid (HO2.out.up (ba1 w1 (.cells #[.string x, .string y] 32)))
        have hBw : w.heap.size ≤ (w1.alloc (.cells #[.string x, .string y] 32)).heap.size := HO3.out.le
        clear HO2
        go_wp2_with (at_builtin; refine wpList_app _ rfl _ _ 29 rfl w.heap.size 32 i32 _ 2 32 (by decide) Tryd.underlying29 hi hz0 hz1 hz2 rfl (.slice O.A O.n O.c) O.n (fvs (dropL (fs.take k) ns)) rfl HO3.out.row (some ⟨w1.heap.size, 0, none⟩) 1 1 (fvs [(x, y)]) rfl HSrc.out (fvs_one _) ?_ ?_ hBw (O.n + 1) rfl ?_; (unfold maxLen; omega); omega; intro A' c' w3 h1 h2 h3; refine Hid.out ?_)
        have HO4 := Lib.hid (HO3.out.app (cs' := fvs (dropL (fs.take (k + 1)) ns)) (by rw [HS2.out, fvs_app]; exact h1) h2)
        clear h1 h2 h3 HO3 HSrc
        refine Lib.hid ?_
        go_wp2
        go_roundw
        case rel => exact ⟨k + 1, ⟨A', O.n + 1, c'⟩, by omega, by simp only; omega, by go_num, rfl, HO4⟩
        case measure => simp [intOf]; omega
    · obtain rfl : k = n := by omega
      have HE : Hid (fs.take k = fs) := Lib.hid (List.take_of_length_le (by rw [hlen.out]; exact Nat.le_refl _))
      rw [HE.out] at HO
      go_wp2
      go_ret
      exact ⟨O, rfl, HO.out.row.fs, HO.out.hb⟩

end Go.Proofs.YtlnekljbmfdgnaaDoor
