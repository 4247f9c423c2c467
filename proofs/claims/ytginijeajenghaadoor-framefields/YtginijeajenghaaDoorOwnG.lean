/-
  The walk of field's own Get.
-/
import Derived.Test.YtginijeajenghaaDoorRefI
import Derived.Test.YtginijeajenghaaDoorOwnB
namespace Go.Proofs.YtginijeajenghaaDoor
open Go.RowKit


set_option maxRecDepth 100000 in
set_option maxHeartbeats 4000000 in
theorem get_any (L : Sli) (fs : List Fd) (name : ByteArray) (w : World) (hL : Fs w L fs) (hn : L.n ≤ 4096) (hf : ∀ f ∈ fs, f.1.size ≤ 4096) (hm : name.size ≤ 4096) : Calls Tryd.prog 24 #[L.v, .string name] w (SsEnds (getL fs name) w) := by
  obtain ⟨i9, hi, hz0, hz1, hz2⟩ := info_parts info9
  have HF := Lib.hid hf
  have HL := Lib.hid hL
  obtain ⟨A, n, c⟩ := L
  simp only [Sli.v] at hn ⊢
  have hlen : Hid (fs.length = n) := Lib.hid hL.len
  clear hf hL
  go_enter Tryd.func24, Tryd.ntmps24
  go_wp2_with fail
  go_loopw [10, 5] (fun i o wr => ∃ (k : Nat) (O : Sli), k ≤ n ∧ O.n ≤ k ∧ i = .int .i64 (k : Int) ∧ o = .slice O.A O.n O.c ∧ Hid (Out 9 1 w wr O (svs (getL (fs.take k) name)))) (fun i _ _ => n - (intOf i).toNat)
  case atStart => exact ⟨0, ⟨none, 0, 0⟩, by omega, Nat.le_refl _, rfl, rfl, Lib.hid (Out.nil _ _ _ _ (Below.refl _ _))⟩
  case round =>
    obtain ⟨k, O, hk, hOn, rfl, rfl, HO⟩ := hrel
    by_cases hlt : k < n
    · obtain ⟨b, o, x, y, hA, hb, hx, c1, d1⟩ := (HL.out.up HO.out.hb).cell (k := k) hlt
      simp only at hA
      subst hA
      have hxs := HF.out _ (List.mem_of_getElem? hx)
      have HM := Lib.hid (fun W => match_any x name hxs hm W)
      have HS := Lib.hid (getL_succ (name := name) hx)
      clear hx hxs
      have hki : (k : Int) < (n : Int) := by omega
      have hk0 : (0 : Int) ≤ (k : Int) := by omega
      go_wp2_with fail
      refine (HM.out _).mono ?_
      rintro e w1 ⟨rfl, hb1⟩
      have d2 : w1.cell? ⟨wr.heap.size, 1, none⟩ = some (.string y) := ((Box.new wr 32 #[.string x, .string y]).up hb1).c 1 rfl
      have HO2 := Lib.hid (HO.out.up (bon (ba1 wr (.cells #[.string x, .string y] 32)) hb1))
      clear HO c1 d1 hb1
      generalize wr.heap.size = gf at *
      by_cases hq : lowerL (dl x) = lowerL (dl name)
      · have HS2 : Hid (getL (fs.take (k + 1)) name = getL (fs.take k) name ++ [y]) := Lib.hid (by rw [HS.out, if_pos hq])
        rw [decide_eq_true hq]
        clear hq HS HM
        have HSrc := Lib.hid (src_one w1 9 (svs [y]) 1 1 rfl)
        have HO3 := Lib.hid (HO2.out.up (ba1 w1 (.cells #[.string y] 9)))
        have hBw : w.heap.size ≤ (w1.alloc (.cells #[.string y] 9)).heap.size := HO3.out.le
        clear HO2
        go_wp2_with (at_builtin; refine wpList_app _ rfl _ _ 27 rfl w.heap.size 9 i9 _ 1 16 (by decide) Tryd.underlying27 hi hz0 hz1 hz2 rfl (.slice O.A O.n O.c) O.n (svs (getL (fs.take k) name)) rfl HO3.out.row (some ⟨w1.heap.size, 0, none⟩) 1 1 (svs [y]) rfl HSrc.out (svs_one _) ?_ ?_ hBw (O.n + 1) rfl ?_; (unfold maxLen; omega); omega; intro A' c' w3 h1 h2 h3; refine Hid.out ?_)
        have HO4 := Lib.hid (HO3.out.app (cs' := svs (getL (fs.take (k + 1)) name)) (by rw [HS2.out, svs, List.map_append]; exact h1) h2)
        clear h1 h2 h3 HO3 HSrc
        refine Lib.hid ?_
        go_wp2
        go_roundw
        case rel => exact ⟨k + 1, ⟨A', O.n + 1, c'⟩, by omega, by simp only; omega, by go_num, rfl, HO4⟩
        case measure => simp [intOf]; omega
      · have HS2 : Hid (getL (fs.take (k + 1)) name = getL (fs.take k) name) := Lib.hid (by rw [HS.out, if_neg hq])
        rw [decide_eq_false hq]
        clear hq HS HM
        go_wp2
        go_roundw
        case rel => exact ⟨k + 1, O, by omega, by omega, by go_num, rfl, by rw [HS2.out]; exact HO2⟩
        case measure => simp [intOf]; omega
    · obtain rfl : k = n := by omega
      have HE : Hid (fs.take k = fs) := Lib.hid (List.take_of_length_le (by rw [hlen.out]; exact Nat.le_refl _))
      rw [HE.out] at HO
      go_wp2
      go_ret
      exact ⟨O, rfl, HO.out.row.ss, HO.out.hb⟩

end Go.Proofs.YtginijeajenghaaDoor
