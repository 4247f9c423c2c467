/-
  The walk of the law's own same: what is told of a text is what the document says.
-/
import Derived.Test.YtlnekljbmfdgnaaDoorOwnD
import Derived.Test.YtlnekljbmfdgnaaDoorRefS
namespace Go.Proofs.YtlnekljbmfdgnaaDoor
open Go.RowKit

theorem map_dl_inj {xs ys : List ByteArray} (h : xs.map dl = ys.map dl) : xs = ys := by
  induction xs generalizing ys with
  | nil => cases ys with
    | nil => rfl
    | cons y r => cases h
  | cons x r ih => cases ys with
    | nil => cases h
    | cons y t =>
      simp only [List.map_cons, List.cons.injEq] at h
      rw [dl_inj h.1, ih h.2]

set_option maxRecDepth 100000 in
set_option maxHeartbeats 4000000 in
theorem same_any (s : ByteArray) (hs : s.size ≤ 4096) (w : World) : Calls Tryd.prog 10 #[.string s] w (BoolEnds true w) := by
  have HP := Lib.hid (fun W => parse_any s hs W)
  have HRP := Lib.hid (fun W => rparse_any s hs W)
  have HN := Lib.hid (fun W => name_any s hs W)
  have HRN := Lib.hid (fun W => rname_any s hs W)
  have HV := Lib.hid (fun W => value_any s hs W)
  have HRV := Lib.hid (fun W => rvalue_any s hs W)
  have HT := Lib.hid (fun W => trim_any s hs W)
  have HRT := Lib.hid (fun W => rtrim_any s hs W)
  have HL := Lib.hid (fun W => lower_any s hs W)
  have HRL := Lib.hid (fun W => rlower_any s hs W)
  have HI := Lib.hid (fun W => items_any s hs W)
  have HRI := Lib.hid (fun W => ritems_any s hs W)
  generalize nameB (dl s) = bn at *
  generalize valueB (dl s) = bv at *
  generalize trimL (dl s) = lt at *
  generalize lowerL (dl s) = ll at *
  generalize itemsL (dl s) = li at *
  obtain ⟨cc, hcc⟩ : ∃ cc, (parse3 (dl s)).2.2 = cc := ⟨_, rfl⟩
  have HCC := Lib.hid hcc
  clear hcc
  go_enter Tryd.func10, Tryd.ntmps10
  go_wp2_with fail
  refine (HP.out _).mono ?_
  rintro e w1 ⟨a, b, c, rfl, ha, hb, hc, hb1⟩
  rw [HCC.out] at hc
  subst hc
  have HAB := Lib.hid (And.intro ha hb)
  clear ha hb
  go_wp2_with fail
  refine (HRP.out _).mono ?_
  rintro e w2 ⟨a', b', c', rfl, ha', hb', hc', hb2⟩
  rw [HCC.out] at hc'
  subst hc'
  obtain rfl : a = a' := dl_inj (HAB.out.1.trans ha'.symm)
  obtain rfl : b = b' := dl_inj (HAB.out.2.trans hb'.symm)
  clear ha' hb' HAB HCC
  have x1 := ((Box.new w1 32 #[.string a, .string b]).up hb2).alloc (.cells #[.string a, .string b] 32)
  have x2 := Box.new w2 32 #[.string a, .string b]
  obtain ⟨p0, p1, _, _⟩ := x1.two
  obtain ⟨q0, q1, _, _⟩ := x2.two
  have hB := Lib.hid (bon (bon (bon hb1 (ba1 w1 (.cells #[.string a, .string b] 32))) hb2) (ba1 w2 (.cells #[.string a, .string b] 32)))
  go_wp2_with fail
  refine (HN.out _).mono ?_
  rintro e w3 ⟨rfl, rfl⟩
  go_wp2_with fail
  refine (HRN.out _).mono ?_
  rintro e w3 ⟨rfl, rfl⟩
  go_wp2_with fail
  refine (HV.out _).mono ?_
  rintro e w3 ⟨rfl, hb3⟩
  go_wp2_with fail
  refine (HRV.out _).mono ?_
  rintro e w4 ⟨rfl, rfl⟩
  go_wp2_with fail
  refine (HT.out _).mono ?_
  rintro e w5 ⟨t, rfl, ht, hb5⟩
  go_wp2_with fail
  refine (HRT.out _).mono ?_
  rintro e w6 ⟨t', rfl, ht', rfl⟩
  obtain rfl : t = t' := dl_inj (ht.trans ht'.symm)
  go_wp2_with fail
  refine (HL.out _).mono ?_
  rintro e w7 ⟨u, rfl, hu, hb7⟩
  go_wp2_with fail
  refine (HRL.out _).mono ?_
  rintro e w8 ⟨u', rfl, hu', hb8⟩
  obtain rfl : u = u' := dl_inj (hu.trans hu'.symm)
  go_wp2_with fail
  refine (HI.out _).mono ?_
  rintro e w9 ⟨S, xs, rfl, hxs, hS, hb9⟩
  go_wp2_with fail
  refine (HRI.out _).mono ?_
  rintro e w10 ⟨S', xs', rfl, hxs', hS', hb10⟩
  obtain rfl : xs = xs' := map_dl_inj (hxs.trans hxs'.symm)
  clear ht ht' hu hu' hxs hxs'
  have HSt := Lib.hid (strings_same S S' xs w10 (hS.up hb10) hS')
  simp only [Sli.v] at HSt
  clear hS hS'
  go_wp2_with fail
  refine HSt.out.mono ?_
  rintro e w11 ⟨rfl, hb11⟩
  go_wp2
  go_ret
  exact ⟨by rfl, bon (bon (bon (bon (bon (bon (bon hB.out hb3) hb5) hb7) hb8) hb9) hb10) hb11⟩

end Go.Proofs.YtlnekljbmfdgnaaDoor
