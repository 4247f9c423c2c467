/-
  The closure of the program's object, walked over what value does.
-/
import Derived.Test.YtnkhghjcfhpeiaaGreatDoorPh
namespace Go.Proofs.YtnkhghjcfhpeiaaGreatDoor
open Go.RowKit
/-- one member more -/
def stpO (o : Nat) (a : List Bs × List Jv) (m : Nat) (l : Bs) : Except (Int × Bs) ((List Bs × List Jv) × Nat × Bs) := match textR (skipB l) with
  | .error e => .error e
  | .ok (k, l2) => if a.1.contains k = true then .error (31, skipB l) else match skipB l2 with
    | [] => .error (31, [])
    | c :: l3 => if c ≠ 58 then .error (31, c :: l3) else match runU (.val (o + 1)) m l3 with
      | .error e => .error e
      | .ok (v, m', l') => .ok ((a.1 ++ [k], a.2 ++ [v]), m', l')
theorem cut_one (x c : UInt8) (r : Bs) : cutP [x] (c :: r) = if x = c then (r, true) else (c :: r, false) := by
  unfold cutP
  by_cases h : x = c
  · rw [if_pos (by rw [List.isPrefixOf_iff_prefix, h]; exact ⟨r, rfl⟩), if_pos h]
    rfl
  · rw [if_neg, if_neg h]
    intro h1
    rw [List.isPrefixOf_iff_prefix] at h1
    obtain ⟨q, hq⟩ := h1
    exact h (List.cons.inj hq).1
theorem need_cases (e : UInt8) (l : Bs) (m o : Nat) : (skipB l = [] ∧ needP [e] l m o = .error (31, [])) ∨ ∃ c r, skipB l = c :: r ∧ ((c = e ∧ needP [e] l m o = .ok (.tuple #[], r, m, o)) ∨ (c ≠ e ∧ needP [e] l m o = .error (31, c :: r))) := by
  unfold needP
  cases hs : skipB l with
  | nil => exact .inl ⟨rfl, rfl⟩
  | cons c r =>
    refine .inr ⟨c, r, rfl, ?_⟩
    rw [cut_one]
    by_cases h : c = e
    · subst h
      exact .inl ⟨rfl, by simp⟩
    · have h1 : ¬ e = c := fun x => h x.symm
      exact .inr ⟨h, by simp [h1]⟩
/-- what is told of a key -/
theorem key_cases {g h : Nat} {s l : Bs} {m o : Nat} {ks : List Bs} {w : World} {E : Ending} {w' : World} (h1 : RdEnds g h s w (keyE ks l m (o + 1)) E w') : (∃ e r, (∀ (a : List Jv), stpO o (ks, a) m l = .error (e, r)) ∧ E = .panicked [{ v := .iface 48 (.agg #[.int .i64 e, .int .i64 ((s.length : Int) - (r.length : Int))]), recovered := false }] ∧ But g w w') ∨ (∃ k l2, (∀ (a : List Jv), stpO o (ks, a) m l = match skipB l2 with
    | [] => .error (31, [])
    | c :: l3 => if c ≠ 58 then .error (31, c :: l3) else match runU (.val (o + 1)) m l3 with
      | .error e => .error e
      | .ok (v, m', l') => .ok ((ks ++ [k], a ++ [v]), m', l')) ∧ l2.length < l.length ∧ E = .returned (.string (tb k)) ∧ But g w w' ∧ RS w' g h s l2 m (o + 1)) := by
  unfold keyE at h1
  unfold stpO
  cases ht : textR (skipB l) with
  | error er =>
    obtain ⟨e, r⟩ := er
    rw [ht] at h1
    exact .inl ⟨e, r, fun _ => rfl, h1.1, h1.2⟩
  | ok q =>
    obtain ⟨k, l2⟩ := q
    rw [ht] at h1
    simp only at h1
    have hln := (text_len ht).1
    have hsk := skip_le l
    cases hc : ks.contains k with
    | true =>
      rw [hc, if_pos rfl] at h1
      exact .inl ⟨31, skipB l, fun _ => by simp only [hc, if_true], h1.1, h1.2⟩
    | false =>
      rw [hc, if_neg (by decide)] at h1
      exact .inr ⟨k, l2, fun _ => by simp only [hc]; rfl, by omega, h1.1, h1.2.1, h1.2.2⟩
theorem row_ss {W : World} {B : Nat} {K : Sli} {ks : List Bs} (h : Row W B 9 1 K (svs (ks.map tb))) : Ss W K (ks.map tb) := h.ss
set_option maxRecDepth 100000 in
set_option maxHeartbeats 8000000 in
theorem objc_any (w0 : World) (g h gb gr gv : Nat) (s : Bs) (o N : Nat) (hs : s.length ≤ 1000000) (hN : N ≤ 1000000) (hV : VAll g h s N) (ks : List Bs) (acc : List Jv) (m : Nat) (l : Bs) (K S : Sli) (cs : List Value) (W : World) (hl : l.length ≤ N) (hm : m ≤ 500) (ho : o + 1 ≤ 16) (hct : acc.length ≤ m) (hct2 : ks.length ≤ m) (h1 : ML w0 W g h gb gr gv 7 K ks S acc cs) (r : RS W g h s l m (o + 1)) :
    Calls Tryz.prog 65 #[.pointer (some ⟨gv, 0, none⟩), .pointer (some ⟨gb, 0, none⟩)] W (CEnds (fun (a : List Bs × List Jv) W => ∃ K S cs, ML w0 W g h gb gr gv 7 K a.1 S a.2 cs) g h s (o + 1) w0 (stpO o (ks, acc) m l)) := by
  have hKn : K.n ≤ 500 := by
    have e1 := h1.krow.1
    unfold svs at e1
    rw [List.length_map, List.length_map] at e1
    omega
  have hKs : ∀ W', But g W.drew W' → Ss W' K (ks.map tb) := fun W' hb => row_ss ((h1.up (Below.refl _ _).drew).call hb (r.up (Below.refl _ _).drew).bx).krow
  have HK := Lib.hid (key_any g h s l m (o + 1) K ks W.drew hs (by omega) (r.up (Below.refl _ _).drew) hKs)
  have HM0 := Lib.hid (h1.up (Below.refl _ _).drew)
  have HR0 := Lib.hid (r.up (Below.refl _ _).drew)
  have hSn : S.n ≤ 500 := by
    have e1 := h1.vrow.1
    have e2 := h1.jl.len
    omega
  have HV := Lib.hid hV
  clear h1 r hKs hV
  have k0 : W.drew.cell? ⟨gb, 0, none⟩ = some (.pointer (some ⟨g, 0, none⟩)) := HM0.out.rb.c 0 rfl
  have k1 : W.drew.cell? ⟨gv, 2, none⟩ = some (.slice K.A K.n K.c) := HM0.out.bx.c 2 rfl
  obtain ⟨iT, hi, hz0, hz1, hz2⟩ := info_parts infoT
  obtain ⟨KA, Kn, Kc⟩ := K
  simp only at hKn k1 HK
  obtain ⟨R0, hR0⟩ : ∃ R0, stpO o (ks, acc) m l = R0 := ⟨_, rfl⟩
  rw [hR0]
  replace hR0 := Lib.hid hR0
  have hHO : Hid (o + 1 - 1 = o) := Lib.hid rfl
  go_enter Tryz.func65, Tryz.ntmps65
  go_upto_region 0 with fail
  go_cut [] (fun W1 => ∃ (k : Bs) (l2 : Bs) (K2 : Sli), (∀ (a : List Jv), stpO o (ks, a) m l = match skipB l2 with
    | [] => .error (31, [])
    | c :: l3 => if c ≠ 58 then .error (31, c :: l3) else match runU (.val (o + 1)) m l3 with
      | .error e => .error e
      | .ok (v, m', l') => .ok ((ks ++ [k], a ++ [v]), m', l')) ∧ l2.length < l.length ∧ ML w0 W1 g h gb gr gv 7 K2 (ks ++ [k]) S acc cs ∧ RS W1 g h s l2 m (o + 1))
  case first =>
    go_region_law (first
      | (go_simp; go_at_call 66; refine HK.out.mono ?_; intro E w5 h5; rcases key_cases h5 with ⟨e, rr, hr, rfl, hb5⟩ | ⟨k, l2, hr, hl2, rfl, hb5, hr5⟩; exact ⟨rfl, by rw [← hR0.out, hr acc]; exact ⟨rfl, HM0.out.but.on hb5⟩⟩; have hM5 := HM0.out.call hb5 HR0.out.bx; have hbL := ba1 w5 (.cells #[.string (tb k)] 9); have hM6 := hM5.up hbL; have hr6 := hr5.up hbL; have hS6 := Lib.hid (src_one w5 9 [.string (tb k)] 1 1 rfl); have k5 : w5.cell? ⟨gv, 2, none⟩ = some (.slice KA Kn Kc) := hM5.bx.c 2 rfl; have k6 : (w5.alloc (.cells #[.string (tb k)] 9)).cell? ⟨gv, 2, none⟩ = some (.slice KA Kn Kc) := hM6.bx.c 2 rfl; have hgs : gv + 1 ≤ (w5.alloc (.cells #[.string (tb k)] 9)).heap.size := hM6.bx.lt)
      | (refine step_app _ (by rfl) _ _ 22 (by rfl) (gv + 1) 9 iT _ 1 16 (by decide) Tryz.underlying22 hi hz0 hz1 hz2 rfl (.slice KA Kn Kc) Kn (svs (ks.map tb)) (by rfl) hM6.krow _ 1 1 [.string (tb k)] (by rfl) hS6.out (fun u hu => by rw [List.mem_singleton.1 hu]; rfl) ?_ ?_ hgs (Kn + 1) rfl ?_; (unfold maxLen; omega); omega; intro A' c' w7 q1 q2 q3; obtain ⟨h8, k8, f8, hH8⟩ := hM6.key (ks' := ks ++ [k]) (by simpa [svs] using q1) q2 q3)
      | fail)
    all_goals
      have H8 := Lib.hid h8
      have HR8 := Lib.hid (hr6.stay hM6.mr hM6.mh hH8)
      have Hr := Lib.hid hr
      have Hl := Lib.hid hl2
      clear h8 hr6 hM6 hM5 hr5 hb5 hbL k5 k6 k8 f8 hH8 q1 q2 q3 hr hl2 h5
      go_wp2_with fail
      go_meet
      exact ⟨k, l2, ⟨A', Kn + 1, c'⟩, Hr.out, Hl.out, H8.out, HR8.out⟩
  case rest =>
    obtain ⟨k, l2, ⟨KA2, Kn2, Kc2⟩, hstp, hl2, hML, hRS⟩ := hcut
    clear HK HM0 HR0 hKn k0 k1 hi hz0 hz1 hz2
    have hst := hstp acc
    rw [hR0.out] at hst
    have kb : wc.cell? ⟨gb, 0, none⟩ = some (.pointer (some ⟨g, 0, none⟩)) := hML.rb.c 0 rfl
    have HP := Lib.hid (pass_any g h s l2 [58] m (o + 1) wc hs (by omega) hRS)
    have HM2 := Lib.hid hML
    have HR2 := Lib.hid hRS
    clear hML hRS hstp hR0
    rcases need_cases 58 l2 m (o + 1) with ⟨hn, hne⟩ | ⟨c, r, hn, ⟨hc, hne⟩ | ⟨hc, hne⟩⟩
    · rw [hne] at HP
      rw [hn] at hst
      have hq : R0 = .error (31, []) := hst
      subst hq
      clear hst hn hne
      go_wp2_with fail
      refine HP.out.mono ?_
      rintro E w5 ⟨rfl, hb⟩
      have hB := HM2.out.but.on hb
      go_wp2
      exact ⟨rfl, rfl, hB⟩
    · rw [hne] at HP
      rw [hn] at hst
      have hlr : r.length ≤ N := by
        have := skip_le l2
        rw [hn, List.length_cons] at this
        omega
      have hq : R0 = match runU (.val (o + 1)) m r with
        | .error e => .error e
        | .ok (v, m', l') => .ok ((ks ++ [k], acc ++ [v]), m', l') := hst.trans (if_neg (by simp [hc]))
      have HQ := Lib.hid hq
      clear hst hn hne hq
      go_wp2_with fail
      refine HP.out.mono ?_
      rintro E w3 ⟨rfl, hb3, hr3⟩
      have h1 := HM2.out.call hb3 HR2.out.bx
      have HV2 : Hid (∀ W', RS W' g h s r m (o + 1) → Calls Tryz.prog 44 #[.pointer (some ⟨g, 0, none⟩)] W' (VEnds g h s (o + 1) W' (runU (.val (o + 1)) m r))) := Lib.hid (fun W' q => HV.out (o + 1) m r W' hlr ho hm q)
      have hbA := (ba1 w3 (.cells zlit 25)).drew
      have HM0 := Lib.hid (h1.up (Below.refl _ _).drew)
      have HR0 := Lib.hid (hr3.up (Below.refl _ _).drew)
      have HM1 := Lib.hid (h1.up hbA)
      have HR1 := Lib.hid (hr3.up hbA)
      clear h1 hr3 hb3 hbA HM2 HR2 HV kb hl2 hlr
      have k0 : w3.drew.cell? ⟨gb, 0, none⟩ = some (.pointer (some ⟨g, 0, none⟩)) := HM0.out.rb.c 0 rfl
      have k1 : w3.drew.cell? ⟨gv, 3, none⟩ = some (.slice S.A S.n S.c) := HM0.out.bx.c 3 rfl
      have k2 : (w3.alloc (.cells zlit 25)).cell? ⟨gb, 0, none⟩ = some (.pointer (some ⟨g, 0, none⟩)) := HM1.out.rb.c 0 rfl
      have k3 : (w3.alloc (.cells zlit 25)).cell? ⟨gv, 3, none⟩ = some (.slice S.A S.n S.c) := HM1.out.bx.c 3 rfl
      obtain ⟨iV, hi, hz0, hz1, hz2⟩ := info_parts infoV
      obtain ⟨SA, Sn, Sc⟩ := S
      simp only at hSn k1 k3
      have hOn : ∀ u ∈ zlit.toList, u.oneCell' = true := by
        intro u hu
        simp only [List.mem_cons, List.not_mem_nil, or_false] at hu
        rcases hu with rfl | rfl | rfl | rfl <;> rfl
      have HOn := Lib.hid hOn
      clear hOn
      have hidx0 : (0 : Int) ≤ (Sn : Int) := by omega
      have hidx1 : (Sn : Int) < (Sn : Int) + 1 := by omega
      have HLit : Hid (Box (w3.alloc (.cells zlit 25)).drew w3.heap.size 25 zlit) := Lib.hid (Box.new w3 25 zlit)
      have hgW : w3.heap.size ≠ g := by have := HR0.out.lt; exact fun e => absurd (e ▸ this) (Nat.lt_irrefl _)
      go_wp2_with fail
      go_region_law (first
        | (go_simp; go_at_call 44; refine (HV2.out _ (by first | exact HR0.out | exact HR1.out)).mono ?_; intro E w5 h5; rcases vends_cases h5 with ⟨e, rr, hr, rfl, hb5⟩ | ⟨v, m', l', K3, S3, hr, rfl, hjv, hb5, hr5⟩; exact ⟨rfl, by rw [HQ.out, hr]; exact ⟨rfl, by first | exact HM0.out.but.on hb5 | exact HM1.out.but.on hb5⟩⟩; obtain ⟨KA3, Kn3, Kc3⟩ := K3; obtain ⟨SA3, Sn3, Sc3⟩ := S3; simp only [jx] at hjv ⊢; first
          | (have hb6 : But g w3.drew w5 := hb5; have hM5 := HM0.out.call hb6 HR0.out.bx; have hj5 := HM0.out.apart hjv; have hbL := ba1 w5 (.cells zlit 25); have hM6 := hM5.up hbL; have hj6 := hj5.up hbL; have hS6 := Lib.hid (src_box (m := 1) (sz := 4) (Box.new w5 25 zlit) rfl); have hr6 := hr5.up hbL; have k5 : w5.cell? ⟨gv, 3, none⟩ = some (.slice SA Sn Sc) := hM5.bx.c 3 rfl; have k6 : (w5.alloc (.cells zlit 25)).cell? ⟨gv, 3, none⟩ = some (.slice SA Sn Sc) := hM6.bx.c 3 rfl; have hgs : gv + 1 ≤ (w5.alloc (.cells zlit 25)).heap.size := hM6.bx.lt)
          | (have hb6 : But g (w3.alloc (.cells zlit 25)).drew w5 := hb5; have hM6 := HM1.out.call hb6 HR1.out.bx; have hj6 := HM1.out.apart hjv; have hS6 := Lib.hid (src_box (m := 1) (sz := 4) (HLit.out.but hb6 hgW) rfl); have hr6 := hr5; have k6 : w5.cell? ⟨gv, 3, none⟩ = some (.slice SA Sn Sc) := hM6.bx.c 3 rfl; have hgs : gv + 1 ≤ w5.heap.size := hM6.bx.lt))
        | (refine step_app _ (by rfl) _ _ 23 (by rfl) (gv + 1) 25 iV _ 4 72 (by decide) Tryz.underlying23 hi hz0 hz1 hz2 rfl (.slice SA Sn Sc) Sn cs (by rfl) hM6.vrow _ 1 1 [.int .i64 0, .string ⟨#[]⟩, .slice none 0 0, .slice none 0 0] (by rfl) hS6.out HOn.out ?_ ?_ hgs (Sn + 1) rfl ?_; (unfold maxLen; omega); omega; intro A' c' w7 q1 q2 q3; obtain ⟨ab, rfl, hab, ⟨cz0, cz1, cz2, cz3⟩, fz, k7, f7, ⟨hMa, hHa⟩, ⟨hMb, hHb⟩⟩ := hM6.kid hj6 q1 q2 q3; have fz0 := fz (Sn * 4); have fz1 := fz (Sn * 4 + 1); have fz2 := fz (Sn * 4 + 2); have fz3 := fz (Sn * 4 + 3); have hn1 : gv ≠ ab := (by omega); have hn2 : ab ≠ gv := (by omega); clear fz)
        | fail)
      all_goals
        refine ⟨rfl, .tuple #[], end_unit rfl, ?_⟩
        rw [HQ.out, hr]
        refine ⟨rfl, ⟨⟨KA2, Kn2, Kc2⟩, ⟨some ⟨ab, 0, none⟩, Sn + 1, c'⟩, cs ++ [.int .i64 v.k, .string (tb v.t), .slice KA3 Kn3 Kc3, .slice SA3 Sn3 Sc3], ?_⟩, ?_⟩
        · with_reducible first | exact hMa | exact hMb
        · with_reducible first | exact hr6.stay hM6.mr hM6.mh hHa | exact hr6.stay hM6.mr hM6.mh hHb
    · rw [hne] at HP
      rw [hn] at hst
      have hq : R0 = .error (31, c :: r) := hst.trans (if_pos hc)
      subst hq
      clear hst hn hne
      go_wp2_with fail
      refine HP.out.mono ?_
      rintro E w5 ⟨rfl, hb⟩
      have hB := HM2.out.but.on hb
      go_wp2
      exact ⟨rfl, rfl, hB⟩
end Go.Proofs.YtnkhghjcfhpeiaaGreatDoor
