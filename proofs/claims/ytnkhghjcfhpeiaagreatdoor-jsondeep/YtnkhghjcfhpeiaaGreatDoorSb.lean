/-
  The document's right and Right of values, walked.
-/
import Derived.Test.YtnkhghjcfhpeiaaGreatDoorJSa
import Derived.Test.YtnkhghjcfhpeiaaGreatDoorJJA
namespace Go.Proofs.YtnkhghjcfhpeiaaGreatDoor
open Go.RowKit

theorem wt_kid {v : Jv} : ∀ {vs : List Jv} {i : Nat}, vs[i]? = some v → wtJ v ≤ wtL vs
  | [], i, h => by simp at h
  | u :: r, 0, h => by
    simp only [List.getElem?_cons_zero, Option.some.injEq] at h
    subst h
    rw [wtL]
    omega
  | u :: r, i + 1, h => by
    have := wt_kid (vs := r) (i := i) (by simpa using h)
    rw [wtL]
    omega
theorem wt_key {k : Bs} : ∀ {ks : List Bs} {i : Nat}, ks[i]? = some k → 1 + k.length ≤ wtK ks
  | [], i, h => by simp at h
  | u :: r, 0, h => by
    simp only [List.getElem?_cons_zero, Option.some.injEq] at h
    subst h
    rw [wtK]
    omega
  | u :: r, i + 1, h => by
    have := wt_key (ks := r) (i := i) (by simpa using h)
    rw [wtK]
    omega
theorem wtKs_len : ∀ ks : List Bs, ks.length ≤ wtK ks
  | [] => Nat.le_refl _
  | k :: r => by
    have := wtKs_len r
    rw [wtK, List.length_cons]
    omega
theorem wtLs_len : ∀ vs : List Jv, vs.length ≤ wtL vs
  | [] => Nat.le_refl _
  | v :: r => by
    have := wtLs_len r
    obtain ⟨k, t, ks, vs⟩ := v
    rw [wtL, wtJ, List.length_cons]
    omega
set_option maxRecDepth 100000 in
set_option maxHeartbeats 8000000 in
theorem rright_d (P : Nat → Prop) : ∀ (d : Nat) (v : Jv) (X : Value) (w : World), d ≤ 100 → wtJ v ≤ 100000 → JV w P v X → Calls Tryz.prog 30 #[X, .int .i64 (d : Int)] w (BoolEnds (rightF d v) w) := by
  intro D
  induction D with
  | zero =>
    rintro ⟨k, t, ks, vs⟩ X w _ _ hX
    rw [JV] at hX
    obtain ⟨K, S, cs, rfl, hK, hS, hL⟩ := hX
    have hb0 := ba1 w (.cells #[.int .i64 k, .string (tb t), .slice K.A K.n K.c, .slice S.A S.n S.c] 25)
    clear hK hS hL
    go_enter Tryz.func30, Tryz.ntmps30
    go_wp2
    go_ret
    exact ⟨rfl, hb0⟩
  | succ d ih =>
    rintro ⟨k, t, ks, vs⟩ X w hd hw hX
    rw [JV] at hX
    obtain ⟨K, S, cs, rfl, hK, hS, hL⟩ := hX
    have hnk := hK.keys
    have hnv := hS.num hL
    have hsk := len0 hnk
    have hsv := len0 hnv
    have hsn := @shape_no k t ks vs
    have hwt : wtJ (.mk k t ks vs) = 1 + t.length + wtK ks + wtL vs := by rw [wtJ]
    have hlk := wtKs_len ks
    have hlv := wtLs_len vs
    obtain ⟨Q, hQ⟩ : ∃ Q, rightF (d + 1) (.mk k t ks vs) = Q := ⟨_, rfl⟩
    rw [hQ]
    have HQ : Hid (Q = (shapeJ k t ks vs && (
        if k = 1 ∨ k = 2 ∨ k = 3 then true
        else if k = 4 then numT t
        else if k = 5 then validL t
        else if k = 6 then vs.all (rightF d)
        else if k = 7 then decide (ks.length = vs.length) && vs.all (rightF d) && ks.all validL && apartL ks
        else false))) := Lib.hid (by rw [← hQ, rightF])
    clear hQ
    obtain ⟨q, hqs⟩ : ∃ q, shapeJ k t ks vs = q := ⟨_, rfl⟩
    rw [hqs] at HQ hsn
    clear hqs
    have HK := Lib.hid hK
    have HS := Lib.hid hS
    have HL := Lib.hid hL
    have IH := Lib.hid ih
    have HW : Hid (1 + t.length + wtK ks + wtL vs ≤ 100000) := Lib.hid (by omega)
    clear hK hS hL ih
    obtain ⟨KA, Kn, Kc⟩ := K
    obtain ⟨SA, Sn, Sc⟩ := S
    simp only at hnk hnv hsk hsv ⊢
    have hKn : Kn ≤ 100000 := by omega
    have hSn : Sn ≤ 100000 := by omega
    have hte : t.length ≤ 100000 := by omega
    replace hnk := Lib.hid hnk
    replace hnv := Lib.hid hnv
    replace hsk := Lib.hid hsk
    replace hsv := Lib.hid hsv
    replace hsn := Lib.hid hsn
    clear hw hwt hlk hlv
    have hb0 := Lib.hid (ba1 w (.cells #[.int .i64 k, .string (tb t), .slice KA Kn Kc, .slice SA Sn Sc] 25))
    have bx := Lib.hid (Box.new w 25 #[.int .i64 k, .string (tb t), .slice KA Kn Kc, .slice SA Sn Sc])
    obtain ⟨D1, hD1⟩ : ∃ x, d + 1 = x := ⟨_, rfl⟩
    rw [hD1]
    have hdi : ¬ (D1 : Int) < 1 := by omega
    have hwd : IntKind.i64.wrap ((D1 : Int) - 1) = (d : Int) := by rw [wrp _ (by omega) (by omega)]; omega
    clear hD1
    go_enter Tryz.func30, Tryz.ntmps30
    go_upto_region 3 with fail
    generalize w.alloc (.cells #[.int .i64 k, .string (tb t), .slice KA Kn Kc, .slice SA Sn Sc] 25) = W0 at *
    obtain ⟨g, hg⟩ : ∃ g, w.heap.size = g := ⟨_, rfl⟩
    rw [hg] at bx ⊢
    replace hg := Lib.hid hg
    obtain ⟨c0, c1, c2, c3⟩ := box4 bx.out
    go_cut [44] (fun v W => v = .bool (!q) ∧ W0 = W)
    case first =>
      by_cases h7 : k = 7
      · subst h7
        by_cases ht : t = []
        · subst ht
          have hem := tb_em
          have hqt : q = true := by
            rw [← Bool.not_eq_false, hsn.out]
            rintro (h | h | h)
            · exact h.1 rfl
            · omega
            · exact h.2.2 rfl
          subst hqt
          go_wp2
          go_meet
          exact ⟨rfl, rfl⟩
        · have hem := tb_ne ht
          have hqt : q = false := hsn.out.2 (.inr (.inr ⟨by decide, by decide, ht⟩))
          subst hqt
          go_wp2
          go_meet
          exact ⟨rfl, rfl⟩
      · have k7 : (k == 7) = false := beq_eq_false_iff_ne.2 h7
        by_cases hk0 : 0 < Kn
        · have hqt : q = false := hsn.out.2 (.inl ⟨h7, hsk.out.1 hk0⟩)
          subst hqt
          have hk0i : (0 : Int) < (Kn : Int) := by omega
          clear hk0
          go_wp2
          go_meet
          exact ⟨rfl, rfl⟩
        · have hkn : Kn = 0 := by omega
          have hks : ks = [] := Classical.byContradiction fun h => hk0 (hsk.out.2 h)
          subst hkn
          clear hk0
          by_cases h6 : k < 6
          · by_cases hs0 : 0 < Sn
            · have hqt : q = false := hsn.out.2 (.inr (.inl ⟨h6, hsv.out.1 hs0⟩))
              subst hqt
              have hs0i : (0 : Int) < (Sn : Int) := by omega
              clear hs0
              go_wp2
              go_meet
              exact ⟨rfl, rfl⟩
            · have hvn : Sn = 0 := by omega
              have hvs : vs = [] := Classical.byContradiction fun h => hs0 (hsv.out.2 h)
              subst hvn
              clear hs0
              by_cases h45 : k = 4 ∨ k = 5
              · have hqt : q = true := by
                  rw [← Bool.not_eq_false, hsn.out]
                  rintro (h | h | h)
                  · exact h.2 hks
                  · exact h.2 hvs
                  · omega
                subst hqt
                rcases h45 with rfl | rfl
                · go_wp2
                  go_meet
                  exact ⟨rfl, rfl⟩
                · go_wp2
                  go_meet
                  exact ⟨rfl, rfl⟩
              · have k4 : (k == 4) = false := beq_eq_false_iff_ne.2 (fun e => h45 (.inl e))
                have k5 : (k == 5) = false := beq_eq_false_iff_ne.2 (fun e => h45 (.inr e))
                have m4 : ¬ k = 4 := fun e => h45 (.inl e)
                have m5 : ¬ k = 5 := fun e => h45 (.inr e)
                have d6 : decide (k < 6) = true := decide_eq_true h6
                by_cases ht : t = []
                · have hem : (tb t).toList.isEmpty = true := by rw [ht]; exact tb_em
                  have hqt : q = true := by
                    rw [← Bool.not_eq_false, hsn.out]
                    rintro (h | h | h)
                    · exact h.2 hks
                    · exact h.2 hvs
                    · exact h.2.2 ht
                  subst hqt
                  clear h45 ht
                  go_wp2
                  go_meet
                  exact ⟨rfl, rfl⟩
                · have hem := tb_ne ht
                  have hqt : q = false := hsn.out.2 (.inr (.inr ⟨fun e => h45 (.inl e), fun e => h45 (.inr e), ht⟩))
                  subst hqt
                  clear h45 ht
                  go_wp2
                  go_meet
                  exact ⟨by simp [m4, m5], rfl⟩
          · have d6 : decide (k < 6) = false := decide_eq_false h6
            have m4 : ¬ k = 4 := fun e => by omega
            have m5 : ¬ k = 5 := fun e => by omega
            have k4 : (k == 4) = false := beq_eq_false_iff_ne.2 (fun e => by omega)
            have k5 : (k == 5) = false := beq_eq_false_iff_ne.2 (fun e => by omega)
            by_cases ht : t = []
            · have hem : (tb t).toList.isEmpty = true := by rw [ht]; exact tb_em
              have hqt : q = true := by
                rw [← Bool.not_eq_false, hsn.out]
                rintro (h | h | h)
                · exact h.2 hks
                · omega
                · exact h.2.2 ht
              subst hqt
              clear ht
              go_wp2
              go_meet
              exact ⟨rfl, rfl⟩
            · have hem := tb_ne ht
              have hqt : q = false := hsn.out.2 (.inr (.inr ⟨fun e => by omega, fun e => by omega, ht⟩))
              subst hqt
              clear ht
              go_wp2
              go_meet
              exact ⟨by simp [m4, m5], rfl⟩
    case rest =>
    obtain ⟨rfl, rfl⟩ := hcut
    cases q with
    | false =>
      have hq : Q = false := by rw [HQ.out, Bool.false_and]
      subst hq
      clear hsn
      go_wp2
      go_ret
      exact ⟨rfl, hb0.out⟩
    | true =>
      rw [show (!true) = false from rfl]
      have HQ1 := Lib.hid (HQ.out.trans (Bool.true_and _))
      have HSh : Hid (¬ ((k ≠ 7 ∧ ks ≠ []) ∨ (k < 6 ∧ vs ≠ []) ∨ (k ≠ 4 ∧ k ≠ 5 ∧ t ≠ []))) := Lib.hid (fun h => by have := hsn.out.2 h; cases this)
      clear hsn HQ
      by_cases h123 : k = 1 ∨ k = 2 ∨ k = 3
      · have hq : Q = true := by rw [HQ1.out, if_pos h123]
        subst hq
        clear HQ1
        rcases h123 with rfl | rfl | rfl
        · go_wp2
          go_ret
          exact ⟨rfl, hb0.out⟩
        · go_wp2
          go_ret
          exact ⟨rfl, hb0.out⟩
        · go_wp2
          go_ret
          exact ⟨rfl, hb0.out⟩
      · have HQ2 := Lib.hid (HQ1.out.trans (if_neg h123))
        clear HQ1
        by_cases h4 : k = 4
        · subst h4
          have HQ3 := Lib.hid (HQ2.out.trans (if_pos rfl))
          clear HQ2 h123
          by_cases ht : t = []
          · subst ht
            have hq : Q = false := HQ3.out
            subst hq
            have hem := tb_em
            clear HQ3
            go_wp2_with fail
            go_quiet (fail)
            go_wp2
            go_ret
            exact ⟨rfl, below_drewN hb0.out _⟩
          · have hem := tb_ne ht
            have zt : (tb t).size = t.length := tb_size t
            have HN := Lib.hid (fun W => rnumber_any t (by omega) W)
            have hq : Q = ((numberL t : Int) == (t.length : Int)) := by
              rw [HQ3.out, numT, Bool.eq_iff_iff]
              cases t with
              | nil => exact absurd rfl ht
              | cons x y => simp; omega
            generalize (numberL t : Int) = z at *
            clear HQ3 ht
            go_wp2_with fail
            go_region_law (first | (go_simp; go_at_call 50; refine (HN.out _).mono ?_; rintro e wP ⟨rfl, rfl⟩) | fail)
            all_goals
              go_wp2
              go_ret
              exact ⟨by rw [hq]; rfl, by first | exact hb0.out | exact hb0.out.drew⟩
        · have HQ3 := Lib.hid (HQ2.out.trans (if_neg h4))
          clear HQ2
          by_cases h5 : k = 5
          · subst h5
            have hq : Q = validL t := HQ3.out.trans (if_pos rfl)
            subst hq
            have HV := Lib.hid (rvalid_any t W0)
            clear HQ3
            go_wp2_with fail
            refine HV.out.mono ?_
            rintro E w1 ⟨rfl, hb⟩
            have HB1 := bon hb0.out hb
            go_wp2
            go_ret
            exact ⟨rfl, HB1⟩
          · have HQ4 := Lib.hid (HQ3.out.trans (if_neg h5))
            clear HQ3
            have n1 : (k == 1) = false := beq_eq_false_iff_ne.2 (fun e => h123 (.inl e))
            have n2 : (k == 2) = false := beq_eq_false_iff_ne.2 (fun e => h123 (.inr (.inl e)))
            have n3 : (k == 3) = false := beq_eq_false_iff_ne.2 (fun e => h123 (.inr (.inr e)))
            have n4 : (k == 4) = false := beq_eq_false_iff_ne.2 h4
            have n5 : (k == 5) = false := beq_eq_false_iff_ne.2 h5
            clear h123
            by_cases h67 : k = 6 ∨ k = 7
            case neg =>
              have hq : Q = false := by rw [HQ4.out, if_neg (fun e => h67 (.inl e)), if_neg (fun e => h67 (.inr e))]
              subst hq
              have n6 : (k == 6) = false := beq_eq_false_iff_ne.2 (fun e => h67 (.inl e))
              have n7 : (k == 7) = false := beq_eq_false_iff_ne.2 (fun e => h67 (.inr e))
              clear h67 HQ4
              go_wp2
              go_ret
              exact ⟨rfl, hb0.out⟩
            case pos =>
              have HQ5 : Hid (Q = ((if k = 7 then decide (Kn = Sn) else true) && (vs.all (rightF d) && (ks.all validL && apartL ks)))) := Lib.hid (by
                rw [HQ4.out]
                rcases h67 with rfl | rfl
                · have hks : ks = [] := Classical.byContradiction fun h => HSh.out (.inl ⟨by decide, h⟩)
                  subst hks
                  rw [if_pos rfl, if_neg (by decide)]
                  simp [apartL]
                · rw [if_neg (by decide), if_pos rfl, if_pos rfl, hnk.out, hnv.out]
                  simp only [Bool.and_assoc])
              have HQ6 : Hid ((k = 7 → Kn = Sn) → Q = (vs.all (rightF d) && (ks.all validL && apartL ks))) := Lib.hid (by
                intro h
                rw [HQ5.out]
                by_cases h7 : k = 7
                · rw [if_pos h7, decide_eq_true (h h7)]
                  rfl
                · rw [if_neg h7]
                  rfl)
              clear HSh hsk hsv HQ4 h4 h5 n1 n2 n3 n4 n5
              have hkc : k = 6 ∨ (k = 7 ∧ Kn = Sn) ∨ (k = 7 ∧ ¬ Kn = Sn) := by
                rcases h67 with h | h
                · exact .inl h
                · by_cases hkn : Kn = Sn
                  · exact .inr (.inl ⟨h, hkn⟩)
                  · exact .inr (.inr ⟨h, hkn⟩)
              clear h67
              rcases hkc with rfl | ⟨rfl, hkn⟩ | ⟨rfl, hkn⟩
              rotate_right
              · have hki : ¬ (Kn : Int) = (Sn : Int) := by omega
                have hq : Q = false := by rw [HQ5.out, if_pos rfl, decide_eq_false hkn]; rfl
                subst hq
                clear hkn HQ5 HQ6
                go_wp2
                go_ret
                exact ⟨rfl, hb0.out⟩
              all_goals
                replace HQ6 := Lib.hid (HQ6.out (fun h => by first | exact absurd h (by decide) | exact hkn))
                try have hkb : ((Kn : Int) != (Sn : Int)) = false := by rw [hkn]; simp
                try clear hkn
                clear HQ5
                go_upto_region 18 with fail
                try clear hkb
                clear c0 c1 c2 c3 hdi
                go_wp2_with fail
                go_loopw [5] (fun i wr => ∃ j : Nat, j ≤ Sn ∧ i = .int .i64 (j : Int) ∧ Hid (∀ a, a < j → ∀ x, vs[a]? = some x → rightF d x = true) ∧ Hid (Below W0.heap.size W0 wr)) (fun i _ => Sn - (intOf i).toNat)
                case atStart => exact ⟨0, Nat.zero_le _, rfl, Lib.hid (fun a ha => absurd ha (by omega)), Lib.hid (Below.refl _ _)⟩
                case round =>
                  obtain ⟨j, hj, rfl, HJ, HB⟩ := hrel
                  obtain ⟨c0, c1, c2, c3⟩ := box4 (bx.out.up HB.out)
                  by_cases hlt : j < Sn
                  case pos =>
                    have hji : (j : Int) < (Sn : Int) := by omega
                    have hj0 : (0 : Int) ≤ (j : Int) := by omega
                    obtain ⟨v, hv⟩ : ∃ v, vs[j]? = some v := ⟨_, List.getElem?_eq_getElem (by rw [← hnv.out]; exact hlt)⟩
                    obtain ⟨b1, o1, x1, x2, x3, x4, hA1, e1, e2, e3, e4, e5⟩ := (((HS.out.up hb0.out).up HB.out).kid ((HL.out.up hb0.out).up HB.out) hv)
                    simp only at hA1
                    subst hA1
                    have hwk := wt_kid hv
                    have HC := Lib.hid (IH.out v _ wr (by omega) (by have := HW.out; omega) e5)
                    have hrt := right_at HJ.out
                    have hno := Lib.hid (hrt.2 v hv)
                    clear e5 hrt hwk
                    obtain ⟨r, hr⟩ : ∃ r, rightF d v = r := ⟨_, rfl⟩
                    rw [hr] at HC hno
                    cases r with
                    | false =>
                      have hq : Q = false := by rw [HQ6.out, hno.out rfl]; rfl
                      subst hq
                      clear hv hr HQ6 hno hlt
                      go_wp2_with fail
                      refine HC.out.mono ?_
                      rintro E w1 ⟨rfl, hb⟩
                      have HB1 := bon (bon hb0.out HB.out) hb
                      go_wp2
                      go_ret
                      exact ⟨rfl, HB1⟩
                    | true =>
                      have HJ1 : Hid (∀ a, a < j + 1 → ∀ x, vs[a]? = some x → rightF d x = true) := Lib.hid (fun a ha x hx => by
                        by_cases haj : a < j
                        · exact HJ.out a haj x hx
                        · have : a = j := by omega
                          subst this
                          rw [hv] at hx
                          cases hx
                          exact hr)
                      clear hv hr hno HJ
                      go_wp2_with fail
                      refine HC.out.mono ?_
                      rintro E w1 ⟨rfl, hb⟩
                      have HB1 := Lib.hid (bon HB.out hb)
                      clear hb HC HB c0 c1 c2 c3 e1 e2 e3 e4
                      go_wp2
                      go_roundw
                      case rel => exact ⟨j + 1, by omega, by go_num, HJ1, HB1⟩
                      case measure => simp [intOf]; omega
                  case neg =>
                    have hjs : j = Sn := by omega
                    subst hjs
                    have hji : ¬ (j : Int) < (j : Int) := by omega
                    have HQ7 : Hid (Q = (ks.all validL && apartL ks)) := Lib.hid (by rw [HQ6.out, (right_at HJ.out).1 (by rw [← hnv.out]; exact Nat.le_refl _)]; rfl)
                    clear hlt HJ HQ6
                    go_wp2_with fail
                    clear c0 c1 c2 c3
                    rename World => W1
                    have HBx := Lib.hid (bon hb0.out HB.out)
                    have hb9 := bx.out.up HB.out
                    have bx1 := Lib.hid hb9
                    clear hb9 HB bx hnv
                    go_loopw [6, 7] (fun i _ wr => ∃ j : Nat, j ≤ Kn ∧ i = .int .i64 (j : Int) ∧ Hid (∀ a, a < j → ∀ x, ks[a]? = some x → validL x = true) ∧ Hid (freshL ks j) ∧ Hid (Below W1.heap.size W1 wr)) (fun i _ _ => Kn - (intOf i).toNat)
                    case atStart => exact ⟨0, Nat.zero_le _, rfl, Lib.hid (fun a ha => absurd ha (by omega)), Lib.hid (fun a b _ hb => absurd hb (by omega)), Lib.hid (Below.refl _ _)⟩
                    case round =>
                      obtain ⟨j, hj, rfl, HJ, HF, HB⟩ := hrel
                      obtain ⟨c0, c1, c2, c3⟩ := box4 (bx1.out.up HB.out)
                      by_cases hlt : j < Kn
                      case neg =>
                        have hjs : j = Kn := by omega
                        subst hjs
                        have hji : ¬ (j : Int) < (j : Int) := by omega
                        have hq : Q = true := by rw [HQ7.out, (valid_at HJ.out).1 (by rw [← hnk.out]; exact Nat.le_refl _), fresh_yes HF.out (by rw [← hnk.out]; exact Nat.le_refl _)]; rfl
                        subst hq
                        clear hlt HJ HQ7 HF
                        go_wp2
                        go_ret
                        exact ⟨rfl, bon HBx.out HB.out⟩
                      case pos =>
                        have hji : (j : Int) < (Kn : Int) := by omega
                        have hj0 : (0 : Int) ≤ (j : Int) := by omega
                        obtain ⟨x, hx⟩ : ∃ x, ks[j]? = some x := ⟨_, List.getElem?_eq_getElem (by rw [← hnk.out]; exact hlt)⟩
                        obtain ⟨b2, o2, hA2, e1⟩ := ((HK.out.up HBx.out).up HB.out).text hx
                        simp only at hA2
                        subst hA2
                        have HV := Lib.hid (rvalid_any x wr)
                        have hno := Lib.hid ((valid_at HJ.out).2 x hx)
                        obtain ⟨r, hr⟩ : ∃ r, validL x = r := ⟨_, rfl⟩
                        rw [hr] at HV hno
                        cases r with
                        | false =>
                          have hq : Q = false := by rw [HQ7.out, hno.out rfl]; rfl
                          subst hq
                          clear hx hr HQ7 hno hlt HJ HF
                          go_wp2_with fail
                          refine HV.out.mono ?_
                          rintro E w1 ⟨rfl, hb⟩
                          have HB1 := bon (bon HBx.out HB.out) hb
                          go_wp2
                          go_ret
                          exact ⟨rfl, HB1⟩
                        | true =>
                          have HJ1 : Hid (∀ a, a < j + 1 → ∀ x, ks[a]? = some x → validL x = true) := Lib.hid (fun a ha y hy => by
                            by_cases haj : a < j
                            · exact HJ.out a haj y hy
                            · have : a = j := by omega
                              subst this
                              rw [hx] at hy
                              cases hy
                              exact hr)
                          clear hr hno HJ
                          replace hx := Lib.hid hx
                          go_wp2_with fail
                          refine HV.out.mono ?_
                          rintro E w2 ⟨rfl, hb⟩
                          have HB2 := Lib.hid (bon HB.out hb)
                          clear hb HV HB c0 c1 c2 c3 e1 hji
                          go_wp2_with fail
                          go_loopw [7] (fun i wr => ∃ p : Nat, p ≤ j ∧ i = .int .i64 (p : Int) ∧ Hid (∀ a, a < p → ks[a]? ≠ some x) ∧ Hid (Below W1.heap.size W1 wr)) (fun i _ => j - (intOf i).toNat)
                          case atStart => exact ⟨0, Nat.zero_le _, rfl, Lib.hid (fun a ha => absurd ha (by omega)), HB2⟩
                          case round =>
                            obtain ⟨p, hp, rfl, HP, HB3⟩ := hrel
                            obtain ⟨c0, c1, c2, c3⟩ := box4 (bx1.out.up HB3.out)
                            by_cases hpt : p < j
                            case pos =>
                              have hpi : (p : Int) < (j : Int) := by omega
                              have hpk : (p : Int) < (Kn : Int) := by omega
                              have hjk : (j : Int) < (Kn : Int) := by omega
                              have hp0 : (0 : Int) ≤ (p : Int) := by omega
                              obtain ⟨y, hy⟩ : ∃ y, ks[p]? = some y := ⟨_, List.getElem?_eq_getElem (by rw [← hnk.out]; omega)⟩
                              obtain ⟨b3, o3, hA3, e3⟩ := ((HK.out.up HBx.out).up HB3.out).text hx.out
                              obtain ⟨b4, o4, hA4, e4⟩ := ((HK.out.up HBx.out).up HB3.out).text hy
                              simp only at hA3 hA4
                              cases hA3
                              cases hA4
                              by_cases hxy : y = x
                              · subst hxy
                                have hq : Q = false := by rw [HQ7.out, fresh_no hpt hy hx.out, Bool.and_false]
                                subst hq
                                clear hy HQ7 HP hpt
                                go_wp2_with fail
                                go_quiet (fail)
                                go_wp2
                                go_ret
                                exact ⟨rfl, below_drewN (bon HBx.out HB3.out) _⟩
                              · have hne := tl_neq hxy
                                have HP1 : Hid (∀ a, a < p + 1 → ks[a]? ≠ some x) := Lib.hid (fun a ha hax => by
                                  by_cases hap : a < p
                                  · exact HP.out a hap hax
                                  · have : a = p := by omega
                                    subst this
                                    rw [hy] at hax
                                    exact hxy (Option.some.inj hax))
                                clear hy HP hxy
                                go_wp2_with fail
                                go_quiet (fail)
                                rename_i nq
                                have HB4 := Lib.hid (below_drewN HB3.out nq)
                                clear HB3 c0 c1 c2 c3 e3 e4
                                generalize wr.drewN nq = Wd at *
                                go_wp2
                                go_roundw
                                case rel => exact ⟨p + 1, by omega, by go_num, HP1, HB4⟩
                                case measure => simp [intOf]; omega
                            case neg =>
                              have hpj : p = j := by omega
                              subst hpj
                              have hpi : ¬ (p : Int) < (p : Int) := by omega
                              have HF1 : Hid (freshL ks (p + 1)) := Lib.hid (fun a b hab hb z hz => by
                                by_cases hbp : b < p
                                · exact HF.out a b hab hbp z hz
                                · have : b = p := by omega
                                  subst this
                                  intro hbz
                                  rw [hx.out] at hbz
                                  cases hbz
                                  exact HP.out a (by omega) hz)
                              clear hpt HP
                              go_wp2
                              go_roundw
                              case rel => exact ⟨p + 1, by omega, by go_num, HJ1, HF1, HB3⟩
                              case measure => simp [intOf]; omega
end Go.Proofs.YtnkhghjcfhpeiaaGreatDoor
