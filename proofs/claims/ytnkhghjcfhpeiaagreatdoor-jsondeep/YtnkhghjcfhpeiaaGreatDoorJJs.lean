/-
  The document's Same of values, walked.
-/
import Derived.Test.YtnkhghjcfhpeiaaGreatDoorJWords
import Derived.Test.YtnkhghjcfhpeiaaGreatDoorJQn
import Derived.Deep.RegionHeld3
import Derived.Deep.RegionLaw
import Derived.Deep.Upon
import Derived.Deep.Cut
import Derived.Deep.CutBlock
namespace Go.Proofs.YtnkhghjcfhpeiaaGreatDoor
open Go.RowKit

theorem tl_neq {a b : Bs} (h : a ≠ b) : ((tb a).toList == (tb b).toList) = false := beq_eq_false_iff_ne.2 fun e => h (by
  rw [Go.ByteArray.toList_eq, Go.ByteArray.toList_eq] at e
  exact e)
theorem box4 {w : World} {g : Nat} {ty : TypeId} {a b c d : Value} (h : Box w g ty #[a, b, c, d]) : w.cell? ⟨g, 0, none⟩ = some a ∧ w.cell? ⟨g, 1, none⟩ = some b ∧ w.cell? ⟨g, 2, none⟩ = some c ∧ w.cell? ⟨g, 3, none⟩ = some d := ⟨h.c 0 rfl, h.c 1 rfl, h.c 2 rfl, h.c 3 rfl⟩
theorem held10 {W X w' : World} {a0 a1 a2 a3 a4 a5 a6 a7 a8 a9 : Addr} {v0 v1 v2 v3 v4 v5 v6 v7 v8 v9 : Value} (hb : Below X.heap.size X w')
    (h : Below W.heap.size W X ∧ X.cell? a0 = some v0 ∧ X.cell? a1 = some v1 ∧ X.cell? a2 = some v2 ∧ X.cell? a3 = some v3 ∧ X.cell? a4 = some v4 ∧ X.cell? a5 = some v5 ∧ X.cell? a6 = some v6 ∧ X.cell? a7 = some v7 ∧ X.cell? a8 = some v8 ∧ X.cell? a9 = some v9) :
    Below W.heap.size W w' ∧ w'.cell? a0 = some v0 ∧ w'.cell? a1 = some v1 ∧ w'.cell? a2 = some v2 ∧ w'.cell? a3 = some v3 ∧ w'.cell? a4 = some v4 ∧ w'.cell? a5 = some v5 ∧ w'.cell? a6 = some v6 ∧ w'.cell? a7 = some v7 ∧ w'.cell? a8 = some v8 ∧ w'.cell? a9 = some v9 := by
  obtain ⟨h, h0, h1, h2, h3, h4, h5, h6, h7, h8, h9⟩ := h
  exact ⟨bon h hb, cell_up hb h0, cell_up hb h1, cell_up hb h2, cell_up hb h3, cell_up hb h4, cell_up hb h5, cell_up hb h6, cell_up hb h7, cell_up hb h8, cell_up hb h9⟩
theorem nodes_at {vs : List Jv} {i : Nat} {v : Jv} (h : vs[i]? = some v) : nodesJ v ≤ nodesL vs := by
  induction vs generalizing i with
  | nil => simp at h
  | cons u r ih =>
    rw [nodesL]
    cases i with
    | zero => simp at h; subst h; omega
    | succ i =>
      have := ih (i := i) (by simpa using h)
      omega
theorem sameL_at {vs us : List Jv} (h : vs.length = us.length) {i : Nat} (hi : ∀ j, j < i → ∀ a b, vs[j]? = some a → us[j]? = some b → sameJ a b = true) : (i = vs.length → sameL vs us = true) ∧ (∀ a b, vs[i]? = some a → us[i]? = some b → sameJ a b = false → sameL vs us = false) := by
  induction vs generalizing us i with
  | nil =>
    cases us with
    | nil => exact ⟨fun _ => by simp [sameL], fun a b h => by simp at h⟩
    | cons x r => cases h
  | cons v r ih =>
    cases us with
    | nil => cases h
    | cons u s =>
      simp only [List.length_cons, Nat.add_right_cancel_iff] at h
      cases i with
      | zero =>
        refine ⟨fun h => (by cases h), fun a b ha hb hs => ?_⟩
        simp only [List.getElem?_cons_zero, Option.some.injEq] at ha hb
        rw [sameL, ha, hb, hs]
        rfl
      | succ i =>
        have h0 := hi 0 (by omega) v u rfl rfl
        obtain ⟨k1, k2⟩ := ih h (i := i) (fun j hj a b ha hb => hi (j + 1) (by omega) a b (by simpa using ha) (by simpa using hb))
        refine ⟨fun h => ?_, fun a b ha hb hs => ?_⟩
        · rw [sameL, h0, k1 (by simpa using h)]
          rfl
        · rw [sameL, h0, k2 a b (by simpa using ha) (by simpa using hb) hs]
          rfl
set_option maxRecDepth 100000 in
set_option maxHeartbeats 4000000 in
theorem rsame11_any (P : Nat → Prop) : ∀ (n : Nat) (a b : Jv) (X Y : Value) (w : World), nodesJ a ≤ n → JV w P a X → JV w P b Y → Calls Tryz.prog 19 #[X, Y] w (BoolEnds (sameJ a b) w) := by
  intro N
  induction N with
  | zero =>
    intro a b X Y w h
    have := nodes_pos a
    omega
  | succ N ih =>
    rintro ⟨k, t, ks, vs⟩ ⟨k2, t2, ks2, vs2⟩ X Y w hn hX hY
    rw [JV] at hX hY
    obtain ⟨K, S, cs, rfl, hK, hS, hL⟩ := hX
    obtain ⟨K2, S2, cs2, rfl, hK2, hS2, hL2⟩ := hY
    have hnk := hK.keys
    have hnk2 := hK2.keys
    have hnv := hS.num hL
    have hnv2 := hS2.num hL2
    rw [nodesJ] at hn
    obtain ⟨Q, hQ⟩ : ∃ Q, sameJ (.mk k t ks vs) (.mk k2 t2 ks2 vs2) = Q := ⟨_, rfl⟩
    rw [hQ]
    have HQ : Hid (Q = (decide (k = k2) && decide (t = t2) && decide (ks = ks2) && sameL vs vs2)) := Lib.hid (by rw [← hQ, sameJ])
    clear hQ
    have HK := Lib.hid hK
    have HK2 := Lib.hid hK2
    have HS := Lib.hid hS
    have HS2 := Lib.hid hS2
    have HL := Lib.hid hL
    have HL2 := Lib.hid hL2
    have HM : Hid (K.n ≤ maxLen ∧ S.n ≤ maxLen) := Lib.hid ⟨Nat.le_trans hK.le.1 hK.le.2, Nat.le_trans hS.le.1 hS.le.2⟩
    have IH := Lib.hid ih
    have HN := Lib.hid hn
    clear hK hK2 hS hS2 hL hL2 ih hn
    obtain ⟨KA, Kn, Kc⟩ := K
    obtain ⟨SA, Sn, Sc⟩ := S
    obtain ⟨KA2, Kn2, Kc2⟩ := K2
    obtain ⟨SA2, Sn2, Sc2⟩ := S2
    simp only at hnk hnk2 hnv hnv2 ⊢
    replace hnk := Lib.hid hnk
    replace hnk2 := Lib.hid hnk2
    replace hnv := Lib.hid hnv
    replace hnv2 := Lib.hid hnv2
    have hb0 := ba2 w (.cells #[.int .i64 k, .string (tb t), .slice KA Kn Kc, .slice SA Sn Sc] 25) (.cells #[.int .i64 k2, .string (tb t2), .slice KA2 Kn2 Kc2, .slice SA2 Sn2 Sc2] 25)
    have bx1 := (Box.new w 25 #[.int .i64 k, .string (tb t), .slice KA Kn Kc, .slice SA Sn Sc]).alloc (.cells #[.int .i64 k2, .string (tb t2), .slice KA2 Kn2 Kc2, .slice SA2 Sn2 Sc2] 25)
    have bx2 := Box.mk' (w.alloc (.cells #[.int .i64 k, .string (tb t), .slice KA Kn Kc, .slice SA Sn Sc] 25)) 25 #[.int .i64 k2, .string (tb t2), .slice KA2 Kn2 Kc2, .slice SA2 Sn2 Sc2] (w.heap.size + 1) (by simp)
    obtain ⟨c0, c1, c2, c3⟩ := box4 bx1
    obtain ⟨d0, d1, d2, d3⟩ := box4 bx2
    go_enter Tryz.func19, Tryz.ntmps19
    have hcase : k ≠ k2 ∨ (k = k2 ∧ t ≠ t2) ∨ (k = k2 ∧ t = t2 ∧ Kn ≠ Kn2) ∨ (k = k2 ∧ t = t2 ∧ Kn = Kn2 ∧ Sn ≠ Sn2) ∨ (k = k2 ∧ t = t2 ∧ Kn = Kn2 ∧ Sn = Sn2) := by
      by_cases h1 : k = k2
      · by_cases h2 : t = t2
        · by_cases h3 : Kn = Kn2
          · by_cases h4 : Sn = Sn2
            · exact .inr (.inr (.inr (.inr ⟨h1, h2, h3, h4⟩)))
            · exact .inr (.inr (.inr (.inl ⟨h1, h2, h3, h4⟩)))
          · exact .inr (.inr (.inl ⟨h1, h2, h3⟩))
        · exact .inr (.inl ⟨h1, h2⟩)
      · exact .inl h1
    rcases hcase with h1 | ⟨rfl, h2⟩ | ⟨rfl, rfl, h3⟩ | ⟨rfl, rfl, rfl, h4⟩ | ⟨rfl, rfl, rfl, rfl⟩
    · have hq : Q = false := by rw [HQ.out, decide_eq_false h1]; rfl
      subst hq
      have e1 : (k == k2) = false := beq_eq_false_iff_ne.2 h1
      go_wp2
      go_ret
      exact ⟨rfl, hb0⟩
    · have hq : Q = false := by rw [HQ.out, decide_eq_false h2, Bool.and_false]; rfl
      subst hq
      have e1 := tl_neq h2
      go_wp2
      go_ret
      exact ⟨rfl, hb0⟩
    · have hq : Q = false := by rw [HQ.out, decide_eq_false (show ¬ ks = ks2 by rintro rfl; have := hnk.out; have := hnk2.out; omega), Bool.and_false]; rfl
      subst hq
      have e1 : ((Kn : Int) == (Kn2 : Int)) = false := beq_eq_false_iff_ne.2 (by omega)
      have e2 : ¬ (Kn : Int) = (Kn2 : Int) := by omega
      go_wp2
      go_ret
      exact ⟨rfl, hb0⟩
    · have hq : Q = false := by
        have : sameL vs vs2 = false := by
          cases hh : sameL vs vs2 with
          | false => rfl
          | true =>
            have := (sameL_iff vs vs2).1 hh
            subst this
            have := hnv.out
            have := hnv2.out
            omega
        rw [HQ.out, this, Bool.and_false]
      subst hq
      have e1 : ((Sn : Int) == (Sn2 : Int)) = false := beq_eq_false_iff_ne.2 (by omega)
      have e2 : ¬ (Sn : Int) = (Sn2 : Int) := by omega
      go_wp2
      go_ret
      exact ⟨rfl, hb0⟩
    · go_wp2_with fail
      have HB0 := Lib.hid hb0
      have hmk := HM.out
      unfold maxLen at hmk
      generalize (w.alloc (.cells #[.int .i64 k, .string (tb t), .slice KA Kn Kc, .slice SA Sn Sc] 25)).alloc (.cells #[.int .i64 k, .string (tb t), .slice KA2 Kn Kc2, .slice SA2 Sn Sc2] 25) = W0 at *
      have hbx : Hid (Box W0 w.heap.size 25 #[.int .i64 k, .string (tb t), .slice KA Kn Kc, .slice SA Sn Sc] ∧ Box W0 (w.heap.size + 1) 25 #[.int .i64 k, .string (tb t), .slice KA2 Kn Kc2, .slice SA2 Sn Sc2]) := Lib.hid ⟨bx1, bx2⟩
      clear bx1 bx2 c0 c1 c2 c3 d0 d1 d2 d3 hb0
      go_loopw [5] (fun i wr => ∃ j : Nat, j ≤ Kn ∧ i = .int .i64 (j : Int) ∧ Hid (ks.take j = ks2.take j) ∧ Hid (Below W0.heap.size W0 wr)) (fun i _ => Kn - (intOf i).toNat)
      case atStart => exact ⟨0, Nat.zero_le _, rfl, Lib.hid rfl, Lib.hid (Below.refl _ _)⟩
      case round =>
        obtain ⟨j, hj, rfl, HT, HB⟩ := hrel
        obtain ⟨c0, c1, c2, c3⟩ := box4 (hbx.out.1.up HB.out)
        obtain ⟨d0, d1, d2, d3⟩ := box4 (hbx.out.2.up HB.out)
        by_cases hlt : j < Kn
        case pos =>
          have hji : (j : Int) < (Kn : Int) := by omega
          have hj0 : (0 : Int) ≤ (j : Int) := by omega
          have hl1 : j < ks.length := by have := hnk.out; omega
          have hl2 : j < ks2.length := by have := hnk2.out; omega
          have hg1 : ks[j]? = some ks[j] := List.getElem?_eq_getElem hl1
          have hg2 : ks2[j]? = some ks2[j] := List.getElem?_eq_getElem hl2
          obtain ⟨b1, o1, hA1, e1⟩ := ((HK.out.up HB0.out).up HB.out).text hg1
          obtain ⟨b2, o2, hA2, e2⟩ := ((HK2.out.up HB0.out).up HB.out).text hg2
          simp only at hA1 hA2
          subst hA1
          subst hA2
          by_cases hkk : ks[j] = ks2[j]
          case pos =>
            have HT1 : Hid (ks.take (j + 1) = ks2.take (j + 1)) := Lib.hid (by rw [List.take_add_one, List.take_add_one, hg1, hg2, HT.out, hkk])
            rw [hkk] at e1
            generalize ks2[j] = x at *
            clear hg1 hg2 hkk
            go_wp2_with fail
            go_quiet (fail)
            go_wp2
            go_roundw
            case rel => exact ⟨j + 1, by omega, by go_num, HT1, Lib.hid (below_drewN HB.out _)⟩
            case measure => simp [intOf]; omega
          case neg =>
            have hq : Q = false := by
              rw [HQ.out, decide_eq_false (show ¬ ks = ks2 by rintro rfl; exact hkk rfl), Bool.and_false]
              rfl
            subst hq
            have e3 := tl_neq hkk
            generalize ks2[j] = x at *
            generalize ks[j] = y at *
            clear hg1 hg2 hkk
            go_wp2_with fail
            go_quiet (fail)
            go_wp2
            go_ret
            exact ⟨rfl, below_drewN (bon HB0.out HB.out) _⟩
        case neg =>
          have hjk : j = Kn := by omega
          subst hjk
          have HKS : Hid (ks = ks2) := Lib.hid (by
            have h := HT.out
            rw [List.take_of_length_le (by have := hnk.out; omega), List.take_of_length_le (by have := hnk2.out; omega)] at h
            exact h)
          have hlen : Hid (vs.length = vs2.length) := Lib.hid (by have := hnv.out; have := hnv2.out; omega)
          have hji : ¬ (j : Int) < (j : Int) := by omega
          clear hlt
          go_wp2_with fail
          go_loopw [6] (fun i wr => ∃ q : Nat, q ≤ Sn ∧ i = .int .i64 (q : Int) ∧ Hid (∀ p, p < q → ∀ a b, vs[p]? = some a → vs2[p]? = some b → sameJ a b = true) ∧ Hid (Below W0.heap.size W0 wr)) (fun i _ => Sn - (intOf i).toNat)
          case atStart => exact ⟨0, Nat.zero_le _, rfl, Lib.hid (fun p h => by omega), HB⟩
          case round =>
            obtain ⟨q, hq, rfl, HE, HB⟩ := hrel
            clear c0 c1 c2 c3 d0 d1 d2 d3
            obtain ⟨c0, c1, c2, c3⟩ := box4 (hbx.out.1.up HB.out)
            obtain ⟨d0, d1, d2, d3⟩ := box4 (hbx.out.2.up HB.out)
            by_cases hlt : q < Sn
            case pos =>
              have hqi : (q : Int) < (Sn : Int) := by omega
              have hq0 : (0 : Int) ≤ (q : Int) := by omega
              have hl1 : q < vs.length := by have := hnv.out; omega
              have hl2 : q < vs2.length := by have := hnv2.out; omega
              have hg1 : vs[q]? = some vs[q] := List.getElem?_eq_getElem hl1
              have hg2 : vs2[q]? = some vs2[q] := List.getElem?_eq_getElem hl2
              obtain ⟨b1, o1, x1, x2, x3, x4, hA1, e1, e2, e3, e4, e5⟩ := ((HS.out.up HB0.out).up HB.out).kid ((HL.out.up HB0.out).up HB.out) hg1
              obtain ⟨b2, o2, y1, y2, y3, y4, hA2, f1, f2, f3, f4, f5⟩ := ((HS2.out.up HB0.out).up HB.out).kid ((HL2.out.up HB0.out).up HB.out) hg2
              simp only at hA1 hA2
              subst hA1
              subst hA2
              have HCall := Lib.hid (fun (W : World) (hW : Below wr.heap.size wr W) => IH.out vs[q] vs2[q] _ _ W (by have := nodes_at hg1; have := HN.out; omega) (e5.up hW) (f5.up hW))
              have HS5 := Lib.hid (sameL_at hlen.out (i := q) HE.out)
              generalize vs[q] = v1 at *
              generalize vs2[q] = v2 at *
              obtain ⟨z, hz⟩ : ∃ z, sameJ v1 v2 = z := ⟨_, rfl⟩
              rw [hz] at HCall
              clear e5 f5 hl1 hl2
              have hg1' := Lib.hid hg1
              have hg2' := Lib.hid hg2
              clear hg1 hg2
              go_upto_region 11 with fail
              go_region_held3 (fun W' => Below wr.heap.size wr W' ∧ W'.cell? ⟨w.heap.size, 3, none⟩ = some (.slice (some ⟨b1, o1, none⟩) Sn Sc) ∧ W'.cell? ⟨w.heap.size + 1, 3, none⟩ = some (.slice (some ⟨b2, o2, none⟩) Sn Sc2) ∧ W'.cell? ⟨b1, o1 + q * 4, none⟩ = some x1 ∧ W'.cell? ⟨b1, o1 + q * 4 + 1, none⟩ = some x2 ∧ W'.cell? ⟨b1, o1 + q * 4 + 2, none⟩ = some x3 ∧ W'.cell? ⟨b1, o1 + q * 4 + 3, none⟩ = some x4 ∧ W'.cell? ⟨b2, o2 + q * 4, none⟩ = some y1 ∧ W'.cell? ⟨b2, o2 + q * 4 + 1, none⟩ = some y2 ∧ W'.cell? ⟨b2, o2 + q * 4 + 2, none⟩ = some y3 ∧ W'.cell? ⟨b2, o2 + q * 4 + 3, none⟩ = some y4)
                (first | exact ⟨(Below.refl _ _).drew, c3, d3, e1, e2, e3, e4, f1, f2, f3, f4⟩ | exact held10 hbP (by assumption) | fail)
                (first
                  | (go_at_call 19; refine (HCall.out _ ((Below.refl wr.heap.size wr).drew)).mono ?_; rintro E wP ⟨rfl, hbP⟩)
                  | fail)
              rename_i hHeld
              have hd := bon HB.out hHeld.1
              clear hHeld
              cases z with
              | true =>
                have HE1 : Hid (∀ p, p < q + 1 → ∀ a b, vs[p]? = some a → vs2[p]? = some b → sameJ a b = true) := Lib.hid (fun p hp a b ha hb => by
                  by_cases hpq : p < q
                  · exact HE.out p hpq a b ha hb
                  · obtain rfl : p = q := by omega
                    rw [hg1'.out] at ha
                    rw [hg2'.out] at hb
                    rw [← Option.some.inj ha, ← Option.some.inj hb]
                    exact hz)
                go_wp2_with fail
                go_roundw
                case rel => exact ⟨q + 1, by omega, by go_num, HE1, Lib.hid hd⟩
                case measure => simp [intOf]; omega
              | false =>
                have hQf : Q = false := by rw [HQ.out, HS5.out.2 v1 v2 hg1'.out hg2'.out hz, Bool.and_false]
                subst hQf
                go_wp2
                go_ret
                exact ⟨rfl, bon HB0.out hd⟩
            case neg =>
              have hqs : q = Sn := by omega
              subst hqs
              have hqi : ¬ (q : Int) < (q : Int) := by omega
              have hQt : Q = true := by
                rw [HQ.out, (sameL_at hlen.out (i := q) HE.out).1 hnv.out, decide_eq_true HKS.out]
                simp
              subst hQt
              clear hlt
              go_wp2
              go_ret
              exact ⟨rfl, bon HB0.out HB.out⟩
end Go.Proofs.YtnkhghjcfhpeiaaGreatDoor

/-
  The document's Nodes, walked.
-/
namespace Go.Proofs.YtnkhghjcfhpeiaaGreatDoor
open Go.RowKit

theorem nodesL_app : ∀ a b : List Jv, nodesL (a ++ b) = nodesL a + nodesL b
  | [], b => by simp [nodesL]
  | v :: r, b => by
    rw [List.cons_append, nodesL, nodesL, nodesL_app r b]
    omega
theorem nodes_succ {vs : List Jv} {i : Nat} {v : Jv} (h : vs[i]? = some v) : nodesL (vs.take (i + 1)) = nodesL (vs.take i) + nodesJ v := by
  rw [List.take_add_one, h, nodesL_app]
  show nodesL (vs.take i) + nodesL [v] = _
  rw [nodesL, nodesL]
  rfl
/-- a number is handed back -/
def NumEnds (n : Int) (w : World) (e : Ending) (w' : World) : Prop := e = .returned (.int .i64 n) ∧ Below w.heap.size w w'
set_option maxRecDepth 100000 in
set_option maxHeartbeats 4000000 in
theorem rnodes_any (P : Nat → Prop) : ∀ (n : Nat) (v : Jv) (X : Value) (M : Nat) (w : World), nodesJ v ≤ n → 1 ≤ M → M ≤ 1000000 → JV w P v X → Calls Tryz.prog 29 #[X, .int .i64 (M : Int)] w (NumEnds ((min (nodesJ v) M : Nat) : Int) w) := by
  intro N
  induction N with
  | zero =>
    intro v X M w h
    have := nodes_pos v
    omega
  | succ N ih =>
    rintro ⟨k, t, ks, vs⟩ X M w hn hM1 hM2 hX
    rw [JV] at hX
    obtain ⟨K, S, cs, rfl, hK, hS, hL⟩ := hX
    have hnv := Lib.hid (hS.num hL)
    rw [nodesJ] at hn ⊢
    have HS := Lib.hid hS
    have HL := Lib.hid hL
    have IH := Lib.hid ih
    have HN := Lib.hid hn
    have hSm : S.n ≤ maxLen := Nat.le_trans hS.le.1 hS.le.2
    unfold maxLen at hSm
    clear hK hS hL ih hn
    obtain ⟨KA, Kn, Kc⟩ := K
    obtain ⟨SA, Sn, Sc⟩ := S
    simp only at hnv hSm ⊢
    obtain ⟨R, hR⟩ : ∃ R, min (nodesL vs + 1) M = R := ⟨_, rfl⟩
    rw [hR]
    replace hR := Lib.hid hR
    go_enter Tryz.func29, Tryz.ntmps29
    have HB0 := Lib.hid (ba1 w (.cells #[.int .i64 k, .string (tb t), .slice KA Kn Kc, .slice SA Sn Sc] 25))
    have hbx := Lib.hid (Box.new w 25 #[.int .i64 k, .string (tb t), .slice KA Kn Kc, .slice SA Sn Sc])
    go_wp2_with fail
    generalize w.alloc (.cells #[.int .i64 k, .string (tb t), .slice KA Kn Kc, .slice SA Sn Sc] 25) = W0 at *
    go_loopw [5, 6] (fun n i wr => ∃ (j q : Nat), j ≤ Sn ∧ i = .int .i64 (j : Int) ∧ n = .int .i64 (q : Int) ∧ 1 ≤ q ∧ q ≤ M ∧ Hid (q = min (nodesL (vs.take j) + 1) M) ∧ Hid (Below W0.heap.size W0 wr)) (fun _ i _ => Sn - (intOf i).toNat)
    case atStart => exact ⟨0, 1, Nat.zero_le _, rfl, rfl, by omega, by omega, Lib.hid (by rw [List.take_zero, nodesL]; omega), Lib.hid (Below.refl _ _)⟩
    case round =>
      obtain ⟨j, q, hj, rfl, rfl, hq1, hqM, HQ, HB⟩ := hrel
      obtain ⟨c0, c1, c2, c3⟩ := box4 (hbx.out.up HB.out)
      by_cases hlt : j < Sn
      case neg =>
        have hjs : j = Sn := by omega
        subst hjs
        have hji : ¬ (j : Int) < (j : Int) := by omega
        have hqR : q = R := by
          rw [← hR.out, HQ.out, List.take_of_length_le (by have := hnv.out; omega)]
        subst hqR
        clear hlt
        go_wp2
        go_ret
        exact ⟨rfl, bon HB0.out HB.out⟩
      case pos =>
        have hji : (j : Int) < (Sn : Int) := by omega
        have hj0 : (0 : Int) ≤ (j : Int) := by omega
        by_cases hqm : q < M
        case neg =>
          have hqi : ¬ (q : Int) < (M : Int) := by omega
          have hqR : q = R := by
            have h := HQ.out
            have h2 : nodesL (vs.take j) ≤ nodesL vs := by
              have h3 := nodesL_app (vs.take j) (vs.drop j)
              rw [List.take_append_drop] at h3
              omega
            rw [← hR.out]
            omega
          subst hqR
          go_wp2
          go_ret
          exact ⟨rfl, bon HB0.out HB.out⟩
        case pos =>
          have hqi : (q : Int) < (M : Int) := by omega
          have hl1 : j < vs.length := by have := hnv.out; omega
          have hg1 : vs[j]? = some vs[j] := List.getElem?_eq_getElem hl1
          obtain ⟨b1, o1, x1, x2, x3, x4, hA1, e1, e2, e3, e4, e5⟩ := ((HS.out.up HB0.out).up HB.out).kid ((HL.out.up HB0.out).up HB.out) hg1
          simp only at hA1
          subst hA1
          obtain ⟨D, hD⟩ : ∃ D, M - q = D := ⟨_, rfl⟩
          have hDi : IntKind.i64.wrap ((M : Int) - (q : Int)) = (D : Int) := by rw [IntWalk.i64_in _ (by omega)]; omega
          have HCall := Lib.hid (IH.out vs[j] _ D wr (by have := nodes_at hg1; have := HN.out; omega) (by omega) (by omega) e5)
          have HNs := Lib.hid (nodes_succ hg1)
          obtain ⟨m, hm⟩ : ∃ m, min (nodesJ vs[j]) D = m := ⟨_, rfl⟩
          rw [hm] at HCall
          have hmD : m ≤ D := by omega
          have hqm2 : IntKind.i64.wrap ((q : Int) + (m : Int)) = ((q + m : Nat) : Int) := by rw [IntWalk.i64_in _ (by omega)]; omega
          have HQ1 : Hid (q + m = min (nodesL (vs.take (j + 1)) + 1) M) := Lib.hid (by
            have h := HQ.out
            rw [HNs.out]
            omega)
          clear e5 hl1 hg1 hm HNs
          go_wp2_with fail
          refine HCall.out.mono ?_
          rintro E w1 ⟨rfl, hb1⟩
          have HB1 := Lib.hid (bon HB.out hb1)
          clear hb1 HCall HB
          go_wp2
          go_roundw
          case rel => exact ⟨j + 1, q + m, by omega, by go_num, by go_num, by omega, by omega, HQ1, HB1⟩
          case measure => simp [intOf]; omega
end Go.Proofs.YtnkhghjcfhpeiaaGreatDoor
