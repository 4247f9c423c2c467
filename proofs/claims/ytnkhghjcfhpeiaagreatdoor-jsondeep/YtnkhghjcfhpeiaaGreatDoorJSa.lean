/-
  The document's right and Right of values, walked.
-/
import Derived.Test.YtnkhghjcfhpeiaaGreatDoorRg
import Derived.Test.YtnkhghjcfhpeiaaGreatDoorJu
import Derived.Test.YtnkhghjcfhpeiaaGreatDoorJJA
import Derived.Deep.DeepCutAuto
namespace Go.Proofs.YtnkhghjcfhpeiaaGreatDoor
open Go.RowKit

theorem shape_no {k : Int} {t : Bs} {ks : List Bs} {vs : List Jv} : shapeJ k t ks vs = false ↔ (k ≠ 7 ∧ ks ≠ []) ∨ (k < 6 ∧ vs ≠ []) ∨ (k ≠ 4 ∧ k ≠ 5 ∧ t ≠ []) := by
  unfold shapeJ
  cases ks <;> cases vs <;> cases t <;> simp <;> omega
theorem len0 {α : Type} {l : List α} {n : Nat} (h : n = l.length) : (0 < n ↔ l ≠ []) := by
  cases l <;> simp at h ⊢ <;> omega
theorem right_at {d : Nat} {vs : List Jv} {i : Nat} (hi : ∀ j, j < i → ∀ a, vs[j]? = some a → rightF d a = true) : (vs.length ≤ i → vs.all (rightF d) = true) ∧ (∀ a, vs[i]? = some a → rightF d a = false → vs.all (rightF d) = false) := by
  constructor
  · intro h
    rw [List.all_eq_true]
    intro x hx
    obtain ⟨j, hj, rfl⟩ := List.mem_iff_getElem.1 hx
    exact hi j (by omega) _ (List.getElem?_eq_getElem hj)
  · intro a ha hr
    rw [List.all_eq_false]
    exact ⟨a, List.mem_of_getElem? ha, by rw [hr]; decide⟩
theorem valid_at {ks : List Bs} {i : Nat} (hi : ∀ j, j < i → ∀ a, ks[j]? = some a → validL a = true) : (ks.length ≤ i → ks.all validL = true) ∧ (∀ a, ks[i]? = some a → validL a = false → ks.all validL = false) := by
  constructor
  · intro h
    rw [List.all_eq_true]
    intro x hx
    obtain ⟨j, hj, rfl⟩ := List.mem_iff_getElem.1 hx
    exact hi j (by omega) _ (List.getElem?_eq_getElem hj)
  · intro a ha hr
    rw [List.all_eq_false]
    exact ⟨a, List.mem_of_getElem? ha, by rw [hr]; decide⟩
/-- no key occurred before -/
def freshL (ks : List Bs) (i : Nat) : Prop := ∀ a b, a < b → b < i → ∀ x, ks[a]? = some x → ks[b]? ≠ some x
theorem apart_iff : ∀ {ks : List Bs}, apartL ks = true ↔ freshL ks ks.length
  | [] => by simp [apartL, freshL]
  | k :: r => by
    rw [apartL, Bool.and_eq_true, Bool.not_eq_true', List.contains_eq_mem, decide_eq_false_iff_not, apart_iff (ks := r)]
    constructor
    · rintro ⟨h1, h2⟩ a b hab hb x hx hy
      obtain ⟨b, rfl⟩ : ∃ c, b = c + 1 := ⟨b - 1, by omega⟩
      rw [List.getElem?_cons_succ] at hy
      cases a with
      | zero =>
        simp only [List.getElem?_cons_zero, Option.some.injEq] at hx
        subst hx
        exact h1 (List.mem_of_getElem? hy)
      | succ a =>
        rw [List.getElem?_cons_succ] at hx
        exact h2 a b (by omega) (by simp only [List.length_cons] at hb; omega) x hx hy
    · intro h
      refine ⟨fun hm => ?_, fun a b hab hb x hx hy => h (a + 1) (b + 1) (by omega) (by simp only [List.length_cons]; omega) x (by rw [List.getElem?_cons_succ]; exact hx) (by rw [List.getElem?_cons_succ]; exact hy)⟩
      obtain ⟨j, hj, hjk⟩ := List.mem_iff_getElem.1 hm
      exact h 0 (j + 1) (by omega) (by simp only [List.length_cons]; omega) k rfl (by rw [List.getElem?_cons_succ, List.getElem?_eq_getElem hj, hjk])
theorem fresh_no {ks : List Bs} {a b : Nat} {x : Bs} (hab : a < b) (h1 : ks[a]? = some x) (h2 : ks[b]? = some x) : apartL ks = false := by
  rw [← Bool.not_eq_true, apart_iff]
  exact fun h => h a b hab ((List.getElem?_eq_some_iff.1 h2).1) x h1 h2
theorem fresh_yes {ks : List Bs} {i : Nat} (h : freshL ks i) (hi : ks.length ≤ i) : apartL ks = true := apart_iff.2 fun a b hab hb => h a b hab (by omega)
end Go.Proofs.YtnkhghjcfhpeiaaGreatDoor

/-
  The walk of the law JsonRight.
-/
namespace Go.Proofs.YtnkhghjcfhpeiaaGreatDoor
open Go.RowKit

theorem quote_long (k : Bs) : k.length + 2 ≤ (quoteL k).length := by
  have := flat_pos k
  unfold quoteL
  simp only [List.length_cons, List.length_append, List.length_nil]
  omega
mutual
theorem wt_v : ∀ (v : Jv) (d : Nat), rightF d v = true → wtJ v ≤ 2 * (textJ v).length
  | .mk k t ks vs, d, h => by
    obtain ⟨e, rfl, ⟨h1, rfl, rfl, rfl⟩ | ⟨rfl, h1, rfl, rfl⟩ | ⟨rfl, h1, rfl, rfl⟩ | ⟨rfl, rfl, rfl, h1⟩ | ⟨rfl, rfl, h1, h2, h3, h4⟩⟩ := right_cases h
    · rcases h1 with rfl | rfl | rfl <;> decide
    · unfold numT at h1
      rw [Bool.and_eq_true] at h1
      have hne : t ≠ [] := by rintro rfl; cases h1.1
      have : t.length ≠ 0 := fun e => hne (List.eq_nil_of_length_eq_zero e)
      rw [wtJ, wtL, wtK]
      show _ ≤ 2 * t.length
      omega
    · rw [wtJ, wtL, wtK]
      show _ ≤ 2 * (quoteQ t).1.length
      rw [quote_ok h1]
      have := quote_long t
      omega
    · rw [wtJ, wtK]
      show _ ≤ 2 * (91 :: (joinC (textsJ vs) ++ [93])).length
      simp only [List.length_cons, List.length_append, List.length_nil]
      cases vs with
      | nil => rw [wtL]; omega
      | cons v r =>
        rw [List.all_cons, Bool.and_eq_true] at h1
        have k1 := wt_v v e h1.1
        have k2 := wt_l r e h1.2
        rw [wtL]
        show _ ≤ 2 * ((textJ v ++ tailC (textsJ r)).length + (0 + 1) + 1)
        rw [List.length_append]
        omega
    · rw [wtJ]
      show _ ≤ 2 * (123 :: (joinC (List.zipWith membC ks (textsJ vs)) ++ [125])).length
      simp only [List.length_cons, List.length_append, List.length_nil]
      cases vs with
      | nil =>
        obtain rfl : ks = [] := List.eq_nil_of_length_eq_zero h1
        rw [wtL, wtK]
        omega
      | cons v r =>
        cases ks with
        | nil => cases h1
        | cons k kr =>
          rw [List.all_cons, Bool.and_eq_true] at h2 h3
          simp only [List.length_cons, Nat.add_right_cancel_iff] at h1
          have k1 := wt_v v e h2.1
          have k2 := wt_m r kr e h1 h2.2 h3.2
          have k3 := quote_long k
          rw [wtL, wtK]
          show _ ≤ 2 * (((quoteQ k).1 ++ 58 :: textJ v ++ tailC (List.zipWith membC kr (textsJ r))).length + (0 + 1) + 1)
          rw [quote_ok h3.1]
          simp only [List.length_append, List.length_cons]
          omega
theorem wt_l : ∀ (vs : List Jv) (d : Nat), vs.all (rightF d) = true → wtL vs ≤ 2 * (tailC (textsJ vs)).length
  | [], d, h => by rw [wtL]; omega
  | v :: r, d, h => by
    rw [List.all_cons, Bool.and_eq_true] at h
    have k1 := wt_v v d h.1
    have k2 := wt_l r d h.2
    rw [wtL]
    show _ ≤ 2 * (44 :: (textJ v ++ tailC (textsJ r))).length
    simp only [List.length_cons, List.length_append]
    omega
theorem wt_m : ∀ (vs : List Jv) (ks : List Bs) (d : Nat), ks.length = vs.length → vs.all (rightF d) = true → ks.all validL = true → wtK ks + wtL vs ≤ 2 * (tailC (List.zipWith membC ks (textsJ vs))).length
  | [], ks, d, hl, h, hk => by
    obtain rfl : ks = [] := List.eq_nil_of_length_eq_zero hl
    rw [wtL, wtK]
    omega
  | v :: r, [], d, hl, h, hk => by cases hl
  | v :: r, k :: kr, d, hl, h, hk => by
    rw [List.all_cons, Bool.and_eq_true] at h hk
    simp only [List.length_cons, Nat.add_right_cancel_iff] at hl
    have k1 := wt_v v d h.1
    have k2 := wt_m r kr d hl h.2 hk.2
    have k3 := quote_long k
    rw [wtL, wtK]
    show _ ≤ 2 * (44 :: ((quoteQ k).1 ++ 58 :: textJ v ++ tailC (List.zipWith membC kr (textsJ r)))).length
    rw [quote_ok hk.1]
    simp only [List.length_append, List.length_cons]
    omega
end
theorem wt_right {v : Jv} (h : rightJ v = true) : wtJ v ≤ 2 * (textJ v).length := by
  unfold rightJ at h
  rw [Bool.and_eq_true] at h
  exact wt_v v 16 h.2

set_option maxRecDepth 100000 in
set_option maxHeartbeats 4000000 in
theorem jsonRight_any (hR : JPR) (hP : JPP) (hJ : JPJ) (hS : JPS) (s : Bs) (A : Option Addr) (L c : Nat) (ys : List UInt8) (small : Bool) (w : World) (hl : ys.length = L) (hm : L ≤ maxLen) (hUs : Us w w.heap.size A ys) (hs : s.length ≤ 140737488355328) (hT : TJ w) : Calls Tryz.prog 6 #[.string (tb s), .slice A L c, .bool small] w (BoolEnds true w) := by
  have HT := Lib.hid hT
  have HAw := Lib.hid (awakeJ hR hP hJ hS w hT)
  have HPc := Lib.hid (fun W (hW : Below w.heap.size w W) => piecesJ_any A L c ys W hl hm (hUs.up hW))
  have HR := Lib.hid hR
  have HP := Lib.hid hP
  have HJ := Lib.hid hJ
  have HS := Lib.hid hS
  have zs : (tb s).size = s.length := tb_size s
  clear hT hl hm hUs hR hP hJ hS
  go_enter Tryz.func6, Tryz.ntmps6
  go_wp2_with fail
  refine HAw.out.mono ?_
  rintro E w1 ⟨rfl, hd1⟩
  have HB1 := Lib.hid hd1
  clear hd1 HAw
  go_upto_region 4 with fail
  go_cut [24] (fun v W => v = .bool (small || decide (400 < s.length)) ∧ w1 = W)
  case first =>
    cases small with
    | true =>
      go_wp2
      go_meet
      exact ⟨rfl, rfl⟩
    | false =>
      by_cases h4 : 400 < s.length
      · have h4i : (400 : Int) < (s.length : Int) := by omega
        have hd := Lib.hid (decide_eq_true h4)
        clear h4
        go_wp2
        go_meet
        exact ⟨by rw [hd.out]; rfl, rfl⟩
      · have h4i : ¬ (400 : Int) < (s.length : Int) := by omega
        have hd := Lib.hid (decide_eq_false h4)
        clear h4
        go_wp2
        go_meet
        exact ⟨by rw [hd.out]; rfl, rfl⟩
  case rest =>
    obtain ⟨rfl, rfl⟩ := hcut
    go_upto_if 24 with fail
    go_cut [0] (fun v W => ∃ q : Bs, q.length ≤ 400 ∧ v = .string (tb q) ∧ Below w.heap.size w W)
    case first =>
      cases hc : (small || decide (400 < s.length)) with
      | true =>
        go_wp2_with fail
        refine (HPc.out _ HB1.out).mono ?_
        rintro E w2 ⟨p, rfl, hp, hb2⟩
        go_wp2
        go_meet
        exact ⟨p, by omega, rfl, bon HB1.out hb2⟩
      | false =>
        have h4 : s.length ≤ 400 := by
          cases small with
          | true => cases hc
          | false => simpa using hc
        go_wp2
        go_meet
        exact ⟨s, h4, rfl, HB1.out⟩
    case rest =>
      obtain ⟨q, hq, rfl, hb2⟩ := hcut
      have HB2 := Lib.hid hb2
      have zq : (tb q).size = q.length := tb_size q
      have HJ1 := Lib.hid (HJ.out q wc (by omega) (HT.out.up HB2.out))
      have HC := Lib.hid (jparse_cases q)
      have HAg := Lib.hid (fun h => jparse_again (s := q) h (by omega))
      obtain ⟨Z, hZ⟩ : ∃ Z, parseJ q = Z := ⟨_, rfl⟩
      rw [hZ] at HJ1 HC HAg
      obtain ⟨v, e, at1⟩ := Z
      simp only at HC HAg
      clear hZ hb2 HB1 HPc zs hs
      go_wp2_with fail
      refine HJ1.out.mono ?_
      rintro E w3 ⟨K, S, rfl, hv, hb3⟩
      have HB3 := Lib.hid (bon HB2.out hb3)
      have HV := Lib.hid hv
      clear hv hb3 HJ1 HB2
      simp only [jx] at HV ⊢
      by_cases he : e = 0
      case neg =>
        have hz : v = .zero ∧ at1 ≤ q.length := by
          rcases HC.out with h | h
          · exact absurd h.1 he
          · exact h.2
        obtain ⟨rfl, hat⟩ := hz
        have hati : (at1 : Int) ≤ (q.length : Int) := by omega
        have hat0 : (0 : Int) ≤ (at1 : Int) := by omega
        simp only [Jv.zero, Jv.k, Jv.t]
        have hbA := ba1 w3 (.cells #[.int .i64 0, .string (tb []), .slice K.A K.n K.c, .slice S.A S.n S.c] 25)
        obtain ⟨c0, c1, c2, c3⟩ := box4 (Box.new w3 25 #[.int .i64 0, .string (tb []), .slice K.A K.n K.c, .slice S.A S.n S.c])
        clear HV HC HAg
        go_wp2
        go_ret
        exact ⟨rfl, bon HB3.out hbA⟩
      case pos =>
        subst he
        have hg : rightJ v = true ∧ at1 = 0 ∧ (textJ v).length ≤ 3 * q.length := by
          rcases HC.out with h | h
          · exact h.2
          · exact absurd rfl h.1
        obtain ⟨hr, rfl, htl⟩ := hg
        have hwt := wt_right hr
        have HAg2 := Lib.hid (HAg.out rfl)
        have hpr : printJ v = (textJ v, 0) := by rw [printJ, if_pos hr]
        have HPr := Lib.hid (fun W (h : JV W anyB v (jx v K S)) t => HP.out v K S W (by omega) h t)
        have HRi := Lib.hid (fun W (h : JV W anyB v (jx v K S)) t => HR.out v K S W (by omega) h t)
        have HSa := Lib.hid (fun (K2 S2 : Sli) W (h : JV W anyB v (jx v K S)) (h2 : JV W anyB v (jx v K2 S2)) t => HS.out v v K S K2 S2 W (by omega) h h2 t)
        rw [hpr] at HPr
        rw [hr] at HRi
        rw [(same_iff v v).2 rfl] at HSa
        have HJ2 := Lib.hid (fun W t => HJ.out (textJ v) W (by omega) t)
        rw [HAg2.out] at HJ2
        have ht4 : (textJ v).length ≤ 1200 := by omega
        clear hpr hr htl hwt HAg HAg2 HC HJ HP HR HS
        obtain ⟨X, hX⟩ : ∃ X, textJ v = X := ⟨_, rfl⟩
        rw [hX] at HPr HJ2 ht4
        clear hX
        simp only [jx] at HPr HRi HSa
        obtain ⟨KA, Kn, Kc⟩ := K
        obtain ⟨SA, Sn, Sc⟩ := S
        simp only at HPr HRi HSa HV ⊢
        go_upto_region 7 with fail
        have hbA := ba1 w3 (.cells #[.int .i64 v.k, .string (tb v.t), .slice KA Kn Kc, .slice SA Sn Sc] 25)
        have bx := Lib.hid (Box.new w3 25 #[.int .i64 v.k, .string (tb v.t), .slice KA Kn Kc, .slice SA Sn Sc])
        obtain ⟨g1, hg1⟩ : ∃ g1, w3.heap.size = g1 := ⟨_, rfl⟩
        rw [hg1] at bx ⊢
        clear hg1
        generalize w3.alloc (.cells #[.int .i64 v.k, .string (tb v.t), .slice KA Kn Kc, .slice SA Sn Sc] 25) = W4 at *
        have HB4 := Lib.hid (bon HB3.out hbA)
        have HV4 := Lib.hid (HV.out.up hbA)
        obtain ⟨c0, c1, c2, c3⟩ := box4 bx.out
        clear hbA HV HB3
        go_wp2_with fail
        refine (HPr.out _ HV4.out (HT.out.up HB4.out)).mono ?_
        rintro E w5 ⟨rfl, hb5⟩
        have HB5 := Lib.hid (bon HB4.out hb5)
        have HV5 := Lib.hid (HV4.out.up hb5)
        have bx5 := Lib.hid (bx.out.up hb5)
        clear hb5 HV4 HB4 bx c0 c1 c2 c3
        simp only
        go_wp2_with fail
        refine (HJ2.out _ (HT.out.up HB5.out)).mono ?_
        rintro E w6 ⟨K2, S2, rfl, hv6, hb6⟩
        have HB6 := Lib.hid (bon HB5.out hb6)
        have HV6 := Lib.hid (HV5.out.up hb6)
        have bx6 := Lib.hid (bx5.out.up hb6)
        have HW6 := Lib.hid hv6
        clear hb6 HV5 HB5 bx5 hv6
        simp only [jx] at HW6 ⊢
        obtain ⟨KA2, Kn2, Kc2⟩ := K2
        obtain ⟨SA2, Sn2, Sc2⟩ := S2
        simp only at HW6 ⊢
        go_upto_region 11 with fail
        have hbA := ba1 w6 (.cells #[.int .i64 v.k, .string (tb v.t), .slice KA2 Kn2 Kc2, .slice SA2 Sn2 Sc2] 25)
        have by6 := Lib.hid (Box.new w6 25 #[.int .i64 v.k, .string (tb v.t), .slice KA2 Kn2 Kc2, .slice SA2 Sn2 Sc2])
        obtain ⟨g2, hg2⟩ : ∃ g2, w6.heap.size = g2 := ⟨_, rfl⟩
        rw [hg2] at by6 ⊢
        clear hg2
        generalize w6.alloc (.cells #[.int .i64 v.k, .string (tb v.t), .slice KA2 Kn2 Kc2, .slice SA2 Sn2 Sc2] 25) = W7 at *
        have HB7 := Lib.hid (bon HB6.out hbA)
        have HV7 := Lib.hid (HV6.out.up hbA)
        have HW7 := Lib.hid (HW6.out.up hbA)
        have bx7 := Lib.hid (bx6.out.up hbA)
        obtain ⟨c0, c1, c2, c3⟩ := box4 bx7.out
        clear hbA HV6 HW6 HB6 bx6
        go_wp2_with fail
        refine (HRi.out _ HV7.out (HT.out.up HB7.out)).mono ?_
        rintro E w8 ⟨rfl, hb8⟩
        have HB8 := Lib.hid (bon HB7.out hb8)
        have HV8 := Lib.hid (HV7.out.up hb8)
        have HW8 := Lib.hid (HW7.out.up hb8)
        have bx8 := Lib.hid (bx7.out.up hb8)
        have by8 := Lib.hid (by6.out.up hb8)
        clear hb8 HV7 HW7 HB7 bx7 by6 c0 c1 c2 c3
        obtain ⟨c0, c1, c2, c3⟩ := box4 bx8.out
        obtain ⟨d0, d1, d2, d3⟩ := box4 by8.out
        go_wp2_with fail
        refine (HSa.out ⟨KA2, Kn2, Kc2⟩ ⟨SA2, Sn2, Sc2⟩ _ HV8.out HW8.out (HT.out.up HB8.out)).mono ?_
        rintro E w9 ⟨rfl, hb9⟩
        have HB9 := bon HB8.out hb9
        go_wp2
        go_ret
        exact ⟨rfl, HB9⟩
end Go.Proofs.YtnkhghjcfhpeiaaGreatDoor
