/-
  The document's Right, Text and Print of values, walked.
-/
import Derived.Test.YtnkhghjcfhpeiaaGreatDoorSb
namespace Go.Proofs.YtnkhghjcfhpeiaaGreatDoor
open Go.RowKit
set_option maxRecDepth 100000 in
set_option maxHeartbeats 4000000 in
theorem rright11_any (P : Nat → Prop) (v : Jv) (X : Value) (w : World) (hw : wtJ v ≤ 100000) (hX : JV w P v X) : Calls Tryz.prog 18 #[X] w (BoolEnds (rightJ v) w) := by
  obtain ⟨K, S, rfl⟩ := hX.jx
  obtain ⟨KA, Kn, Kc⟩ := K
  obtain ⟨SA, Sn, Sc⟩ := S
  simp only [jx] at hX ⊢
  have hb0 := Lib.hid (ba1 w (.cells #[.int .i64 v.k, .string (tb v.t), .slice KA Kn Kc, .slice SA Sn Sc] 25))
  have bx := Lib.hid (Box.new w 25 #[.int .i64 v.k, .string (tb v.t), .slice KA Kn Kc, .slice SA Sn Sc])
  have HX := Lib.hid (hX.up hb0.out)
  clear hX
  obtain ⟨Q, hQ⟩ : ∃ Q, rightJ v = Q := ⟨_, rfl⟩
  rw [hQ]
  have HQ : Hid (Q = (decide (nodesJ v ≤ 500) && rightF 16 v)) := Lib.hid hQ.symm
  clear hQ
  go_enter Tryz.func18, Tryz.ntmps18
  go_upto_region 1 with fail
  generalize w.alloc (.cells #[.int .i64 v.k, .string (tb v.t), .slice KA Kn Kc, .slice SA Sn Sc] 25) = W0 at *
  obtain ⟨c0, c1, c2, c3⟩ := box4 bx.out
  have HN := Lib.hid (rnodes_any P (nodesJ v) v _ 501 W0 (Nat.le_refl _) (by omega) (by omega) HX.out)
  obtain ⟨m, hm⟩ : ∃ m, min (nodesJ v) 501 = m := ⟨_, rfl⟩
  rw [hm] at HN
  by_cases h5 : nodesJ v ≤ 500
  · have hmi : (m : Int) ≤ 500 := by omega
    have hq : Q = rightF 16 v := by rw [HQ.out, decide_eq_true h5, Bool.true_and]
    subst hq
    have HR := Lib.hid (fun W (h : JV W P v (.agg #[.int .i64 v.k, .string (tb v.t), .slice KA Kn Kc, .slice SA Sn Sc])) => rright_d P 16 v _ W (by omega) hw h)
    clear hm h5 HQ
    generalize (m : Int) = z at *
    go_wp2_with fail
    refine HN.out.mono ?_
    rintro E w1 ⟨rfl, hb⟩
    have HB1 := Lib.hid (bon hb0.out hb)
    have HX1 := Lib.hid (HX.out.up hb)
    have bx1 := Lib.hid (bx.out.up hb)
    clear hb HX bx HN c0 c1 c2 c3
    obtain ⟨c0, c1, c2, c3⟩ := box4 bx1.out
    have hmd : decide (z ≤ 500) = true := decide_eq_true (by omega)
    go_wp2_with fail
    refine (HR.out _ HX1.out).mono ?_
    rintro E w2 ⟨rfl, hb⟩
    have HB2 := bon HB1.out hb
    go_wp2
    go_ret
    exact ⟨rfl, HB2⟩
  · have hmi : ¬ (m : Int) ≤ 500 := by omega
    have hq : Q = false := by rw [HQ.out, decide_eq_false h5, Bool.false_and]
    subst hq
    clear hm h5 HQ
    generalize (m : Int) = z at *
    go_wp2_with fail
    refine HN.out.mono ?_
    rintro E w1 ⟨rfl, hb⟩
    have HB1 := bon hb0.out hb
    have hmd : decide (z ≤ 500) = false := decide_eq_false (by omega)
    go_wp2
    go_ret
    exact ⟨rfl, HB1⟩
/-! how long a text is -/
theorem quote_len (s : Bs) : (quoteQ s).1.length ≤ 6 * s.length + 2 := by
  unfold quoteQ
  split
  · rw [← qo_end, List.length_append, List.length_singleton]
    have := qo_len s s.length (Nat.le_refl _)
    omega
  · simp
theorem tail_zip : ∀ (ks ts : List Bs), (tailC (List.zipWith membC ks ts)).length ≤ 10 * wtK ks + (tailC ts).length
  | [], ts => by simp [tailC]
  | k :: r, [] => by simp [tailC]
  | k :: r, x :: s => by
    have := tail_zip r s
    have := quote_len k
    rw [List.zipWith_cons_cons, tailC, tailC, wtK, membC]
    simp only [List.length_cons, List.length_append]
    omega
theorem join_tail (l : List Bs) : (joinC l).length ≤ (tailC l).length := by
  cases l with
  | nil => simp [joinC, tailC]
  | cons x r => simp [joinC, tailC]
mutual
theorem text_wt : ∀ v : Jv, (textJ v).length + 1 ≤ 10 * wtJ v
  | .mk k t ks vs => by
    have h1 := texts_wt vs
    have h2 := quote_len t
    have h3 := tail_zip ks (textsJ vs)
    have h4 := join_tail (List.zipWith membC ks (textsJ vs))
    have h5 := join_tail (textsJ vs)
    rw [textJ, wtJ]
    repeat' split
    all_goals (try simp only [List.length_cons, List.length_append, List.length_nil])
    all_goals omega
theorem texts_wt : ∀ vs : List Jv, (tailC (textsJ vs)).length ≤ 10 * wtL vs
  | [] => by simp [textsJ, tailC]
  | v :: r => by
    have h1 := text_wt v
    have h2 := texts_wt r
    rw [textsJ, tailC, wtL, List.length_cons, List.length_append]
    omega
end
theorem txs_len : ∀ vs : List Jv, (textsJ vs).length = vs.length
  | [] => rfl
  | v :: r => by rw [textsJ, List.length_cons, List.length_cons, txs_len r]
theorem texts_at : ∀ {vs : List Jv} {i : Nat} {v : Jv}, vs[i]? = some v → (textsJ vs)[i]? = some (textJ v)
  | [], i, v, h => by simp at h
  | u :: r, 0, v, h => by
    simp only [List.getElem?_cons_zero, Option.some.injEq] at h
    subst h
    rfl
  | u :: r, i + 1, v, h => by
    rw [textsJ, List.getElem?_cons_succ]
    exact texts_at (by simpa using h)
/-- the parts of a list or of an object -/
def partsJ (k : Int) (ks : List Bs) (vs : List Jv) : List Bs := if k = 7 then List.zipWith membC ks (textsJ vs) else textsJ vs
theorem tailC_split (l : List Bs) : ∀ j, (tailC (l.take j)).length ≤ (tailC l).length := by
  induction l with
  | nil => intro j; simp
  | cons x r ih =>
    intro j
    cases j with
    | zero => simp [tailC]
    | succ j =>
      rw [List.take_succ_cons, tailC, tailC]
      have := ih j
      simp only [List.length_cons, List.length_append]
      omega
theorem join_take {l : List Bs} {j : Nat} {x : Bs} (h : l[j]? = some x) : joinC (l.take (j + 1)) = if j = 0 then x else joinC (l.take j) ++ 44 :: x := by
  rw [List.take_add_one, h]
  show joinC (l.take j ++ [x]) = _
  rw [joinC_snoc]
  have hl := (List.getElem?_eq_some_iff.1 h).1
  by_cases hj : j = 0
  · subst hj
    rw [if_pos rfl, if_pos (List.take_zero)]
  · rw [if_neg hj, if_neg]
    intro e
    have := congrArg List.length e
    rw [List.length_take, List.length_nil] at this
    omega
theorem parts_len {k : Int} {ks : List Bs} {vs : List Jv} (h : k = 7 → ks.length = vs.length) : (partsJ k ks vs).length = vs.length := by
  unfold partsJ
  split
  · rename_i h7
    rw [List.length_zipWith, txs_len, h h7, Nat.min_self]
  · exact txs_len vs
end Go.Proofs.YtnkhghjcfhpeiaaGreatDoor

/-
  The document's Text and Print of values, walked.
-/
namespace Go.Proofs.YtnkhghjcfhpeiaaGreatDoor
open Go.RowKit
theorem right_list {d : Nat} {k : Int} {t : Bs} {ks : List Bs} {vs : List Jv} (h : rightF d (.mk k t ks vs) = true) : (k = 1 ∨ k = 2 ∨ k = 3 ∨ k = 4 ∨ k = 5 ∨ k = 6 ∨ k = 7) ∧ (k = 7 → ks.length = vs.length) ∧ (∀ (i : Nat) (v : Jv), (k = 6 ∨ k = 7) → vs[i]? = some v → rightF (d - 1) v = true) := by
  cases d with
  | zero => rw [rightF] at h; cases h
  | succ d =>
    rw [rightF, Bool.and_eq_true] at h
    obtain ⟨_, h⟩ := h
    rw [Nat.add_sub_cancel]
    by_cases h1 : k = 1 ∨ k = 2 ∨ k = 3
    · exact ⟨by omega, by omega, fun i v hk => by omega⟩
    · rw [if_neg h1] at h
      by_cases h4 : k = 4
      · exact ⟨by omega, by omega, fun i v hk => by omega⟩
      · rw [if_neg h4] at h
        by_cases h5 : k = 5
        · exact ⟨by omega, by omega, fun i v hk => by omega⟩
        · rw [if_neg h5] at h
          by_cases h6 : k = 6
          · rw [if_pos h6, List.all_eq_true] at h
            exact ⟨by omega, by omega, fun i v _ hv => h v (List.mem_of_getElem? hv)⟩
          · rw [if_neg h6] at h
            by_cases h7 : k = 7
            · rw [if_pos h7] at h
              simp only [Bool.and_eq_true, decide_eq_true_eq, List.all_eq_true] at h
              exact ⟨by omega, fun _ => h.1.1.1, fun i v _ hv => h.1.1.2 v (List.mem_of_getElem? hv)⟩
            · rw [if_neg h7] at h
              cases h
theorem text_parts {k : Int} {t : Bs} {ks : List Bs} {vs : List Jv} (h : k = 6 ∨ k = 7) : textJ (.mk k t ks vs) = if k = 7 then 123 :: (joinC (partsJ k ks vs) ++ [125]) else 91 :: (joinC (partsJ k ks vs) ++ [93]) := by
  rw [textJ, partsJ]
  rcases h with rfl | rfl
  · rfl
  · rfl
theorem part_at {k : Int} {ks : List Bs} {vs : List Jv} {j : Nat} {v : Jv} (hv : vs[j]? = some v) : (k ≠ 7 → (partsJ k ks vs)[j]? = some (textJ v)) ∧ (∀ x, k = 7 → ks[j]? = some x → (partsJ k ks vs)[j]? = some ((quoteQ x).1 ++ 58 :: textJ v)) := by
  constructor
  · intro h
    rw [partsJ, if_neg h]
    exact texts_at hv
  · intro x h hx
    rw [partsJ, if_pos h, List.getElem?_zipWith, hx, texts_at hv]
    rfl
set_option maxRecDepth 100000 in
set_option maxHeartbeats 8000000 in
theorem rtext11_any (P : Nat → Prop) : ∀ (n : Nat) (v : Jv) (X : Value) (d : Nat) (w : World), nodesJ v ≤ n → wtJ v ≤ 100000 → rightF d v = true → JV w P v X → Calls Tryz.prog 28 #[X] w (TxtEnds (textJ v) w) := by
  intro N
  induction N with
  | zero =>
    intro v X d w h
    have := nodes_pos v
    omega
  | succ N ih =>
    rintro ⟨k, t, ks, vs⟩ X d w hn hw hr hX
    rw [JV] at hX
    obtain ⟨K, S, cs, rfl, hK, hS, hL⟩ := hX
    obtain ⟨hk, hk7, hkid⟩ := right_list hr
    have hnk := hK.keys
    have hnv := hS.num hL
    have hwt : wtJ (.mk k t ks vs) = 1 + t.length + wtK ks + wtL vs := by rw [wtJ]
    have htw := text_wt (.mk k t ks vs)
    have hlk := wtKs_len ks
    have hlv := wtLs_len vs
    rw [nodesJ] at hn
    have HTx : Hid ((k = 6 ∨ k = 7) → textJ (.mk k t ks vs) = if k = 7 then 123 :: (joinC (partsJ k ks vs) ++ [125]) else 91 :: (joinC (partsJ k ks vs) ++ [93])) := Lib.hid text_parts
    obtain ⟨Q, hQ⟩ : ∃ Q, textJ (.mk k t ks vs) = Q := ⟨_, rfl⟩
    rw [hQ] at HTx htw ⊢
    have HQ := Lib.hid hQ
    have HK := Lib.hid hK
    have HS := Lib.hid hS
    have HL := Lib.hid hL
    have IH := Lib.hid ih
    have HN := Lib.hid hn
    have HW : Hid (1 + t.length + wtK ks + wtL vs ≤ 100000) := Lib.hid (by omega)
    have HKid := Lib.hid hkid
    have HK7 := Lib.hid hk7
    have hQl : Q.length ≤ 1000000 := by omega
    clear hK hS hL ih hn hQ hr hkid hk7
    obtain ⟨KA, Kn, Kc⟩ := K
    obtain ⟨SA, Sn, Sc⟩ := S
    simp only at hnk hnv ⊢
    have hKn : Kn ≤ 100000 := by omega
    have hSn : Sn ≤ 100000 := by omega
    have hte : t.length ≤ 100000 := by omega
    replace hnk := Lib.hid hnk
    replace hnv := Lib.hid hnv
    clear hw hwt hlk hlv htw
    have hb0 := Lib.hid (ba1 w (.cells #[.int .i64 k, .string (tb t), .slice KA Kn Kc, .slice SA Sn Sc] 25))
    have bx := Lib.hid (Box.new w 25 #[.int .i64 k, .string (tb t), .slice KA Kn Kc, .slice SA Sn Sc])
    go_enter Tryz.func28, Tryz.ntmps28
    go_upto_region 1 with fail
    generalize w.alloc (.cells #[.int .i64 k, .string (tb t), .slice KA Kn Kc, .slice SA Sn Sc] 25) = W0 at *
    obtain ⟨g, hg⟩ : ∃ g, w.heap.size = g := ⟨_, rfl⟩
    rw [hg] at bx ⊢
    replace hg := Lib.hid hg
    obtain ⟨c0, c1, c2, c3⟩ := box4 bx.out
    have hk5 : (k = 1 ∨ k = 2 ∨ k = 3) ∨ k = 4 ∨ k = 5 ∨ (k = 6 ∨ k = 7) := by omega
    clear hk
    rcases hk5 with h123 | rfl | rfl | h67
    · rcases h123 with rfl | rfl | rfl
      · have hq : Q = [110, 117, 108, 108] := HQ.out.symm
        subst hq
        go_wp2
        go_ret
        exact ⟨rfl, hb0.out⟩
      · have hq : Q = [102, 97, 108, 115, 101] := HQ.out.symm
        subst hq
        go_wp2
        go_ret
        exact ⟨rfl, hb0.out⟩
      · have hq : Q = [116, 114, 117, 101] := HQ.out.symm
        subst hq
        go_wp2
        go_ret
        exact ⟨rfl, hb0.out⟩
    · have hq : Q = t := HQ.out.symm
      subst hq
      clear HQ HTx
      go_wp2
      go_ret
      exact ⟨rfl, hb0.out⟩
    · have hq : Q = (quoteQ t).1 := HQ.out.symm
      have HU := Lib.hid (rquote_any t (by omega) W0)
      obtain ⟨⟨x, e⟩, hxe⟩ : ∃ q, quoteQ t = q := ⟨_, rfl⟩
      rw [hxe] at hq HU
      simp only at hq
      subst hq
      clear HQ HTx hxe
      go_wp2_with fail
      refine HU.out.mono ?_
      rintro E w1 ⟨rfl, hb⟩
      have HB1 := bon hb0.out hb
      go_wp2
      go_ret
      exact ⟨rfl, HB1⟩
    · have HPl := Lib.hid (parts_len (k := k) (ks := ks) (vs := vs) (fun h => HK7.out h))
      have HPt : Hid (∀ (j : Nat) (v : Jv), vs[j]? = some v → (k ≠ 7 → (partsJ k ks vs)[j]? = some (textJ v)) ∧ (∀ x, k = 7 → ks[j]? = some x → (partsJ k ks vs)[j]? = some ((quoteQ x).1 ++ 58 :: textJ v))) := Lib.hid (fun j v h => part_at h)
      have HQ1 := Lib.hid (HTx.out h67)
      have hJl : (joinC (partsJ k ks vs)).length ≤ 1000000 := by
        have h := HQ1.out
        have h2 : Q.length = (joinC (partsJ k ks vs)).length + 2 := by rw [h]; split <;> simp
        omega
      have hTk : ∀ j, (joinC ((partsJ k ks vs).take j)).length ≤ 10000000 := fun j => by
        have h1 := join_tail ((partsJ k ks vs).take j)
        have h2 := tailC_split (partsJ k ks vs) j
        have h3 : (tailC (partsJ k ks vs)).length ≤ (joinC (partsJ k ks vs)).length + 1 := by
          cases partsJ k ks vs with
          | nil => simp [tailC]
          | cons x r => simp [tailC, joinC]
        omega
      obtain ⟨ps, hps⟩ : ∃ ps, partsJ k ks vs = ps := ⟨_, rfl⟩
      rw [hps] at HPl HPt HQ1 hJl hTk
      replace hTk := Lib.hid hTk
      clear hps HTx HQ
      rcases h67 with rfl | rfl
      · replace HKid : Hid (∀ (i : Nat) (v : Jv), vs[i]? = some v → rightF (d - 1) v = true) := Lib.hid (fun i v h => HKid.out i v (by decide) h)
        replace HQ1 : Hid (Q = 91 :: (joinC ps ++ [93])) := Lib.hid HQ1.out
        replace HPt : Hid (∀ (j : Nat) (v : Jv), vs[j]? = some v → ps[j]? = some (textJ v)) := Lib.hid (fun j v h => (HPt.out j v h).1 (by decide))
        go_wp2_with fail
        clear c0 c1 c2 c3
        go_loopw [5, 6, 7, 8] (fun o i _ _ wr => ∃ j : Nat, j ≤ Sn ∧ o = .string (tb (joinC (ps.take j))) ∧ i = .int .i64 (j : Int) ∧ Hid (Below W0.heap.size W0 wr)) (fun _ i _ _ _ => Sn - (intOf i).toNat)
        case atStart => exact ⟨0, Nat.zero_le _, rfl, rfl, Lib.hid (Below.refl _ _)⟩
        case round =>
          obtain ⟨j, hj, rfl, rfl, HB⟩ := hrel
          obtain ⟨c0, c1, c2, c3⟩ := box4 (bx.out.up HB.out)
          by_cases hlt : j < Sn
          case neg =>
            have hjs : j = Sn := by omega
            subst hjs
            have hji : ¬ (j : Int) < (j : Int) := by omega
            have e1 : ps.take j = ps := List.take_of_length_le (by rw [HPl.out, ← hnv.out]; exact Nat.le_refl _)
            rw [e1]
            have k1 := fun W => run_string_add_sum (P := Tryz.prog) W (tb [91]) (tb (joinC ps)) (by rw [tb_size, tb_size, List.length_singleton]; omega)
            rw [tb_app] at k1
            obtain ⟨Y, hY⟩ : ∃ Y, [91] ++ joinC ps = Y := ⟨_, rfl⟩
            have hYl : Y.length = (joinC ps).length + 1 := by rw [← hY]; simp
            have hYQ : Y ++ [93] = Q := by rw [← hY, HQ1.out]; rfl
            have k2 := fun W => run_string_add_sum (P := Tryz.prog) W (tb Y) (tb [93]) (by rw [tb_size, tb_size, List.length_singleton]; omega)
            rw [hY] at k1
            rw [tb_app, hYQ] at k2
            clear hY hYl hYQ
            rw [show tb [91] = ⟨#[91]⟩ from rfl] at k1
            rw [show tb [93] = ⟨#[93]⟩ from rfl] at k2
            clear hlt HQ1 e1
            go_wp2
            go_ret
            exact ⟨rfl, bon hb0.out HB.out⟩
          case pos =>
            have hji : (j : Int) < (Sn : Int) := by omega
            have hj0 : (0 : Int) ≤ (j : Int) := by omega
            obtain ⟨v, hv⟩ : ∃ v, vs[j]? = some v := ⟨_, List.getElem?_eq_getElem (by rw [← hnv.out]; exact hlt)⟩
            obtain ⟨b1, o1, x1, x2, x3, x4, hA1, e1, e2, e3, e4, e5⟩ := ((HS.out.up hb0.out).up HB.out).kid ((HL.out.up hb0.out).up HB.out) hv
            simp only at hA1
            subst hA1
            have hwk := wt_kid hv
            have hTl := text_wt v
            have hw9 := HW.out
            have hnd := nodes_at hv
            have hrk := HKid.out j v hv
            have HC := Lib.hid (IH.out v _ (d - 1) wr (by have := HN.out; omega) (by omega) hrk e5)
            have hpt := HPt.out j v hv
            clear e5 hrk hnd
            replace hTl : (textJ v).length ≤ 1000000 := by omega
            clear hwk hw9
            by_cases hj1 : j = 0
            · have hmj : ¬ 0 < (j : Int) := by omega
              have hmd : decide ((0 : Int) < (j : Int)) = false := decide_eq_false hmj
              have hjn : ¬ 0 < j := by omega
              have hjd : decide (0 < j) = false := decide_eq_false hjn
              have hst : Hid (joinC (ps.take (j + 1)) = joinC (ps.take j) ++ textJ v) := Lib.hid (by rw [join_take hpt, if_pos hj1, hj1, List.take_zero]; rfl)
              obtain ⟨X0, hX0⟩ : ∃ X0, joinC (ps.take j) = X0 := ⟨_, rfl⟩
              rw [hX0] at hst ⊢
              have hX0l : X0.length ≤ 10000001 := by rw [← hX0]; have := hTk.out j; (try rw [List.length_append, List.length_singleton]); omega
              replace hX0 := Lib.hid hX0
              obtain ⟨T, hT⟩ : ∃ T, textJ v = T := ⟨_, rfl⟩
              rw [hT] at hst HC hTl
              have hap1 := fun W => run_string_add_sum (P := Tryz.prog) W (tb X0) (tb T) (by rw [tb_size, tb_size]; omega)
              rw [tb_app, ← hst.out] at hap1
              clear hT hst hpt hj1 hv hlt hmj
              go_wp2_with fail
              refine HC.out.mono ?_
              rintro E w2 ⟨rfl, hb⟩
              have HB2 := Lib.hid (bon HB.out hb)
              clear hb HC HB c0 c1 c2 c3 e1 e2 e3 e4
              go_wp2
              go_roundw
              case rel => exact ⟨j + 1, by omega, rfl, by go_num, HB2⟩
              case measure => simp [intOf]; omega
            · have hmj : 0 < (j : Int) := by omega
              have hmd : decide ((0 : Int) < (j : Int)) = true := decide_eq_true hmj
              have hjn : 0 < j := by omega
              have hjd : decide (0 < j) = true := decide_eq_true hjn
              have hst : Hid (joinC (ps.take (j + 1)) = (joinC (ps.take j) ++ [44]) ++ textJ v) := Lib.hid (by rw [join_take hpt, if_neg hj1, List.append_assoc]; rfl)
              have hap0 := fun W => run_string_add_sum (P := Tryz.prog) W (tb (joinC (ps.take j))) (tb [44]) (by rw [tb_size, tb_size, List.length_singleton]; have := hTk.out j; omega)
              rw [tb_app, show tb [44] = ⟨#[44]⟩ from rfl] at hap0
              obtain ⟨X0, hX0⟩ : ∃ X0, joinC (ps.take j) ++ [44] = X0 := ⟨_, rfl⟩
              rw [hX0] at hap0
              rw [hX0] at hst
              have hX0l : X0.length ≤ 10000001 := by rw [← hX0]; have := hTk.out j; (try rw [List.length_append, List.length_singleton]); omega
              replace hX0 := Lib.hid hX0
              obtain ⟨T, hT⟩ : ∃ T, textJ v = T := ⟨_, rfl⟩
              rw [hT] at hst HC hTl
              have hap1 := fun W => run_string_add_sum (P := Tryz.prog) W (tb X0) (tb T) (by rw [tb_size, tb_size]; omega)
              rw [tb_app, ← hst.out] at hap1
              clear hT hst hpt hj1 hv hlt hmj
              go_wp2_with fail
              refine HC.out.mono ?_
              rintro E w2 ⟨rfl, hb⟩
              have HB2 := Lib.hid (bon HB.out hb)
              clear hb HC HB c0 c1 c2 c3 e1 e2 e3 e4
              go_wp2
              go_roundw
              case rel => exact ⟨j + 1, by omega, rfl, by go_num, HB2⟩
              case measure => simp [intOf]; omega
      · replace HKid : Hid (∀ (i : Nat) (v : Jv), vs[i]? = some v → rightF (d - 1) v = true) := Lib.hid (fun i v h => HKid.out i v (by decide) h)
        replace HQ1 : Hid (Q = 123 :: (joinC ps ++ [125])) := Lib.hid HQ1.out
        replace HPt : Hid (∀ (j : Nat) (v : Jv), vs[j]? = some v → ∀ x, ks[j]? = some x → ps[j]? = some ((quoteQ x).1 ++ 58 :: textJ v)) := Lib.hid (fun j v h x hx => (HPt.out j v h).2 x rfl hx)
        replace HK7 := Lib.hid (HK7.out rfl)
        go_wp2_with fail
        clear c0 c1 c2 c3
        go_loopw [5, 6, 7, 8] (fun o i _ _ wr => ∃ j : Nat, j ≤ Sn ∧ o = .string (tb (joinC (ps.take j))) ∧ i = .int .i64 (j : Int) ∧ Hid (Below W0.heap.size W0 wr)) (fun _ i _ _ _ => Sn - (intOf i).toNat)
        case atStart => exact ⟨0, Nat.zero_le _, rfl, rfl, Lib.hid (Below.refl _ _)⟩
        case round =>
          obtain ⟨j, hj, rfl, rfl, HB⟩ := hrel
          obtain ⟨c0, c1, c2, c3⟩ := box4 (bx.out.up HB.out)
          by_cases hlt : j < Sn
          case neg =>
            have hjs : j = Sn := by omega
            subst hjs
            have hji : ¬ (j : Int) < (j : Int) := by omega
            have e1 : ps.take j = ps := List.take_of_length_le (by rw [HPl.out, ← hnv.out]; exact Nat.le_refl _)
            rw [e1]
            have k1 := fun W => run_string_add_sum (P := Tryz.prog) W (tb [123]) (tb (joinC ps)) (by rw [tb_size, tb_size, List.length_singleton]; omega)
            rw [tb_app] at k1
            obtain ⟨Y, hY⟩ : ∃ Y, [123] ++ joinC ps = Y := ⟨_, rfl⟩
            have hYl : Y.length = (joinC ps).length + 1 := by rw [← hY]; simp
            have hYQ : Y ++ [125] = Q := by rw [← hY, HQ1.out]; rfl
            have k2 := fun W => run_string_add_sum (P := Tryz.prog) W (tb Y) (tb [125]) (by rw [tb_size, tb_size, List.length_singleton]; omega)
            rw [hY] at k1
            rw [tb_app, hYQ] at k2
            clear hY hYl hYQ
            rw [show tb [123] = ⟨#[123]⟩ from rfl] at k1
            rw [show tb [125] = ⟨#[125]⟩ from rfl] at k2
            clear hlt HQ1 e1
            go_wp2
            go_ret
            exact ⟨rfl, bon hb0.out HB.out⟩
          case pos =>
            have hji : (j : Int) < (Sn : Int) := by omega
            have hj0 : (0 : Int) ≤ (j : Int) := by omega
            obtain ⟨v, hv⟩ : ∃ v, vs[j]? = some v := ⟨_, List.getElem?_eq_getElem (by rw [← hnv.out]; exact hlt)⟩
            obtain ⟨b1, o1, x1, x2, x3, x4, hA1, e1, e2, e3, e4, e5⟩ := ((HS.out.up hb0.out).up HB.out).kid ((HL.out.up hb0.out).up HB.out) hv
            simp only at hA1
            subst hA1
            have hwk := wt_kid hv
            have hTl := text_wt v
            have hw9 := HW.out
            have hnd := nodes_at hv
            have hrk := HKid.out j v hv
            have HC : Hid (∀ W, Below wr.heap.size wr W → Calls Tryz.prog 28 #[.agg #[x1, x2, x3, x4]] W (TxtEnds (textJ v) W)) := Lib.hid (fun W hb => IH.out v _ (d - 1) W (by have := HN.out; omega) (by omega) hrk (e5.up hb))
            obtain ⟨x, hx⟩ : ∃ x, ks[j]? = some x := ⟨_, List.getElem?_eq_getElem (by rw [HK7.out, ← hnv.out]; exact hlt)⟩
            obtain ⟨b2, o2, hA2, k2⟩ := ((HK.out.up hb0.out).up HB.out).text hx
            simp only at hA2
            subst hA2
            have hkk := wt_key hx
            have hjk : (j : Int) < (Kn : Int) := by have h1 := hnk.out; have h2 := hnv.out; have h3 := HK7.out; omega
            have hpt := HPt.out j v hv x hx
            have HU := Lib.hid (rquote_any x (by omega) wr)
            have hql := quote_len x
            clear e5 hrk hnd
            replace hTl : (textJ v).length ≤ 1000000 := by omega
            replace hql : (quoteQ x).1.length ≤ 1000000 := by omega
            clear hkk
            clear hwk hw9
            by_cases hj1 : j = 0
            · have hmj : ¬ 0 < (j : Int) := by omega
              have hmd : decide ((0 : Int) < (j : Int)) = false := decide_eq_false hmj
              have hjn : ¬ 0 < j := by omega
              have hjd : decide (0 < j) = false := decide_eq_false hjn
              have hst : Hid (joinC (ps.take (j + 1)) = joinC (ps.take j) ++ ((quoteQ x).1 ++ 58 :: textJ v)) := Lib.hid (by rw [join_take hpt, if_pos hj1, hj1, List.take_zero]; rfl)
              obtain ⟨X0, hX0⟩ : ∃ X0, joinC (ps.take j) = X0 := ⟨_, rfl⟩
              rw [hX0] at hst ⊢
              have hX0l : X0.length ≤ 10000001 := by rw [← hX0]; have := hTk.out j; (try rw [List.length_append, List.length_singleton]); omega
              replace hX0 := Lib.hid hX0
              obtain ⟨T, hT⟩ : ∃ T, textJ v = T := ⟨_, rfl⟩
              obtain ⟨⟨q, qe⟩, hq⟩ : ∃ q, quoteQ x = q := ⟨_, rfl⟩
              rw [hT] at hst HC hTl
              rw [hq] at hst HU hql
              simp only at hst hql
              have hap1 := fun W => run_string_add_sum (P := Tryz.prog) W (tb X0) (tb q) (by rw [tb_size, tb_size]; omega)
              obtain ⟨Y1, hY1⟩ : ∃ Y1, X0 ++ q = Y1 := ⟨_, rfl⟩
              obtain ⟨Y2, hY2⟩ : ∃ Y2, Y1 ++ [58] = Y2 := ⟨_, rfl⟩
              have hl1 : Y1.length ≤ 20000000 := by rw [← hY1, List.length_append]; omega
              have hl2 : Y2.length ≤ 20000001 := by rw [← hY2, List.length_append, List.length_singleton]; omega
              have hap2 := fun W => run_string_add_sum (P := Tryz.prog) W (tb Y1) (tb [58]) (by rw [tb_size, tb_size, List.length_singleton]; omega)
              have hap3 := fun W => run_string_add_sum (P := Tryz.prog) W (tb Y2) (tb T) (by rw [tb_size, tb_size]; omega)
              rw [tb_app] at hap1 hap2 hap3
              rw [hY1] at hap1
              rw [hY2] at hap2
              rw [show Y2 ++ T = joinC (ps.take (j + 1)) by rw [hst.out, ← hY2, ← hY1]; simp] at hap3
              clear hY1 hY2 hl1 hl2
              rw [show tb [58] = ⟨#[58]⟩ from rfl] at hap2
              clear hT hst hpt hj1 hv hlt hmj hq hx
              go_wp2_with fail
              refine HU.out.mono ?_
              rintro E w1 ⟨rfl, hb⟩
              have HB1 := Lib.hid (bon HB.out hb)
              replace e1 := cell_up hb e1
              replace e2 := cell_up hb e2
              replace e3 := cell_up hb e3
              replace e4 := cell_up hb e4
              have HC1 := Lib.hid (HC.out w1 hb)
              clear c0 c1 c2 c3 hb HB HU HC k2
              obtain ⟨c0, c1, c2, c3⟩ := box4 (bx.out.up HB1.out)
              go_wp2_with fail
              refine HC1.out.mono ?_
              rintro E w2 ⟨rfl, hb⟩
              have HB2 := Lib.hid (bon HB1.out hb)
              clear hb HC1 HB1 c0 c1 c2 c3 e1 e2 e3 e4
              go_wp2
              go_roundw
              case rel => exact ⟨j + 1, by omega, rfl, by go_num, HB2⟩
              case measure => simp [intOf]; omega
            · have hmj : 0 < (j : Int) := by omega
              have hmd : decide ((0 : Int) < (j : Int)) = true := decide_eq_true hmj
              have hjn : 0 < j := by omega
              have hjd : decide (0 < j) = true := decide_eq_true hjn
              have hst : Hid (joinC (ps.take (j + 1)) = (joinC (ps.take j) ++ [44]) ++ ((quoteQ x).1 ++ 58 :: textJ v)) := Lib.hid (by rw [join_take hpt, if_neg hj1, List.append_assoc]; rfl)
              have hap0 := fun W => run_string_add_sum (P := Tryz.prog) W (tb (joinC (ps.take j))) (tb [44]) (by rw [tb_size, tb_size, List.length_singleton]; have := hTk.out j; omega)
              rw [tb_app, show tb [44] = ⟨#[44]⟩ from rfl] at hap0
              obtain ⟨X0, hX0⟩ : ∃ X0, joinC (ps.take j) ++ [44] = X0 := ⟨_, rfl⟩
              rw [hX0] at hap0
              rw [hX0] at hst
              have hX0l : X0.length ≤ 10000001 := by rw [← hX0]; have := hTk.out j; (try rw [List.length_append, List.length_singleton]); omega
              replace hX0 := Lib.hid hX0
              obtain ⟨T, hT⟩ : ∃ T, textJ v = T := ⟨_, rfl⟩
              obtain ⟨⟨q, qe⟩, hq⟩ : ∃ q, quoteQ x = q := ⟨_, rfl⟩
              rw [hT] at hst HC hTl
              rw [hq] at hst HU hql
              simp only at hst hql
              have hap1 := fun W => run_string_add_sum (P := Tryz.prog) W (tb X0) (tb q) (by rw [tb_size, tb_size]; omega)
              obtain ⟨Y1, hY1⟩ : ∃ Y1, X0 ++ q = Y1 := ⟨_, rfl⟩
              obtain ⟨Y2, hY2⟩ : ∃ Y2, Y1 ++ [58] = Y2 := ⟨_, rfl⟩
              have hl1 : Y1.length ≤ 20000000 := by rw [← hY1, List.length_append]; omega
              have hl2 : Y2.length ≤ 20000001 := by rw [← hY2, List.length_append, List.length_singleton]; omega
              have hap2 := fun W => run_string_add_sum (P := Tryz.prog) W (tb Y1) (tb [58]) (by rw [tb_size, tb_size, List.length_singleton]; omega)
              have hap3 := fun W => run_string_add_sum (P := Tryz.prog) W (tb Y2) (tb T) (by rw [tb_size, tb_size]; omega)
              rw [tb_app] at hap1 hap2 hap3
              rw [hY1] at hap1
              rw [hY2] at hap2
              rw [show Y2 ++ T = joinC (ps.take (j + 1)) by rw [hst.out, ← hY2, ← hY1]; simp] at hap3
              clear hY1 hY2 hl1 hl2
              rw [show tb [58] = ⟨#[58]⟩ from rfl] at hap2
              clear hT hst hpt hj1 hv hlt hmj hq hx
              go_wp2_with fail
              refine HU.out.mono ?_
              rintro E w1 ⟨rfl, hb⟩
              have HB1 := Lib.hid (bon HB.out hb)
              replace e1 := cell_up hb e1
              replace e2 := cell_up hb e2
              replace e3 := cell_up hb e3
              replace e4 := cell_up hb e4
              have HC1 := Lib.hid (HC.out w1 hb)
              clear c0 c1 c2 c3 hb HB HU HC k2
              obtain ⟨c0, c1, c2, c3⟩ := box4 (bx.out.up HB1.out)
              go_wp2_with fail
              refine HC1.out.mono ?_
              rintro E w2 ⟨rfl, hb⟩
              have HB2 := Lib.hid (bon HB1.out hb)
              clear hb HC1 HB1 c0 c1 c2 c3 e1 e2 e3 e4
              go_wp2
              go_roundw
              case rel => exact ⟨j + 1, by omega, rfl, by go_num, HB2⟩
              case measure => simp [intOf]; omega
set_option maxRecDepth 100000 in
set_option maxHeartbeats 4000000 in
theorem rprint11_any (P : Nat → Prop) (v : Jv) (X : Value) (w : World) (hw : wtJ v ≤ 100000) (hX : JV w P v X) : Calls Tryz.prog 17 #[X] w (PriEnds (printJ v) w) := by
  obtain ⟨K, S, rfl⟩ := hX.jx
  obtain ⟨KA, Kn, Kc⟩ := K
  obtain ⟨SA, Sn, Sc⟩ := S
  simp only [jx] at hX ⊢
  have hb0 := Lib.hid (ba1 w (.cells #[.int .i64 v.k, .string (tb v.t), .slice KA Kn Kc, .slice SA Sn Sc] 25))
  have bx := Lib.hid (Box.new w 25 #[.int .i64 v.k, .string (tb v.t), .slice KA Kn Kc, .slice SA Sn Sc])
  have HX := Lib.hid (hX.up hb0.out)
  clear hX
  obtain ⟨Q, hQ⟩ : ∃ Q, printJ v = Q := ⟨_, rfl⟩
  rw [hQ]
  have HQ : Hid (Q = if rightJ v = true then (textJ v, 0) else ([], 1)) := Lib.hid hQ.symm
  clear hQ
  go_enter Tryz.func17, Tryz.ntmps17
  go_upto_region 1 with fail
  generalize w.alloc (.cells #[.int .i64 v.k, .string (tb v.t), .slice KA Kn Kc, .slice SA Sn Sc] 25) = W0 at *
  obtain ⟨c0, c1, c2, c3⟩ := box4 bx.out
  have HR := Lib.hid (rright11_any P v _ W0 hw HX.out)
  cases hr : rightJ v with
  | false =>
    have hq : Q = ([], 1) := by rw [HQ.out, hr]; rfl
    subst hq
    rw [hr] at HR
    clear HQ hr
    go_wp2_with fail
    refine HR.out.mono ?_
    rintro E w1 ⟨rfl, hb⟩
    have HB1 := bon hb0.out hb
    go_wp2
    go_ret2
    exact ⟨rfl, HB1⟩
  | true =>
    have hq : Q = (textJ v, 0) := by rw [HQ.out, hr]; rfl
    subst hq
    rw [hr] at HR
    have hrf : rightF 16 v = true := by
      rw [rightJ, Bool.and_eq_true] at hr
      exact hr.2
    have HT := Lib.hid (fun W (h : JV W P v (.agg #[.int .i64 v.k, .string (tb v.t), .slice KA Kn Kc, .slice SA Sn Sc])) => rtext11_any P (nodesJ v) v _ 16 W (Nat.le_refl _) hw hrf h)
    clear HQ hr hrf
    go_wp2_with fail
    refine HR.out.mono ?_
    rintro E w1 ⟨rfl, hb⟩
    have HB1 := Lib.hid (bon hb0.out hb)
    have HX1 := Lib.hid (HX.out.up hb)
    have bx1 := Lib.hid (bx.out.up hb)
    clear hb HX bx HR c0 c1 c2 c3
    obtain ⟨c0, c1, c2, c3⟩ := box4 bx1.out
    go_wp2_with fail
    refine (HT.out _ HX1.out).mono ?_
    rintro E w2 ⟨rfl, hb⟩
    have HB2 := bon HB1.out hb
    go_wp2
    go_ret2
    exact ⟨rfl, HB2⟩
end Go.Proofs.YtnkhghjcfhpeiaaGreatDoor
