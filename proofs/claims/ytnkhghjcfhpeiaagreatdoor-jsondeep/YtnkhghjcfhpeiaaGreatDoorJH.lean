/-
  The walk of the laws' few: has a value few values, and short texts?
-/
import Derived.Test.YtnkhghjcfhpeiaaGreatDoorJSa
import Derived.Test.YtnkhghjcfhpeiaaGreatDoorJJs
namespace Go.Proofs.YtnkhghjcfhpeiaaGreatDoor
open Go.RowKit

mutual
/-- all texts are such as a memory bears -/
def ShJ : Jv → Prop | .mk _ t ks vs => t.length ≤ maxLen ∧ (∀ k ∈ ks, k.length ≤ maxLen) ∧ ShL vs
def ShL : List Jv → Prop | [] => True | v :: r => ShJ v ∧ ShL r
end
theorem ShL.at : ∀ {vs : List Jv} {i : Nat} {v : Jv}, ShL vs → vs[i]? = some v → ShJ v
  | [], i, v, _, h => by simp at h
  | u :: r, 0, v, h, hi => by
    rw [ShL] at h
    simp at hi
    exact hi ▸ h.1
  | u :: r, i + 1, v, h, hi => by
    rw [ShL] at h
    exact ShL.at (i := i) h.2 (by simpa using hi)
theorem wtL_app : ∀ a b : List Jv, wtL (a ++ b) = wtL a + wtL b
  | [], b => by simp [wtL]
  | v :: r, b => by
    rw [List.cons_append, wtL, wtL, wtL_app r b]
    omega
theorem wtK_app : ∀ a b : List Bs, wtK (a ++ b) = wtK a + wtK b
  | [], b => by simp [wtK]
  | v :: r, b => by
    rw [List.cons_append, wtK, wtK, wtK_app r b]
    omega
theorem wtL_succ {vs : List Jv} {i : Nat} {v : Jv} (h : vs[i]? = some v) : wtL (vs.take (i + 1)) = wtL (vs.take i) + wtJ v := by
  rw [List.take_add_one, h, wtL_app]
  show wtL (vs.take i) + wtL [v] = _
  rw [wtL, wtL]
  rfl
theorem wtK_succ {ks : List Bs} {i : Nat} {k : Bs} (h : ks[i]? = some k) : wtK (ks.take (i + 1)) = wtK (ks.take i) + (1 + k.length) := by
  rw [List.take_add_one, h, wtK_app]
  show wtK (ks.take i) + wtK [k] = _
  rw [wtK, wtK]
  rfl
theorem wtL_take (vs : List Jv) (i : Nat) : wtL (vs.take i) ≤ wtL vs := by
  have h := wtL_app (vs.take i) (vs.drop i)
  rw [List.take_append_drop] at h
  omega
theorem wtK_take (ks : List Bs) (i : Nat) : wtK (ks.take i) ≤ wtK ks := by
  have h := wtK_app (ks.take i) (ks.drop i)
  rw [List.take_append_drop] at h
  omega
/-- so many are left; none, if it has more -/
def FewEnds (n : Nat) (M : Int) (w : World) (E : Ending) (w' : World) : Prop :=
  ∃ r : Int, E = .returned (.int .i64 r) ∧ r ≤ M ∧ -(maxLen : Int) ≤ r ∧ (0 < r ∨ 0 < M - (n : Int) → r = M - (n : Int)) ∧ Below w.heap.size w w'
set_option maxRecDepth 100000 in
set_option maxHeartbeats 4000000 in
theorem few_any (P : Nat → Prop) : ∀ (n : Nat) (v : Jv) (X : Value) (M : Int) (w : World), M ≤ (n : Int) → 1 ≤ M → M ≤ 10000 → JV w P v X → ShJ v → Calls Tryz.prog 8 #[X, .int .i64 M] w (FewEnds (wtJ v) M w) := by
  intro N
  induction N with
  | zero =>
    intro v X M w h h2
    omega
  | succ N ih =>
    rintro ⟨k, t, ks, vs⟩ X M w hn hM1 hM2 hX hSh
    rw [JV] at hX
    obtain ⟨K, S, cs, rfl, hK, hS, hL⟩ := hX
    rw [ShJ] at hSh
    obtain ⟨hs1, hs2, hs3⟩ := hSh
    have hnv := Lib.hid (hS.num hL)
    have hnk : Hid (K.n = ks.length) := Lib.hid (by have := hK.len; simp only [svs, List.length_map] at this; omega)
    have HW : Hid (wtJ (.mk k t ks vs) = 1 + t.length + wtK ks + wtL vs) := Lib.hid (by rw [wtJ])
    obtain ⟨wt, hwt⟩ : ∃ wt, wtJ (.mk k t ks vs) = wt := ⟨_, rfl⟩
    rw [hwt] at HW ⊢
    have HK := Lib.hid hK
    have HS := Lib.hid hS
    have HL := Lib.hid hL
    have IH := Lib.hid ih
    have HN := Lib.hid hn
    have HS2 := Lib.hid hs2
    have HS3 := Lib.hid hs3
    have hSm : S.n ≤ maxLen := Nat.le_trans hS.le.1 hS.le.2
    have hKm : K.n ≤ maxLen := Nat.le_trans hK.le.1 hK.le.2
    unfold maxLen at hSm hKm hs1
    clear hK hS hL ih hn hs2 hs3 hwt
    obtain ⟨KA, Kn, Kc⟩ := K
    obtain ⟨SA, Sn, Sc⟩ := S
    simp only at hnv hnk hSm hKm ⊢
    go_enter Tryz.func8, Tryz.ntmps8
    have HB0 := Lib.hid (ba1 w (.cells #[.int .i64 k, .string (tb t), .slice KA Kn Kc, .slice SA Sn Sc] 25))
    have hbx := Lib.hid (Box.new w 25 #[.int .i64 k, .string (tb t), .slice KA Kn Kc, .slice SA Sn Sc])
    obtain ⟨Q0, hQ0⟩ : ∃ Q0 : Int, M - 1 - (t.length : Int) = Q0 := ⟨_, rfl⟩
    have hw1 : IntKind.i64.wrap (M - 1) = M - 1 := IntWalk.i64_in _ (by omega)
    have hw2 : IntKind.i64.wrap (M - 1 - ((tb t).size : Int)) = Q0 := by rw [tb_size, hQ0]; exact IntWalk.i64_in _ (by omega)
    have hQl : -9223372036854775807 ≤ Q0 := by omega
    have hQm : Q0 ≤ M - 1 := by omega
    have HQ0 := Lib.hid hQ0
    clear hQ0
    go_wp2_with fail
    generalize w.alloc (.cells #[.int .i64 k, .string (tb t), .slice KA Kn Kc, .slice SA Sn Sc] 25) = W0 at *
    obtain ⟨a0, a1, a2, a3⟩ := box4 hbx.out
    go_loopw [1, 5] (fun m i wr => ∃ (j : Nat) (q : Int), j ≤ Kn ∧ i = .int .i64 (j : Int) ∧ m = .int .i64 q ∧ q ≤ M - 1 ∧ -9223372036854775807 ≤ q ∧ Hid (q = Q0 - (wtK (ks.take j) : Int)) ∧ W0 = wr) (fun _ i _ => Kn - (intOf i).toNat)
    case atStart => exact ⟨0, Q0, Nat.zero_le _, rfl, rfl, hQm, hQl, Lib.hid (by rw [List.take_zero, wtK]; simp), rfl⟩
    case round =>
      obtain ⟨j, q, hj, rfl, rfl, hqM, hql, HQ, rfl⟩ := hrel
      have hj0 : (0 : Int) ≤ (j : Int) := by omega
      go_upto_region 3 with fail
      go_cut [21] (fun v W => v = .bool (decide (j < Kn) && decide (0 < q)) ∧ W0 = W)
      case first =>
        by_cases hlt : j < Kn
        · have hji : (j : Int) < (Kn : Int) := by omega
          have hd1 := Lib.hid (decide_eq_true hlt)
          clear hlt
          by_cases hqp : 0 < q
          · have hd2 := Lib.hid (decide_eq_true hqp)
            go_wp2
            go_meet
            exact ⟨by rw [hd1.out, hd2.out]; rfl, rfl⟩
          · have hd2 := Lib.hid (decide_eq_false hqp)
            go_wp2
            go_meet
            exact ⟨by rw [hd1.out, hd2.out]; rfl, rfl⟩
        · have hji : ¬ (j : Int) < (Kn : Int) := by omega
          have hd1 := Lib.hid (decide_eq_false hlt)
          clear hlt
          go_wp2
          go_meet
          exact ⟨by rw [hd1.out]; rfl, rfl⟩
      case rest =>
      obtain ⟨rfl, rfl⟩ := hcut
      cases hcc : (decide (j < Kn) && decide (0 < q)) with
      | true =>
        rw [Bool.and_eq_true, decide_eq_true_eq, decide_eq_true_eq] at hcc
        obtain ⟨hlt, hqp⟩ := hcc
        have hji : (j : Int) < (Kn : Int) := by omega
        have hl1 : j < ks.length := by have := hnk.out; omega
        have hg1 : ks[j]? = some ks[j] := List.getElem?_eq_getElem hl1
        obtain ⟨b1, o1, hA1, e1⟩ := (HK.out.up HB0.out).text hg1
        simp only at hA1
        subst hA1
        obtain ⟨z, hz⟩ : ∃ z, ks[j] = z := ⟨_, rfl⟩
        have hzl : z.length ≤ 9223372036854775807 := by rw [← hz]; exact HS2.out _ (List.getElem_mem hl1)
        have HNs := Lib.hid (wtK_succ hg1)
        rw [hz] at e1 HNs
        have h1 : IntKind.i64.wrap (q - 1) = q - 1 := IntWalk.i64_in _ (by omega)
        obtain ⟨q2, hq2⟩ : ∃ q2 : Int, q - 1 - (z.length : Int) = q2 := ⟨_, rfl⟩
        have h2 : IntKind.i64.wrap (q - 1 - ((tb z).size : Int)) = q2 := by rw [tb_size, hq2]; exact IntWalk.i64_in _ (by omega)
        have HQ1 : Hid (q2 = Q0 - (wtK (ks.take (j + 1)) : Int)) := Lib.hid (by
          have h := HQ.out
          rw [HNs.out]
          omega)
        have hq2l : -9223372036854775807 ≤ q2 := by omega
        have hq2m : q2 ≤ M - 1 := by omega
        clear hq2 hz hzl HNs hl1 hg1 hlt
        go_wp2
        go_roundw
        case rel => exact ⟨j + 1, q2, by omega, by go_num, rfl, hq2m, hq2l, HQ1, trivial⟩
        case measure => simp [intOf]; omega
      | false =>
      have HQ1 : Hid ((q ≤ 0 ∧ M - (wt : Int) ≤ 0) ∨ q = Q0 - (wtK ks : Int)) := Lib.hid (by
        have h := HQ.out
        have h2 := wtK_take ks j
        have h3 := HW.out
        have h4 := HQ0.out
        rw [Bool.and_eq_false_iff, decide_eq_false_iff_not, decide_eq_false_iff_not] at hcc
        rcases hcc with h5 | h5
        · rw [List.take_of_length_le (by have := hnk.out; omega)] at h
          exact .inr h
        · exact .inl (by omega))
      clear hcc HQ a0 a1 a2 a3
      obtain ⟨q0, rfl⟩ : ∃ q0, q0 = q := ⟨_, rfl⟩
      clear hj hj0
      go_wp2_with fail
      go_loopw [1, 6] (fun m i wr => ∃ (j : Nat) (q : Int), j ≤ Sn ∧ i = .int .i64 (j : Int) ∧ m = .int .i64 q ∧ q ≤ M - 1 ∧ -9223372036854775807 ≤ q ∧ Hid ((q ≤ 0 ∧ M - (wt : Int) ≤ 0) ∨ q = Q0 - (wtK ks : Int) - (wtL (vs.take j) : Int)) ∧ Hid (Below W0.heap.size W0 wr)) (fun _ i _ => Sn - (intOf i).toNat)
      case atStart => exact ⟨0, q0, Nat.zero_le _, rfl, rfl, hqM, hql, Lib.hid (by rw [List.take_zero, wtL]; simpa using HQ1.out), Lib.hid (Below.refl _ _)⟩
      case round =>
        obtain ⟨j, q, hj, rfl, rfl, hqM, hql, HQ, HB⟩ := hrel
        obtain ⟨c0, c1, c2, c3⟩ := box4 (hbx.out.up HB.out)
        have HE : Hid (0 < q ∨ 0 < M - (wt : Int) → j = Sn ∨ q ≤ 0 → q = M - (wt : Int)) := Lib.hid (by
          have h := HQ.out
          have h2 := wtL_take vs j
          have h3 := HW.out
          have h4 := HQ0.out
          intro h5 h6
          by_cases hjs : j = Sn
          · rw [List.take_of_length_le (by have := hnv.out; omega)] at h
            omega
          · omega)
        by_cases hlt : j < Sn
        case neg =>
          have hjs : j = Sn := by omega
          subst hjs
          have hji : ¬ (j : Int) < (j : Int) := by omega
          clear hlt
          go_wp2
          go_ret
          exact ⟨q, rfl, by omega, by unfold maxLen; omega, fun h => HE.out h (by simp), bon HB0.out HB.out⟩
        case pos =>
          have hji : (j : Int) < (Sn : Int) := by omega
          have hj0 : (0 : Int) ≤ (j : Int) := by omega
          by_cases hqp : 0 < q
          case neg =>
            go_wp2
            go_ret
            exact ⟨q, rfl, by omega, by unfold maxLen; omega, fun h => HE.out h (.inr (by omega)), bon HB0.out HB.out⟩
          case pos =>
            have hl1 : j < vs.length := by have := hnv.out; omega
            have hg1 : vs[j]? = some vs[j] := List.getElem?_eq_getElem hl1
            obtain ⟨b1, o1, x1, x2, x3, x4, hA1, e1, e2, e3, e4, e5⟩ := ((HS.out.up HB0.out).up HB.out).kid ((HL.out.up HB0.out).up HB.out) hg1
            simp only at hA1
            subst hA1
            have HCall := Lib.hid (IH.out vs[j] _ q wr (by have := HN.out; omega) (by omega) (by omega) e5 (HS3.out.at hg1))
            have HNs := Lib.hid (wtL_succ hg1)
            clear e5 hg1
            go_wp2_with fail
            refine HCall.out.mono ?_
            rintro E w1 ⟨r, rfl, hr1, hr2, hr3, hb1⟩
            unfold maxLen at hr2
            have HR3 := Lib.hid hr3
            have HQ2 : Hid ((r ≤ 0 ∧ M - (wt : Int) ≤ 0) ∨ r = Q0 - (wtK ks : Int) - (wtL (vs.take (j + 1)) : Int)) := Lib.hid (by
              have h := HQ.out
              have h2 := wtL_take vs (j + 1)
              have h3 := HW.out
              have h4 := HQ0.out
              have h5 := HR3.out
              rw [HNs.out] at h2 ⊢
              omega)
            have HB1 := Lib.hid (bon HB.out hb1)
            clear hb1 HCall HB hr3 HR3 HE HNs hl1
            go_wp2
            go_roundw
            case rel => exact ⟨j + 1, r, by omega, by go_num, rfl, by omega, by omega, HQ2, HB1⟩
            case measure => simp [intOf]; omega
end Go.Proofs.YtnkhghjcfhpeiaaGreatDoor
