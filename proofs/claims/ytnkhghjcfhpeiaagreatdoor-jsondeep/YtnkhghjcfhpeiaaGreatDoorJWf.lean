/-
  json.Same, walked: what is still to do is a row of pairs.
-/
import Derived.Test.YtnkhghjcfhpeiaaGreatDoorJNBits
import Derived.Test.YtnkhghjcfhpeiaaGreatDoorJPn
import Derived.Deep.LoopGhost
import Derived.Deep.RegionLaw
import Derived.Deep.RegionHeld3
namespace Go.Proofs.YtnkhghjcfhpeiaaGreatDoor
open Go.RowKit
theorem alone_call {P P2 : Nat → Prop} {va vb : Jv} {K S K2 S2 : Sli} {W : World} (hw : wtJ va ≤ 10000) (h1 : JV W P va (jx va K S)) (h2 : JV W P2 vb (jx vb K2 S2)) : Calls Tryz.prog 26 #[jx va K S, jx vb K2 S2] W (BoolEnds (aloneS va vb) W) := by
  obtain ⟨k, t, ks, vs⟩ := va
  obtain ⟨k2, t2, ls, us⟩ := vb
  obtain ⟨KA, Kn, Kc⟩ := K
  obtain ⟨SA, Sn, Sc⟩ := S
  obtain ⟨KB, Ln, Lc⟩ := K2
  obtain ⟨SB, Tn, Tc⟩ := S2
  rw [JV] at h1 h2
  obtain ⟨⟨KA', Kn', Kc'⟩, ⟨SA', Sn', Sc'⟩, cs, he, hk, hs, hj⟩ := h1
  obtain ⟨⟨KB', Ln', Lc'⟩, ⟨SB', Tn', Tc'⟩, cs2, he2, hk2, hs2, hj2⟩ := h2
  simp [jx, Jv.k, Jv.t] at he he2
  obtain ⟨⟨rfl, rfl, rfl⟩, rfl, rfl, rfl⟩ := he
  obtain ⟨⟨rfl, rfl, rfl⟩, rfl, rfl, rfl⟩ := he2
  have e1 := hk.keys
  have e2 := hk2.keys
  have e3 := hs.num hj
  have e4 := hs2.num hj2
  simp only at e1 e2 e3 e4
  have hl := wtK_len ks
  rw [wtJ] at hw
  have h := sameAlone_any P P2 k k2 t t2 ks ls KA SA KB SB Kn Kc Sn Sc Ln Lc Tn Tc W e1 e2 (by omega) hk hk2
  rw [e3, e4] at h
  simp only [jx, Jv.k, Jv.t, aloneS, Jv.ks, Jv.vs, e3, e4]
  exact h
/-- one value of a slice, at its place -/
theorem kid_at {w0 wr : World} {gt : Nat} {vs : List Jv} {cs : List Value} {A : Option Addr} {n c i : Nat} {v : Jv} (hk : Keeps (BlP gt) (BlP gt) w0 wr) (h : SlP w0 (BlP gt) ⟨A, n, c⟩ 4 cs) (hL : JL w0 (BlP gt) vs cs) (hi : vs[i]? = some v) :
    ∃ b o, ∃ K S : Sli, A = some ⟨b, o, none⟩ ∧ wr.cell? ⟨b, o + i * 4, none⟩ = some (.int .i64 v.k) ∧ wr.cell? ⟨b, o + i * 4 + 1, none⟩ = some (.string (tb v.t)) ∧ wr.cell? ⟨b, o + i * 4 + 2, none⟩ = some (.slice K.A K.n K.c) ∧ wr.cell? ⟨b, o + i * 4 + 3, none⟩ = some (.slice S.A S.n S.c) ∧ JV w0 (BlP gt) v (jx v K S) := by
  obtain ⟨x, y, z, u, k1, k2, k3, k4, k5⟩ := hL.at hi
  obtain ⟨b, o, hA, _, _, hc⟩ := (h.to hk).rd (by rw [hL.len]; have := (List.getElem?_eq_some_iff.1 hi).1; omega)
  obtain ⟨K, S, he⟩ := k5.jx
  rw [he] at k5
  simp only [jx, Value.agg.injEq, Array.mk.injEq, List.cons.injEq, and_true] at he
  obtain ⟨rfl, rfl, rfl, rfl⟩ := he
  exact ⟨b, o, K, S, hA, hc _ _ k1, by rw [Nat.add_assoc]; exact hc _ _ k2, by rw [Nat.add_assoc]; exact hc _ _ k3, by rw [Nat.add_assoc]; exact hc _ _ k4, k5⟩
theorem kids_of {w : World} {P : Nat → Prop} {v : Jv} {K S : Sli} (h : JV w P v (jx v K S)) : ∃ cs, SlP w P S 4 cs ∧ JL w P v.vs cs := by
  obtain ⟨k, t, ks, vs⟩ := v
  obtain ⟨KA, Kn, Kc⟩ := K
  obtain ⟨SA, Sn, Sc⟩ := S
  rw [JV] at h
  obtain ⟨⟨KA', Kn', Kc'⟩, ⟨SA', Sn', Sc'⟩, cs, he, hk, hs, hj⟩ := h
  simp [jx, Jv.k, Jv.t] at he
  obtain ⟨⟨rfl, rfl, rfl⟩, rfl, rfl, rfl⟩ := he
  exact ⟨cs, hs, hj⟩
/-- a list of one value -/
theorem one_list {w : World} {P : Nat → Prop} {v : Jv} {K S : Sli} {g : Nat} (h : JV w P v (jx v K S)) (hb : Box w g 25 #[.int .i64 v.k, .string (tb v.t), .slice K.A K.n K.c, .slice S.A S.n S.c]) (hP : P g) :
    ∃ cs, SlP w P ⟨some ⟨g, 0, none⟩, 1, 1⟩ 4 cs ∧ JL w P [v] cs := by
  refine ⟨[.int .i64 v.k, .string (tb v.t), .slice K.A K.n K.c, .slice S.A S.n S.c], ⟨rfl, fun _ => ⟨g, 0, rfl, hP, hb.lt, fun j u hj => ?_⟩, fun h => (by cases h), Nat.le_refl _, by show 1 ≤ maxLen; unfold maxLen; decide⟩, ?_⟩
  · rw [Nat.zero_add]
    exact hb.c j (by simpa using hj)
  · rw [JL]
    exact ⟨_, _, _, _, [], rfl, h, by rw [JL]⟩
end Go.Proofs.YtnkhghjcfhpeiaaGreatDoor

/-
  json.Same, walked.
-/
namespace Go.Proofs.YtnkhghjcfhpeiaaGreatDoor
open Go.RowKit
theorem own_ne {gp n c n' c' : Nat} {A A' : Option Addr} {s : Nat} (h : some gp ≠ (Value.slice A n c).ownBlock) (hs : gp < s) (h3 : (Value.slice A' n' c').ownBlock = (Value.slice A n c).ownBlock ∨ (Value.slice A' n' c').ownBlock = some s) : some gp ≠ (Value.slice A' n' c').ownBlock := by
  rcases h3 with h3 | h3
  · rw [h3]; exact h
  · rw [h3]
    intro e
    have := Option.some.inj e
    omega
set_option maxRecDepth 100000 in
set_option maxHeartbeats 8000000 in
/-- json.Same does what the document says -/
theorem jps : JPS := by
  intro a b K S K2 S2 w hw hA hB hT
  clear hT
  obtain ⟨R, hR⟩ : ∃ R, sameJ a b = R := ⟨_, rfl⟩
  rw [hR]
  obtain ⟨KA, Kn, Kc⟩ := K
  obtain ⟨SA, Sn, Sc⟩ := S
  obtain ⟨KB, Ln, Lc⟩ := K2
  obtain ⟨SB, Tn, Tc⟩ := S2
  simp only [jx] at hA hB ⊢
  -- the world behind the first two lines
  obtain ⟨h0, hh0⟩ : ∃ h0, w.heap.size = h0 := ⟨_, rfl⟩
  have b1 := ba1 w (.cells #[.int .i64 a.k, .string (tb a.t), .slice KA Kn Kc, .slice SA Sn Sc] 25)
  obtain ⟨W1, hW1⟩ : ∃ W1, w.alloc (.cells #[.int .i64 a.k, .string (tb a.t), .slice KA Kn Kc, .slice SA Sn Sc] 25) = W1 := ⟨_, rfl⟩
  have x1 : Box W1 h0 25 #[.int .i64 a.k, .string (tb a.t), .slice KA Kn Kc, .slice SA Sn Sc] := by rw [← hW1]; exact Box.mk' w _ _ h0 hh0
  rw [hW1] at b1
  have s1 : W1.heap.size = h0 + 1 := by rw [← hW1]; show (w.heap.push _).size = _; simp [hh0]
  have b2 := ba1 W1 (.cells #[.int .i64 b.k, .string (tb b.t), .slice KB Ln Lc, .slice SB Tn Tc] 25)
  obtain ⟨W2, hW2⟩ : ∃ W2, W1.alloc (.cells #[.int .i64 b.k, .string (tb b.t), .slice KB Ln Lc, .slice SB Tn Tc] 25) = W2 := ⟨_, rfl⟩
  have x2 : Box W2 (h0 + 1) 25 #[.int .i64 b.k, .string (tb b.t), .slice KB Ln Lc, .slice SB Tn Tc] := by rw [← hW2]; exact Box.mk' W1 _ _ _ s1
  rw [hW2] at b2
  have s2 : W2.heap.size = h0 + 2 := by rw [← hW2]; show (W1.heap.push _).size = _; simp [s1]
  have b3 := ba1 W2 (.cells #[.int .i64 a.k, .string (tb a.t), .slice KA Kn Kc, .slice SA Sn Sc] 25)
  obtain ⟨W3, hW3⟩ : ∃ W3, W2.alloc (.cells #[.int .i64 a.k, .string (tb a.t), .slice KA Kn Kc, .slice SA Sn Sc] 25) = W3 := ⟨_, rfl⟩
  have x3 : Box W3 (h0 + 2) 25 #[.int .i64 a.k, .string (tb a.t), .slice KA Kn Kc, .slice SA Sn Sc] := by rw [← hW3]; exact Box.mk' W2 _ _ _ s2
  rw [hW3] at b3
  have s3 : W3.heap.size = h0 + 3 := by rw [← hW3]; show (W2.heap.push _).size = _; simp [s2]
  have b4 := ba1 W3 (.cells #[.int .i64 b.k, .string (tb b.t), .slice KB Ln Lc, .slice SB Tn Tc] 25)
  obtain ⟨W4, hW4⟩ : ∃ W4, W3.alloc (.cells #[.int .i64 b.k, .string (tb b.t), .slice KB Ln Lc, .slice SB Tn Tc] 25) = W4 := ⟨_, rfl⟩
  have x4 : Box W4 (h0 + 3) 25 #[.int .i64 b.k, .string (tb b.t), .slice KB Ln Lc, .slice SB Tn Tc] := by rw [← hW4]; exact Box.mk' W3 _ _ _ s3
  rw [hW4] at b4
  have s4 : W4.heap.size = h0 + 4 := by rw [← hW4]; show (W3.heap.push _).size = _; simp [s3]
  have b5 := ba1 W4 (.cells #[.slice (some ⟨h0 + 2, 0, none⟩) 1 1, .slice (some ⟨h0 + 3, 0, none⟩) 1 1] 54)
  obtain ⟨W5, hW5⟩ : ∃ W5, W4.alloc (.cells #[.slice (some ⟨h0 + 2, 0, none⟩) 1 1, .slice (some ⟨h0 + 3, 0, none⟩) 1 1] 54) = W5 := ⟨_, rfl⟩
  have x5 : Box W5 (h0 + 4) 54 #[.slice (some ⟨h0 + 2, 0, none⟩) 1 1, .slice (some ⟨h0 + 3, 0, none⟩) 1 1] := by rw [← hW5]; exact Box.mk' W4 _ _ _ s4
  rw [hW5] at b5
  have s5 : W5.heap.size = h0 + 5 := by rw [← hW5]; show (W4.heap.push _).size = _; simp [s4]
  have HBW : Hid (Below w.heap.size w W5) := Lib.hid (bon (bon (bon (bon b1 b2) b3) b4) b5)
  have hA5 : JV W5 (BlP (h0 + 4)) a (jx a ⟨KA, Kn, Kc⟩ ⟨SA, Sn, Sc⟩) := JV.to (Keeps.up HBW.out (fun q _ hq => by unfold BlP; omega)) _ _ hA
  have hB5 : JV W5 (BlP (h0 + 4)) b (jx b ⟨KB, Ln, Lc⟩ ⟨SB, Tn, Tc⟩) := JV.to (Keeps.up HBW.out (fun q _ hq => by unfold BlP; omega)) _ _ hB
  obtain ⟨ca, q1, q2⟩ := one_list hA5 ((x3.up b4).up b5) (by unfold BlP; omega)
  obtain ⟨cb, q3, q4⟩ := one_list hB5 (x4.up b5) (by unfold BlP; omega)
  have HS0 : Hid (Sm W5 W5 (h0 + 4) [([a], [b])] (some ⟨h0 + 4, 0, none⟩) 1) := Lib.hid ⟨Below.refl _ _, ⟨[.slice (some ⟨h0 + 2, 0, none⟩) 1 1, .slice (some ⟨h0 + 3, 0, none⟩) 1 1], ⟨rfl, .inr ⟨h0 + 4, 1, _, rfl, Nat.le_refl _, x5, Nat.le_refl _, by show 1 ≤ maxLen; unfold maxLen; decide, rfl, rfl⟩⟩, by
    rw [TL]
    exact ⟨_, _, [], rfl, ⟨⟨some ⟨h0 + 2, 0, none⟩, 1, 1⟩, ⟨some ⟨h0 + 3, 0, none⟩, 1, 1⟩, ca, cb, rfl, rfl, q1, q2, q3, q4, rfl⟩, by rw [TL]⟩⟩, by omega⟩
  have HR0 : Hid (R = allT [([a], [b])]) := Lib.hid (by rw [← hR]; simp [allT, sameL])
  have HK0 : wtT [([a], [b])] ≤ 10001 := by
    simp only [wtT, wtL]
    omega
  obtain ⟨c0, c1, c2, c3⟩ := box4 x1
  obtain ⟨d0, d1, d2, d3⟩ := box4 x2
  obtain ⟨e0, e1, e2, e3⟩ := box4 (x1.up b2)
  obtain ⟨f0, f1, f2, f3⟩ := box4 (x2.up b3)
  have HX : Hid True := Lib.hid trivial
  clear hA hB hA5 hB5 q1 q2 q3 q4 x3 x4 x5 b1 b2 b3 b4 b5 x1 x2 hR hw c0 c1 c2 c3
  go_enter Tryz.func14, Tryz.ntmps14
  go_wp2_with fail
  go_loopg [5] (wtT [([a], [b])]) (fun k s wr => ∃ (T : List JPair) (A : Option Addr) (c : Nat), wtT T ≤ k ∧ k ≤ 10001 ∧ s = .slice A T.length c ∧ Hid (Sm W5 wr (h0 + 4) T A c) ∧ Hid (R = allT T))
  case atStart => exact ⟨_, _, _, Nat.le_refl _, HK0, rfl, HS0, HR0⟩
  case round =>
    obtain ⟨T, A, c, hk, hk1, rfl, HS, HRt⟩ := hrel
    rcases List.eq_nil_or_concat T with rfl | ⟨T1, p, rfl⟩
    · have hq : R = true := by rw [HRt.out]; rfl
      subst hq
      have HE : Hid (Below w.heap.size w wr) := Lib.hid (HBW.out.trans (HS.out.below.mono (by omega)))
      clear HRt HS HR0 HS0
      go_wp2
      go_ret
      exact ⟨rfl, HE.out⟩
    · rw [List.concat_eq_append] at hk HS HRt ⊢
      obtain ⟨⟨us, ws⟩, hp⟩ : ∃ q, p = q := ⟨_, rfl⟩
      subst hp
      rw [wtT_app] at hk
      simp only [wtT] at hk
      obtain ⟨gr, x, y, rfl, hgr, k0, k1, hp, hS1, hc1, hc2⟩ := HS.out.last
      obtain ⟨⟨PA, Pn, Pc⟩, ⟨QA, Qn, Qc⟩, cp, cq, rfl, rfl, p1, p2, p3, p4, hpl⟩ := hp
      simp only at hpl p2 p4
      obtain ⟨n, hn⟩ : ∃ n, (T1 ++ [(us, ws)]).length = n := ⟨_, rfl⟩
      obtain ⟨m, hm⟩ : ∃ m, T1.length = m := ⟨_, rfl⟩
      have hnm : n = m + 1 := by rw [← hn, ← hm]; simp
      have hS2 := hS1
      rw [hm] at k0 k1 hc1
      rw [hn]
      have hn5 : n ≤ 10001 := by have := wtT_len T1; omega
      have hwm : IntKind.i64.wrap ((n : Int) - 1) = (m : Int) := by rw [IntWalk.i64_in _ (by omega)]; omega
      have hn0 : (0 : Int) < (n : Int) := by omega
      have hn1 : decide (0 < n) = true := decide_eq_true (by omega)
      have HN1 := Lib.hid hn1
      clear hn1
      have hm0 : (0 : Int) ≤ (m : Int) := by omega
      have hmn : (m : Int) < (n : Int) := by omega
      have hmc : (m : Int) ≤ (c : Int) := by omega
      have HN := Lib.hid hnm
      have HM := Lib.hid hm
      have hba := ba1 wr (.cells #[.slice PA Pn Pc, .slice QA Qn Qc] 54)
      have bp := Lib.hid (Box.new wr 54 #[.slice PA Pn Pc, .slice QA Qn Qc])
      have HS3 := Lib.hid (hS1.up hba)
      have hgp : some wr.heap.size ≠ (Value.slice (some ⟨gr, 0, none⟩) m c).ownBlock := by
        intro e
        have := Option.some.inj e
        simp only at this
        omega
      have HGp := Lib.hid hgp
      have HP1 := Lib.hid p1
      have HP2 := Lib.hid p2
      have HP3 := Lib.hid p3
      have HP4 := Lib.hid p4
      have HPl := Lib.hid hpl
      have hPn := p1.num p2
      have hQn := p3.num p4
      simp only at hPn hQn
      have HPn := Lib.hid hPn
      have HQn := Lib.hid hQn
      have hPm : Pn ≤ 10000 := by have := wtL_len us; omega
      have HK := Lib.hid hk
      have HRt2 : Hid (R = (allT T1 && sameL us ws)) := Lib.hid (by rw [HRt.out, allT_app]; simp [allT])
      clear hn hm hnm hS1 hS2 hba hgp p1 p2 p3 p4 hpl hPn hQn hk HRt HS HR0 HS0 d0 d1 d2 d3 e0 e1 e2 e3 f0 f1 f2 f3 hc2
      go_upto_region 5 with fail
      rw [HN1.out]
      generalize hWp : wr.alloc (.cells #[.slice PA Pn Pc, .slice QA Qn Qc] 54) = Wp at *
      obtain ⟨gp, hgp⟩ : ∃ gp, wr.heap.size = gp := ⟨_, rfl⟩
      rw [hgp] at bp HGp ⊢
      clear hWp hgp k0 k1 hwm hn0 hm0 hmn hmc hgr hc1 hn5
      have kp0 := bp.out.c 0 rfl
      have kp1 := bp.out.c 1 rfl
      go_wp2_with fail
      clear kp0 kp1
      go_loopw [5, 7, 31] (fun s _ e wx => ∃ (i : Nat) (T2 : List JPair) (A2 : Option Addr) (c2 : Nat), i ≤ Pn ∧ s = .slice A2 T2.length c2 ∧ e = .int .i64 (i : Int) ∧ Hid (1 + wtT T2 + wtL (us.drop i) ≤ gk) ∧ Hid (Sm W5 wx (h0 + 4) T2 A2 c2) ∧ Hid (Box wx gp 54 #[.slice PA Pn Pc, .slice QA Qn Qc]) ∧ Hid (some gp ≠ (Value.slice A2 T2.length c2).ownBlock) ∧ Hid (R = (allT T2 && sameL (us.drop i) (ws.drop i)))) (fun _ _ e _ => Pn - (intOf e).toNat)
      case atStart => exact ⟨0, T1, _, c, Nat.zero_le _, by rw [HM.out], rfl, Lib.hid (by have := HK.out; rw [List.drop_zero]; omega), HS3, bp, by rw [HM.out]; exact HGp, by rw [List.drop_zero, List.drop_zero]; exact HRt2⟩
      case round =>
        obtain ⟨i, T2, A2, c2, hi, rfl, rfl, HK2, HS2, HB2, HG2, HR2⟩ := hrel
        obtain ⟨l2, hl2⟩ : ∃ l2, T2.length = l2 := ⟨_, rfl⟩
        rw [hl2] at HG2 ⊢
        by_cases hlt : i < Pn
        case neg =>
          have his : i = Pn := by omega
          subst his
          have hii : ¬ (i : Int) < (i : Int) := by omega
          have HE : Hid (wtT T2 < gk ∧ R = allT T2) := Lib.hid (by
            have h1 := HK2.out
            have h2 := HR2.out
            rw [List.drop_eq_nil_of_le (by rw [HPn.out]; exact Nat.le_refl _)] at h2
            rw [List.drop_eq_nil_of_le (by rw [← HPl.out, HPn.out]; exact Nat.le_refl _), sameL, Bool.and_true] at h2
            exact ⟨by omega, h2⟩)
          have HL2 := Lib.hid hl2
          clear hlt HK2 HR2 HG2 HB2 hl2
          go_wp2
          go_roundg (wtT T2)
          case measure => exact HE.out.1
          case rel => exact ⟨T2, A2, c2, Nat.le_refl _, by have := HE.out.1; omega, by rw [HL2.out], HS2, Lib.hid HE.out.2⟩
        case pos =>
          have hii : (i : Int) < (Pn : Int) := by omega
          have hi0 : (0 : Int) ≤ (i : Int) := by omega
          obtain ⟨va, hva⟩ : ∃ v, us[i]? = some v := ⟨_, List.getElem?_eq_getElem (by rw [← HPn.out]; exact hlt)⟩
          obtain ⟨vb, hvb⟩ : ∃ v, ws[i]? = some v := ⟨_, List.getElem?_eq_getElem (by rw [← HPl.out, ← HPn.out]; exact hlt)⟩
          obtain ⟨b1, o1, ⟨KA1, Kn1, Kc1⟩, ⟨SA1, Sn1, Sc1⟩, hA1, e0, e1, e2, e3, hj1⟩ := kid_at HS2.out.keep HP1.out HP2.out hva
          obtain ⟨b2, o2, ⟨KA2, Kn2, Kc2⟩, ⟨SA2, Sn2, Sc2⟩, hA2, f0, f1, f2, f3, hj2⟩ := kid_at HS2.out.keep HP3.out HP4.out hvb
          subst hA1 hA2
          have hiq : (i : Int) < (Qn : Int) := by have h1 := HPn.out; have h2 := HQn.out; have h3 := HPl.out; omega
          simp only at e0 e1 e2 e3 f0 f1 f2 f3
          have hwa : wtJ va ≤ 10000 := by have := wtL_drop hva; have := HK2.out; omega
          have HC := Lib.hid (fun (W : World) (hb : Below wr.heap.size wr W) => alone_call hwa ((JV.to HS2.out.keep _ _ hj1).up hb) ((JV.to HS2.out.keep _ _ hj2).up hb))
          have HJ1 := Lib.hid hj1
          have HJ2 := Lib.hid hj2
          have kp0 := HB2.out.c 0 rfl
          have kp1 := HB2.out.c 1 rfl
          obtain ⟨z, hz⟩ : ∃ z, aloneS va vb = z := ⟨_, rfl⟩
          rw [hz] at HC
          simp only [jx] at HC
          have Hva := Lib.hid hva
          have Hvb := Lib.hid hvb
          have HL2 := Lib.hid hl2
          have Hz := Lib.hid hz
          clear hva hvb hj1 hj2 hwa hlt hl2 hz
          go_upto_region 8 with fail
          go_region_held3 (fun W' => Below wr.heap.size wr W' ∧ W'.cell? ⟨gp, 0, none⟩ = some (.slice (some ⟨b1, o1, none⟩) Pn Pc) ∧ W'.cell? ⟨gp, 1, none⟩ = some (.slice (some ⟨b2, o2, none⟩) Qn Qc) ∧ W'.cell? ⟨b1, o1 + i * 4, none⟩ = some (.int .i64 va.k) ∧ W'.cell? ⟨b1, o1 + i * 4 + 1, none⟩ = some (.string (tb va.t)) ∧ W'.cell? ⟨b1, o1 + i * 4 + 2, none⟩ = some (.slice KA1 Kn1 Kc1) ∧ W'.cell? ⟨b1, o1 + i * 4 + 3, none⟩ = some (.slice SA1 Sn1 Sc1) ∧ W'.cell? ⟨b2, o2 + i * 4, none⟩ = some (.int .i64 vb.k) ∧ W'.cell? ⟨b2, o2 + i * 4 + 1, none⟩ = some (.string (tb vb.t)) ∧ W'.cell? ⟨b2, o2 + i * 4 + 2, none⟩ = some (.slice KA2 Kn2 Kc2) ∧ W'.cell? ⟨b2, o2 + i * 4 + 3, none⟩ = some (.slice SA2 Sn2 Sc2))
            (first | exact ⟨(Below.refl _ _).drew, kp0, kp1, e0, e1, e2, e3, f0, f1, f2, f3⟩ | exact held10 hbP (by assumption) | fail)
            (first
              | (go_at_call 26; refine (HC.out _ ((Below.refl wr.heap.size wr).drew)).mono ?_; rintro E wP ⟨rfl, hbP⟩)
              | fail)
          rename_i hHeld
          obtain ⟨hd, kp0, kp1, -, -, -, e3, -, -, -, f3⟩ := hHeld
          have HS4 := Lib.hid (HS2.out.up hd)
          have HB4 := Lib.hid (HB2.out.up hd)
          clear hd HS2 HB2 HC
          cases z with
          | false =>
            have hq : R = false := by rw [HR2.out, sameL_drop Hva.out Hvb.out, alone_no Hz.out]; simp
            subst hq
            have HE : Hid (Below w.heap.size w _) := Lib.hid (HBW.out.trans (HS4.out.below.mono (by omega)))
            clear HR2 HRt2 Hz kp0 kp1 e3 f3
            go_wp2
            go_ret
            exact ⟨rfl, HE.out⟩
          | true =>
            obtain ⟨ck1, g1, g2⟩ := kids_of HJ1.out
            obtain ⟨ck2, g3, g4⟩ := kids_of HJ2.out
            have hS1 := g1.num g2
            simp only at hS1
            have hyes := (alone_yes Hz.out).2
            have hwd := wtL_drop Hva.out
            have hst := push_step (T := T2) Hz.out (sameL (us.drop (i + 1)) (ws.drop (i + 1)))
            have HRn : Hid (R = (allT (pushT T2 va vb) && sameL (us.drop (i + 1)) (ws.drop (i + 1)))) := Lib.hid (by rw [hst, HR2.out, sameL_drop Hva.out Hvb.out])
            have hpw := push_wt (T := T2) (x := va) (y := vb)
            have HKn : Hid (1 + wtT (pushT T2 va vb) + wtL (us.drop (i + 1)) ≤ gk) := Lib.hid (by have := HK2.out; omega)
            clear hst hwd hpw
            by_cases hs0 : Sn1 = 0
            · have hpu : pushT T2 va vb = T2 := by
                unfold pushT
                rw [if_pos (List.eq_nil_of_length_eq_zero (by omega))]
              rw [hpu] at HRn HKn
              subst hs0
              clear hpu g1 g2 g3 g4 hS1 hyes kp1 f3
              go_wp2_with fail
              go_roundw
              case rel => exact ⟨i + 1, T2, A2, c2, by omega, by rw [HL2.out], by go_num, HKn, HS4, HB4, by rw [HL2.out]; exact HG2, HRn⟩
              case measure => simp [intOf]; omega
            · have hpu : pushT T2 va vb = T2 ++ [(va.vs, vb.vs)] := by
                unfold pushT
                rw [if_neg (fun e => hs0 (by rw [hS1, e]; rfl))]
              rw [hpu] at HRn HKn
              have h00 : (0 : Int) < (Sn1 : Int) := by omega
              have h01 : 0 < Sn1 := by omega
              have HPr : Hid (PrP W5 (BlP (h0 + 4)) (va.vs, vb.vs) (.slice SA1 Sn1 Sc1) (.slice SA2 Sn2 Sc2)) := Lib.hid ⟨⟨SA1, Sn1, Sc1⟩, ⟨SA2, Sn2, Sc2⟩, ck1, ck2, rfl, rfl, g1, g2, g3, g4, hyes⟩
              have hl3 : l2 ≤ 10001 := by have h1 := HK2.out; have h2 := wtT_len T2; have h3 := HL2.out; omega
              clear hpu hs0 g1 g2 g3 g4 hS1 hyes HK2 HR2
              go_upto_region 11 with fail
              have hba := ba1 wP (.cells #[.slice SA1 Sn1 Sc1, .slice SA2 Sn2 Sc2] 54)
              have hbd : Below wP.heap.size wP (wP.alloc (.cells #[.slice SA1 Sn1 Sc1, .slice SA2 Sn2 Sc2] 54)).drew := hba.drew
              have HS5 := Lib.hid (HS4.out.up hbd)
              have HB5 := Lib.hid (HB4.out.up hbd)
              have HSrc : Hid (Src (wP.alloc (.cells #[.slice SA1 Sn1 Sc1, .slice SA2 Sn2 Sc2] 54)).drew 2 (some ⟨wP.heap.size, 0, none⟩) 1 1 [.slice SA1 Sn1 Sc1, .slice SA2 Sn2 Sc2]) := Lib.hid (src_one wP 54 [.slice SA1 Sn1 Sc1, .slice SA2 Sn2 Sc2] 1 2 rfl)
              obtain ⟨cs5, hrow, htl⟩ := HS5.out.row
              rw [HL2.out] at hrow
              have HRow := Lib.hid hrow
              have HTl := Lib.hid htl
              have hgs : h0 + 4 ≤ (wP.alloc (.cells #[.slice SA1 Sn1 Sc1, .slice SA2 Sn2 Sc2] 54)).drew.heap.size := by have h1 := HS5.out.lo; have h2 := HS5.out.below.size; omega
              have HGs : Hid (gp < (wP.alloc (.cells #[.slice SA1 Sn1 Sc1, .slice SA2 Sn2 Sc2] 54)).drew.heap.size) := Lib.hid HB5.out.lt
              have hOn : ∀ u ∈ [Value.slice SA1 Sn1 Sc1, .slice SA2 Sn2 Sc2], u.oneCell' = true := by
                intro u hu
                simp only [List.mem_cons, List.not_mem_nil, or_false] at hu
                rcases hu with rfl | rfl <;> rfl
              have HOn := Lib.hid hOn
              obtain ⟨iP, hi1, hz0, hz1, hz2⟩ := info_parts infoPr
              clear hrow htl hba hbd hOn
              go_region_law (first
                | (refine step_app _ (by rfl) _ _ 55 (by rfl) (h0 + 4) 54 iP _ 2 48 (by decide) Tryz.underlying55 hi1 hz0 hz1 hz2 rfl (.slice A2 l2 c2) l2 cs5 (by rfl) HRow.out (some ⟨wP.heap.size, 0, none⟩) 1 1 [.slice SA1 Sn1 Sc1, .slice SA2 Sn2 Sc2] (by rfl) HSrc.out HOn.out ?_ ?_ hgs (l2 + 1) rfl ?_; (unfold maxLen; omega); omega; intro A' c' w7 q1 q2 q3)
                | fail)
              all_goals
                have HS6 : Hid (Sm W5 w7 (h0 + 4) (T2 ++ [(va.vs, vb.vs)]) A' c') := Lib.hid (by
                  have h1 := HRow.out
                  rw [← HL2.out] at h1 q1 q2
                  exact HS5.out.push h1 HTl.out HPr.out q1 q2)
                have HB6 := Lib.hid (grown_box q2 HB5.out HG2.out)
                have HG6 := Lib.hid (own_ne HG2.out HGs.out q3)
                have HL6 : Hid ((T2 ++ [(va.vs, vb.vs)]).length = l2 + 1) := Lib.hid (by rw [List.length_append, HL2.out]; rfl)
                clear q1 q2 q3 HS5 HB5 HG2 HRow HTl HSrc HGs hgs HS4 HB4
                go_wp2_with fail
                go_roundw
                case rel => exact ⟨i + 1, T2 ++ [(va.vs, vb.vs)], A', c', by omega, by rw [HL6.out], by go_num, HKn, HS6, HB6, by rw [HL6.out]; exact HG6, HRn⟩
                case measure => simp [intOf]; omega
end Go.Proofs.YtnkhghjcfhpeiaaGreatDoor
