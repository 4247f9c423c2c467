/-
  The document's own reader: an object.
-/
import Derived.Test.YtnkhghjcfhpeiaaGreatDoorXf
import Derived.Deep.CutBlock
namespace Go.Proofs.YtnkhghjcfhpeiaaGreatDoor
open Go.RowKit
theorem LD.kn {w W : World} {g gr gv : Nat} {kd : Int} {K S : Sli} {ks : List Bs} {vs : List Jv} {cs : List Value} (h : LD w W g gr gv kd K ks S vs cs) : ks.length = K.n := by
  have := h.krow.1
  unfold svs at this
  simpa using this
theorem LD.keyat {w W : World} {g gr gv : Nat} {kd : Int} {K S : Sli} {ks : List Bs} {vs : List Jv} {cs : List Value} (h : LD w W g gr gv kd K ks S vs cs) {j : Nat} {k : Bs} (hj : ks[j]? = some k) : ∃ b o, K.A = some ⟨b, o, none⟩ ∧ W.cell? ⟨b, o + j, none⟩ = some (.string (tb k)) := by
  have hlt := (List.getElem?_eq_some_iff.1 hj).1
  have hk := h.krow.1
  have hS := row_slp h.krow (by rw [hk]) (fun e => by
    rw [e, Nat.zero_mul] at hk
    exact List.eq_nil_of_length_eq_zero hk)
  obtain ⟨b, o, e, _, hl, hc⟩ := hS.rd (by unfold svs; simp only [List.length_map]; omega)
  exact ⟨b, o, e, hc j _ (by unfold svs; rw [List.getElem?_map, List.getElem?_map, hj]; rfl)⟩
/-- behind a key: the text itself, or an error -/
def KeyD (ks : List Bs) (T : Except (Int × Bs) (Bs × Bs)) (l0 x l : Bs) (e : Int) : Prop := match T with
  | .error (e', r) => l = r ∧ e = e' ∧ e ≠ 0
  | .ok (k, r) => if ks.contains k = true then l = l0 ∧ e = 31 else x = k ∧ l = r ∧ e = 0
/-- while the keys are compared -/
def KInv (ks : List Bs) (T : Except (Int × Bs) (Bs × Bs)) (l0 x l2 : Bs) (e2 : Int) (j : Nat) (l : Bs) (e : Int) : Prop :=
  (e = 0 ∧ e2 = 0 ∧ l = l2 ∧ ∀ i k, i < j → ks[i]? = some k → k ≠ x) ∨ (e ≠ 0 ∧ KeyD ks T l0 x l e)
theorem kinv_start {ks : List Bs} {T : Except (Int × Bs) (Bs × Bs)} {l0 x l2 : Bs} {e2 : Int} (h : ResX T x l2 e2) : KInv ks T l0 x l2 e2 0 l2 e2 := by
  by_cases he : e2 = 0
  · exact .inl ⟨he, he, rfl, fun i k hi => absurd hi (by omega)⟩
  · refine .inr ⟨he, ?_⟩
    unfold ResX at h
    unfold KeyD
    split at h
    · exact h
    · exact absurd h.2.2 he
theorem kinv_end {ks : List Bs} {T : Except (Int × Bs) (Bs × Bs)} {l0 x l2 : Bs} {e2 : Int} {l : Bs} {e : Int} (hr : ResX T x l2 e2) (h : KInv ks T l0 x l2 e2 ks.length l e) : KeyD ks T l0 x l e := by
  rcases h with ⟨rfl, rfl, rfl, hk⟩ | h
  · unfold ResX at hr
    unfold KeyD
    split at hr
    · exact absurd rfl hr.2.2
    · obtain ⟨rfl, rfl, _⟩ := hr
      refine Eq.mpr (if_neg ?_) ⟨rfl, rfl, rfl⟩
      intro hc
      rw [List.contains_eq_mem, decide_eq_true_eq] at hc
      obtain ⟨i, hi⟩ := List.getElem?_of_mem hc
      exact hk i _ (List.getElem?_eq_some_iff.1 hi).1 hi rfl
  · exact h.2
theorem kinv_hit {ks : List Bs} {T : Except (Int × Bs) (Bs × Bs)} {l0 x l2 : Bs} {e2 : Int} {j j' : Nat} {l : Bs} (hr : ResX T x l2 e2) (h : KInv ks T l0 x l2 e2 j l 0) (hj : ks[j]? = some x) : KInv ks T l0 x l2 e2 j' l0 31 := by
  rcases h with ⟨_, rfl, rfl, hk⟩ | h
  · refine .inr ⟨by decide, ?_⟩
    unfold ResX at hr
    unfold KeyD
    split at hr
    · exact absurd rfl hr.2.2
    · obtain ⟨rfl, rfl, _⟩ := hr
      refine Eq.mpr (if_pos ?_) ⟨rfl, rfl⟩
      rw [List.contains_eq_mem, decide_eq_true_eq]
      exact List.mem_of_getElem? hj
  · exact absurd rfl h.1
theorem kinv_miss {ks : List Bs} {T : Except (Int × Bs) (Bs × Bs)} {l0 x l2 : Bs} {e2 : Int} {j : Nat} {l : Bs} {k : Bs} (h : KInv ks T l0 x l2 e2 j l 0) (hj : ks[j]? = some k) (hne : k ≠ x) : KInv ks T l0 x l2 e2 (j + 1) l 0 := by
  rcases h with ⟨h1, h2, h3, hk⟩ | h
  · refine .inl ⟨h1, h2, h3, fun i k' hi hk' => ?_⟩
    by_cases hij : i < j
    · exact hk i k' hij hk'
    · obtain rfl : i = j := by omega
      rw [hj] at hk'
      obtain rfl := Option.some.inj hk'
      exact hne
  · exact absurd rfl h.1
theorem kinv_err {ks : List Bs} {T : Except (Int × Bs) (Bs × Bs)} {l0 x l2 : Bs} {e2 : Int} {j : Nat} {l : Bs} {e : Int} (h : KInv ks T l0 x l2 e2 j l e) (he : e ≠ 0) : KeyD ks T l0 x l e := by
  rcases h with ⟨h1, _⟩ | h
  · exact absurd h1 he
  · exact h.2
/-- need, behind an error or not -/
def needX (e : Int) (l : Bs) : Bs × Int := if e = 0 then needD 58 l else (l, e)
theorem sneedx (g : Nat) (s l : Bs) (m : Nat) (e : Int) (w : World) (hs : s.length ≤ 1000000) (h : DS w g s l m e) : Calls Tryz.prog 77 #[.pointer (some ⟨g, 0, none⟩), .int .u8 58] w (DEnds g s w (.tuple #[]) (needX e l).1 m (needX e l).2) := by
  unfold needX
  by_cases he : e = 0
  · subst he
    rw [if_pos rfl]
    exact sneed_ok g s l m 58 w hs h
  · rw [if_neg he]
    exact sneed_er g s l m e he 58 w h
theorem need_le (c : UInt8) (l : Bs) : (needD c l).1.length ≤ l.length := by
  unfold needD
  split
  · exact is_le c l
  · exact is_le c l
/-- what a round of an object comes to, behind its key and the colon -/
theorem mems_next {o : Nat} {ks : List Bs} {vs : List Jv} {m : Nat} {l x l3 l5 : Bs} {e3 e5 : Int} {R0 : Res} (hR : R0 = runU (.mems o ks vs) m l) (hK : KeyD ks (textR (skipB l)) (skipB l) x l3 e3) (hn : needX e3 l3 = (l5, e5)) : ∃ I : Res, ((e5 = 0 ∧ l5.length < l.length ∧ I = runU (.val (o + 1)) m l5) ∨ (e5 ≠ 0 ∧ I = .error (e5, l5))) ∧
    R0 = match I with
      | .error e => .error e
      | .ok (v, m', l') => if (isD 44 l').1 = true then runU (.mems o (ks ++ [x]) (vs ++ [v])) m' (isD 44 l').2 else if (isD 125 (isD 44 l').2).1 = true then .ok (.mk 7 [] (ks ++ [x]) (vs ++ [v]), m', (isD 125 (isD 44 l').2).2) else .error (31, (isD 125 (isD 44 l').2).2) := by
  rw [mems_is] at hR
  subst hR
  unfold KeyD at hK
  unfold needX at hn
  cases hT : textR (skipB l) with
  | error q =>
    obtain ⟨e', r⟩ := q
    rw [hT] at hK
    obtain ⟨rfl, rfl, he⟩ := hK
    rw [if_neg he] at hn
    obtain ⟨rfl, rfl⟩ := Prod.mk.inj hn
    exact ⟨_, .inr ⟨he, rfl⟩, rfl⟩
  | ok q =>
    obtain ⟨k, r⟩ := q
    rw [hT] at hK
    simp only at hK ⊢
    by_cases hc : ks.contains k = true
    · rw [if_pos hc] at hK
      obtain ⟨rfl, rfl⟩ := hK
      rw [if_neg (by decide)] at hn
      obtain ⟨rfl, rfl⟩ := Prod.mk.inj hn
      rw [if_pos hc]
      exact ⟨_, .inr ⟨by decide, rfl⟩, rfl⟩
    · rw [if_neg hc] at hK
      obtain ⟨rfl, rfl, rfl⟩ := hK
      rw [if_pos rfl] at hn
      rw [if_neg hc, hn]
      simp only
      by_cases he : e5 = 0
      · subst he
        rw [if_neg (by simp)]
        have h1 := need_le 58 l3
        have h2 := (text_len hT).1
        have h3 := skip_le l
        rw [hn] at h1
        simp only at h1
        exact ⟨_, .inl ⟨rfl, by omega, rfl⟩, rfl⟩
      · rw [if_pos he]
        exact ⟨_, .inr ⟨he, rfl⟩, rfl⟩
theorem svalue_any (g : Nat) (s : Bs) (N o m : Nat) (l : Bs) (e : Int) (I : Res) (w : World) (hV : VdAll g s N) (ho : o ≤ 16) (hm : m ≤ 500) (h : DS w g s l m e) (hI : (e = 0 ∧ l.length ≤ N ∧ I = runU (.val o) m l) ∨ (e ≠ 0 ∧ I = .error (e, l))) : Calls Tryz.prog 31 #[.pointer (some ⟨g, 0, none⟩), .int .i64 (o : Int)] w (VdE g s I w) := by
  rcases hI with ⟨he, hl, hI⟩ | ⟨he, rfl⟩
  · exact svalue_both g s N o m l e I w hV hl ho hm h (.inl ⟨he, hI⟩)
  · refine (svalue_er g s l m e he o w h).mono ?_
    rintro E w' ⟨rfl, hb, hd⟩
    exact ⟨.zero, ⟨none, 0, 0⟩, ⟨none, 0, 0⟩, m, l, e, ⟨rfl, rfl, he⟩, by omega, jleaf _ _ _ _, rfl, hb, hd⟩
set_option maxRecDepth 100000 in
set_option maxHeartbeats 8000000 in
theorem sobject_any (g : Nat) (s : Bs) (o N m : Nat) (t : Bs) (w : World) (hs : s.length ≤ 1000000) (hV : VdAll g s N) (hl : t.length ≤ N) (hm : m ≤ 500) (ho : o + 1 ≤ 16) (h : DS w g s (123 :: t) m 0) :
    Calls Tryz.prog 54 #[.pointer (some ⟨g, 0, none⟩), .int .i64 (o : Int)] w (VdE g s (objR o m t) w) := by
  have hgl := h.lt
  have HV := Lib.hid hV
  have HN1 : Hid (∀ W, DS W g s (123 :: t) m 0 → Calls Tryz.prog 77 #[.pointer (some ⟨g, 0, none⟩), .int .u8 123] W (DEnds g s W (.tuple #[]) t m 0)) := Lib.hid (fun W hd => by
    have h1 := sneed_ok g s (123 :: t) m 123 W hs hd
    have h2 : needD 123 (123 :: t) = (t, 0) := by unfold needD; rw [is_head (by decide)]; rfl
    rw [h2] at h1
    exact h1)
  have HI1 : Hid (∀ W l m, DS W g s l m 0 → Calls Tryz.prog 78 #[.pointer (some ⟨g, 0, none⟩), .int .u8 125] W (DEnds g s W (.bool (isD 125 l).1) (isD 125 l).2 m 0)) := Lib.hid (fun W l m hd => sis_ok g s l m 125 W hs hd)
  have HC : Hid (∀ W l m, DS W g s l m 0 → Calls Tryz.prog 78 #[.pointer (some ⟨g, 0, none⟩), .int .u8 44] W (DEnds g s W (.bool (isD 44 l).1) (isD 44 l).2 m 0)) := Lib.hid (fun W l m hd => sis_ok g s l m 44 W hs hd)
  have HCe : Hid (∀ W l m e, e ≠ 0 → DS W g s l m e → Calls Tryz.prog 78 #[.pointer (some ⟨g, 0, none⟩), .int .u8 44] W (DEnds g s W (.bool false) l m e)) := Lib.hid (fun W l m e he hd => sis_er g s l m e he 44 W hd)
  have HN : Hid (∀ W l m, DS W g s l m 0 → Calls Tryz.prog 77 #[.pointer (some ⟨g, 0, none⟩), .int .u8 125] W (DEnds g s W (.tuple #[]) (needD 125 l).1 m (needD 125 l).2)) := Lib.hid (fun W l m hd => sneed_ok g s l m 125 W hs hd)
  have HNe : Hid (∀ W l m e, e ≠ 0 → DS W g s l m e → Calls Tryz.prog 77 #[.pointer (some ⟨g, 0, none⟩), .int .u8 125] W (DEnds g s W (.tuple #[]) l m e)) := Lib.hid (fun W l m e he hd => sneed_er g s l m e he 125 W hd)
  have HSk := Lib.hid (fun W l m (hd : DS W g s l m 0) => sskip_ok g s l m W hs hd)
  have HT := Lib.hid (fun W l m (hd : DS W g s l m 0) => stext_ok g s l m W hs hd)
  have HF : Hid (∀ W l m, DS W g s l m 0 → Calls Tryz.prog 33 #[.pointer (some ⟨g, 0, none⟩), .int .i64 31] W (DEnds g s W (.tuple #[]) l m 31)) := Lib.hid (fun W l m hd => by
    have := sfail_any g s l m 0 31 W hd
    rw [if_pos rfl] at this
    exact this)
  have HN5 := Lib.hid (fun W l m e (hd : DS W g s l m e) => sneedx g s l m e W hs hd)
  have HsL := Lib.hid hs
  obtain ⟨R0, hR0⟩ : ∃ R0, objR o m t = R0 := ⟨_, rfl⟩
  rw [hR0]
  rw [objR_is] at hR0
  have HR0 := Lib.hid hR0.symm
  obtain ⟨ba, hbx, hsz⟩ := one_new w #[.int .i64 0, .string ⟨#[]⟩, .slice none 0 0, .slice none 0 0] 25
  have HB := Lib.hid ba
  have HX := Lib.hid hbx
  have HD0 := Lib.hid (h.up ba)
  clear h ba hbx hR0 hV
  go_enter Tryz.func54, Tryz.ntmps54
  go_upto_region 1 with fail
  obtain ⟨gr, hgr⟩ : ∃ gr, w.heap.size = gr := ⟨_, rfl⟩
  rw [hgr] at HX ⊢
  generalize w.alloc (.cells #[.int .i64 0, .string ⟨#[]⟩, .slice none 0 0, .slice none 0 0] 25) = W1 at *
  go_upto_region 2 with fail
  obtain ⟨gv, hgv⟩ : ∃ gv, gr + 1 = gv := ⟨_, rfl⟩
  rw [hgv]
  obtain ⟨W2, hW2⟩ : ∃ W2, W2 = W1.alloc (.cells #[.int .i64 7, .string ⟨#[]⟩, .slice none 0 0, .slice none 0 0] 25) := ⟨_, rfl⟩
  have HL2 := Lib.hid (ld_new (g := g) (gr := gr) (gv := gv) HB.out HX.out hgr.symm (by omega) (by omega) hgl hW2)
  have hD2 : DS W2 g s (123 :: t) m 0 := by
    rw [hW2]
    exact HD0.out.up (ba1 W1 _)
  have HD2 := Lib.hid hD2
  rw [← hW2]
  clear hD2 hW2 HB HX HD0 hsz hgr hgv
  go_wp2_with fail
  refine (HN1.out _ HD2.out).mono ?_
  rintro E w3 ⟨rfl, hb3, hd3⟩
  have HL3 := Lib.hid (HL2.out.call hb3 HD2.out.bx)
  have HI3 := Lib.hid (HI1.out w3 t m hd3)
  have HD3 := Lib.hid hd3
  have hisl := is_le 125 t
  clear hb3 hd3 HL2 HD2 HN1 HI1
  obtain ⟨⟨b3, l3⟩, hi3⟩ : ∃ q, isD 125 t = q := ⟨_, rfl⟩
  have hR1 := HR0.out
  rw [hi3] at hR1 HI3 hisl
  simp only at hR1 HI3 hisl
  clear hi3 HR0
  cases b3 with
  | true =>
    rw [if_pos rfl] at hR1
    have HRd : Hid (ResD R0 (.mk 7 [] [] []) m l3 0) := Lib.hid (by rw [hR1]; exact ⟨rfl, rfl, rfl, rfl⟩)
    clear hR1
    go_wp2_with fail
    refine HI3.out.mono ?_
    rintro E w4 ⟨rfl, hb4, hd4⟩
    have HL4 := Lib.hid (HL3.out.call hb4 HD3.out.bx)
    have HD4 := Lib.hid hd4
    clear hb4 hd4 HL3 HD3 HI3
    obtain ⟨c0, c1, c2, c3⟩ := box4 HL4.out.bx
    obtain ⟨d0, d1, d2, d3⟩ := box4 HL4.out.res
    have f0 := HL4.out.res.f 0
    have f1 := HL4.out.res.f 1
    have f2 := HL4.out.res.f 2
    have f3 := HL4.out.res.f 3
    obtain ⟨hj, hb, hr, hbx⟩ := HL4.out.ends HD4.out (.int .i64 7) (.string ⟨#[]⟩) (.slice none 0 0) (.slice none 0 0)
    have HJe := Lib.hid hj
    have HBe := Lib.hid hb
    have HDe := Lib.hid hr
    obtain ⟨q0, q1, q2, q3⟩ := box4 hbx
    clear hj hb hr hbx HL4 HD4
    go_wp2
    refine bodyPost_ret (v := .agg #[.int .i64 7, .string ⟨#[]⟩, .slice none 0 0, .slice none 0 0]) (by simp [results, Tryz.results54, go_sem, q0, q1, q2, q3]) rfl ?_
    exact ⟨.mk 7 [] [] [], ⟨none, 0, 0⟩, ⟨none, 0, 0⟩, m, _, _, HRd.out, by omega, HJe.out, rfl, HBe.out, HDe.out⟩
  | false =>
    rw [if_neg (by decide)] at hR1
    have HQ0 := Lib.hid hR1
    clear hR1
    go_wp2_with fail
    refine HI3.out.mono ?_
    rintro E w4 ⟨rfl, hb4, hd4⟩
    have HL4 := Lib.hid (HL3.out.call hb4 HD3.out.bx)
    have HD4 := Lib.hid hd4
    have hl3 : l3.length ≤ N := by omega
    clear hb4 hd4 HL3 HD3 HI3
    go_wp2_with fail
    go_loopg [15] (t.length + 1) (fun k _ wr => ∃ (l1 : Bs) (m1 : Nat) (K : Sli) (ks : List Bs) (S : Sli) (vs : List Jv) (cs : List Value), l1.length < k ∧ l1.length ≤ N ∧ m1 ≤ 500 ∧ vs.length ≤ m1 ∧ ks.length ≤ m1 ∧ Hid (LD w wr g gr gv 7 K ks S vs cs) ∧ Hid (DS wr g s l1 m1 0) ∧ Hid (R0 = runU (.mems o ks vs) m1 l1))
    case atStart => exact ⟨l3, m, ⟨none, 0, 0⟩, [], ⟨none, 0, 0⟩, [], [], by omega, hl3, hm, Nat.zero_le _, Nat.zero_le _, HL4, HD4, HQ0⟩
    case round =>
      obtain ⟨l1, m1, K, ks, S, vs, cs, hlk, hl1, hm1, hct, hck, HLr, HDr, HRr⟩ := hrel
      clear HL4 HD4 HQ0 hl3 hisl
      obtain ⟨SA, Sn, Sc⟩ := S
      obtain ⟨KA, Kn, Kc⟩ := K
      have hKn : ks.length = Kn := HLr.out.kn
      obtain ⟨c0, c1, c2, c3⟩ := HDr.out.cells
      have hsk := skip_skip l1
      obtain ⟨l0, hl0⟩ : ∃ q, skipB l1 = q := ⟨_, rfl⟩
      obtain ⟨T, hT⟩ : ∃ q, textR l0 = q := ⟨_, rfl⟩
      have hskd := HSk.out wr l1 m1 HDr.out
      rw [hl0] at hsk hskd
      have HS4 := Lib.hid hskd
      have HT4 : Hid (∀ W, DS W g s l0 m1 0 → Calls Tryz.prog 52 #[.pointer (some ⟨g, 0, none⟩)] W (TxD g s m1 T W)) := Lib.hid (fun W hd => by
        have := HT.out W l0 m1 hd
        rw [hsk, hT] at this
        exact this)
      have HTl : Hid (T = textR (skipB l1) ∧ l0 = skipB l1) := Lib.hid ⟨by rw [hl0, hT], hl0.symm⟩
      clear hsk hskd hl0 hT
      go_upto_region 6 with fail
      clear c0 c1 c2 c3
      go_wp2_with fail
      refine HS4.out.mono ?_
      rintro E w4 ⟨rfl, hb4, hd4⟩
      have HL4 := Lib.hid (HLr.out.call hb4 HDr.out.bx)
      have HD4 := Lib.hid hd4
      have HT5 := Lib.hid (HT4.out w4 hd4)
      obtain ⟨c0, c1, c2, c3⟩ := hd4.cells
      obtain ⟨at0, hat⟩ : ∃ q, s.length - l0.length = q := ⟨_, rfl⟩
      rw [hat] at c1
      have HAt : Hid (s.drop at0 = l0 ∧ at0 ≤ s.length) := Lib.hid ⟨by rw [← hat]; exact hd4.suf, by omega⟩
      clear hb4 hd4 HLr HDr HS4 hat HT4
      go_wp2_with fail
      refine HT5.out.mono ?_
      rintro E w5 ⟨x, l2, e2, hxl, hres, rfl, hb5, hd5⟩
      have HL5 := Lib.hid (HL4.out.call hb5 HD4.out.bx)
      have HD5 := Lib.hid hd5
      have HRx := Lib.hid hres
      clear hb5 hd5 hres HL4 HD4 HT5 c0 c1 c2 c3
      go_upto_block 2 with fail
      go_cut [8] from 28 to 54 (fun _ W => ∃ (l3 : Bs) (e3 : Int), LD w W g gr gv 7 ⟨KA, Kn, Kc⟩ ks ⟨SA, Sn, Sc⟩ vs cs ∧ DS W g s l3 m1 e3 ∧ KeyD ks T l0 x l3 e3)
      case first =>
        go_wp2_with fail
        go_loopw [8] (fun i wr => ∃ (j : Nat) (l' : Bs) (e' : Int), j ≤ Kn ∧ i = .int .i64 (j : Int) ∧ Hid (LD w wr g gr gv 7 ⟨KA, Kn, Kc⟩ ks ⟨SA, Sn, Sc⟩ vs cs) ∧ Hid (DS wr g s l' m1 e') ∧ Hid (KInv ks T l0 x l2 e2 j l' e')) (fun i _ => Kn - (intOf i).toNat)
        case atStart => exact ⟨0, l2, e2, Nat.zero_le _, rfl, HL5, HD5, Lib.hid (kinv_start HRx.out)⟩
        case round =>
          obtain ⟨j, l', e', hj, rfl, HLq, HDq, HKq⟩ := hrel
          obtain ⟨b0, b1, b2, b3⟩ := box4 HLq.out.bx
          obtain ⟨c0, c1, c2, c3⟩ := HDq.out.cells
          by_cases hjn : j < Kn
          case neg =>
            obtain rfl : j = Kn := by omega
            have hlt : ¬ (j : Int) < (j : Int) := by omega
            have HK3 := Lib.hid (kinv_end HRx.out (hKn ▸ HKq.out))
            clear hjn HKq HL5 HD5
            go_wp2_with fail
            go_meet
            exact ⟨l', e', HLq.out, HDq.out, HK3.out⟩
          case pos =>
            have hji : (j : Int) < (Kn : Int) := by omega
            by_cases he : e' = 0
            case neg =>
              have hee : (e' == 0) = false := beq_eq_false_iff_ne.2 he
              have hed : decide (e' = 0) = false := decide_eq_false he
              have HK3 := Lib.hid (kinv_err HKq.out he)
              clear HKq HL5 HD5 he
              go_wp2_with fail
              go_meet
              exact ⟨l', e', HLq.out, HDq.out, HK3.out⟩
            case pos =>
              subst he
              have hj0 : (0 : Int) ≤ (j : Int) := by omega
              obtain ⟨k, hk⟩ : ∃ k, ks[j]? = some k := ⟨_, List.getElem?_eq_getElem (by omega)⟩
              obtain ⟨b, off, hA, kc⟩ := HLq.out.keyat hk
              simp only at hA
              subst hA
              have heq : ((tb k).toList == (tb x).toList) = decide (k = x) := by rw [← beq_toListBytes, tb_beq]
              have heq2 : (tb k == tb x) = decide (k = x) := tb_beq k x
              have Hk := Lib.hid hk
              by_cases hkx : k = x
              case neg =>
                rw [decide_eq_false hkx] at heq heq2
                have HK3 := Lib.hid (kinv_miss HKq.out Hk.out hkx)
                clear HKq HL5 HD5 hk hkx
                go_wp2_with fail
                go_roundw
                case rel => exact ⟨j + 1, l', 0, by omega, by go_num, HLq, HDq, HK3⟩
                case measure => simp [intOf]; omega
              case pos =>
                rw [decide_eq_true hkx] at heq heq2
                have HK3 := Lib.hid (kinv_hit (j' := j + 1) HRx.out HKq.out (by rw [Hk.out, hkx]))
                have f1 := HDq.out.bx.f 1
                have HD6 := Lib.hid (HDq.out.setp HAt.out.1 HAt.out.2)
                have HL6 := Lib.hid (HLq.out.call (but_cell wr g 1 (.int .i64 (at0 : Int))) HDq.out.bx)
                clear HKq HL5 HD5 hk hkx
                go_upto_region 14 with fail
                clear b0 b1 b2 b3 c0 c1 c2 c3 f1 HLq HDq kc
                generalize wr.setCell ⟨g, 1, none⟩ (.int .i64 (at0 : Int)) = W6 at *
                have HF6 := Lib.hid (HF.out W6 l0 m1 HD6.out)
                go_wp2_with fail
                refine HF6.out.mono ?_
                rintro E w7 ⟨rfl, hb7, hd7⟩
                have HL7 := Lib.hid (HL6.out.call hb7 HD6.out.bx)
                have HD7 := Lib.hid hd7
                clear hb7 hd7 HL6 HD6 HF6
                go_wp2_with fail
                go_roundw
                case rel => exact ⟨j + 1, l0, 31, by omega, by go_num, HL7, HD7, HK3⟩
                case measure => simp [intOf]; omega
      case rest =>
        obtain ⟨l3, e3, hL, hD, hK⟩ := hcut
        have HL6 := Lib.hid hL
        have HD6 := Lib.hid hD
        obtain ⟨⟨l5, e5⟩, hne⟩ : ∃ q, needX e3 l3 = q := ⟨_, rfl⟩
        have hNx := HN5.out wc l3 m1 e3 hD
        rw [hne] at hNx
        have HNx := Lib.hid hNx
        rw [HTl.out.1, HTl.out.2] at hK
        obtain ⟨I, hI1, hI2⟩ := mems_next HRr.out hK hne
        have HSt := Lib.hid hI2
        obtain ⟨o1, ho1⟩ : ∃ o1, o + 1 = o1 := ⟨_, rfl⟩
        have hwo : IntKind.i64.wrap ((o : Int) + 1) = (o1 : Int) := by rw [IntWalk.i64_in _ (by omega)]; omega
        have HVc : Hid (∀ W', DS W' g s l5 m1 e5 → Calls Tryz.prog 31 #[.pointer (some ⟨g, 0, none⟩), .int .i64 (o1 : Int)] W' (VdE g s I W')) := Lib.hid (fun W' q => by
          have := svalue_any g s N (o + 1) m1 l5 e5 I W' HV.out ho hm1 q (by
            rcases hI1 with ⟨a, b, c⟩ | h
            · exact .inl ⟨a, by omega, c⟩
            · exact .inr h)
          rw [ho1] at this
          exact this)
        have HLn : Hid (∀ v m' l', I = .ok (v, m', l') → l'.length < l1.length ∧ m1 + 1 ≤ m' ∧ m' ≤ 500) := Lib.hid (fun v m' l' q => by
          rcases hI1 with ⟨a, b, c⟩ | ⟨_, c⟩
          · rw [c] at q
            have h1 := runU_len q
            exact ⟨by omega, runU_more q⟩
          · rw [c] at q
            cases q)
        have hSn : Sn ≤ 500 := by
          have e1 := HL6.out.vrow.1
          have e2 := HL6.out.jl.len
          simp only at e1
          omega
        clear hL hD hK hne hNx hI1 hI2 HRr HRx HTl HAt HL5 HD5 ho1 HT HSk HF HN5
        go_wp2_with fail
        refine HNx.out.mono ?_
        rintro E w7 ⟨rfl, hb7, hd7⟩
        have hL7 := HL6.out.call hb7 HD6.out.bx
        have hbA := ba1 w7 (.cells #[.string (tb x)] 9)
        have k2 : (w7.alloc (.cells #[.string (tb x)] 9)).cell? ⟨gv, 2, none⟩ = some (.slice KA Kn Kc) := (hL7.up hbA).bx.c 2 rfl
        have k0 : w7.cell? ⟨gv, 2, none⟩ = some (.slice KA Kn Kc) := hL7.bx.c 2 rfl
        have HL8 := Lib.hid (hL7.up hbA)
        have HD8 := Lib.hid (hd7.up hbA)
        have HSrc := Lib.hid (src_one w7 9 [.string (tb x)] 1 1 rfl)
        have hBw : gv + 1 ≤ (w7.alloc (.cells #[.string (tb x)] 9)).heap.size := HL8.out.bx.lt
        obtain ⟨iT, hi, hz0, hz1, hz2⟩ := info_parts infoT
        clear hb7 hd7 hL7 hbA HL6 HD6 HNx
        go_wp2_with (at_builtin; refine wpList_app _ rfl _ _ 22 rfl (gv + 1) 9 iT _ 1 16 (by decide) Tryz.underlying22 hi hz0 hz1 hz2 rfl (.slice KA Kn Kc) Kn (svs (ks.map tb)) rfl HL8.out.krow (some ⟨w7.heap.size, 0, none⟩) 1 1 [.string (tb x)] rfl HSrc.out (by simp [Value.oneCell']) ?_ ?_ hBw (Kn + 1) rfl ?_; (unfold maxLen; omega); omega; intro A2 cK w8 h1 h2 h3; refine Hid.out ?_)
        obtain ⟨h9, hd9, k9, f9⟩ := HL8.out.key HD8.out (ks' := ks ++ [x]) (by simpa [svs] using h1) h2 h3
        have HL9 := Lib.hid h9
        have HD9 := Lib.hid hd9
        clear h1 h2 h3 h9 hd9 HSrc hBw HL8 HD8 k2 k0 hi hz0 hz1 hz2
        refine Lib.hid ?_
        go_upto_region 17 with fail
        clear k9 f9
        generalize w8.setCell ⟨gv, 2, none⟩ (.slice A2 (Kn + 1) cK) = wv at *
        have HLd := Lib.hid (HL9.out.up (Below.refl _ _).drew)
        have HDd := Lib.hid (HD9.out.up (Below.refl _ _).drew)
        have k1 : wv.cell? ⟨gv, 3, none⟩ = some (.slice SA Sn Sc) := HL9.out.bx.c 3 rfl
        obtain ⟨iV, hi, hz0, hz1, hz2⟩ := info_parts infoV
        go_region_law (first
          | (go_simp; go_at_call 31; refine (HVc.out wv.drew HDd.out).mono ?_; rintro E w5 ⟨v, K3, S3, m2, l2, e2, hres, hm2, hjv, rfl, hb5, hd5⟩; have h5 := HLd.out.call hb5 HDd.out.bx; have hap := HLd.out.apart hjv; have hbA := ba1 w5 (.cells #[.int .i64 v.k, .string (tb v.t), .slice K3.A K3.n K3.c, .slice S3.A S3.n S3.c] 25); have h6 := h5.up hbA; have hap6 := hap.up hbA; have hd6 := hd5.up hbA; have k5 : w5.cell? ⟨gv, 3, none⟩ = some (.slice SA Sn Sc) := h5.bx.c 3 rfl; have k6 : (w5.alloc (.cells #[.int .i64 v.k, .string (tb v.t), .slice K3.A K3.n K3.c, .slice S3.A S3.n S3.c] 25)).cell? ⟨gv, 3, none⟩ = some (.slice SA Sn Sc) := h6.bx.c 3 rfl; have hgs : gv + 1 ≤ (w5.alloc (.cells #[.int .i64 v.k, .string (tb v.t), .slice K3.A K3.n K3.c, .slice S3.A S3.n S3.c] 25)).heap.size := h6.bx.lt; have HSrc := Lib.hid (src_one w5 25 [.int .i64 v.k, .string (tb v.t), .slice K3.A K3.n K3.c, .slice S3.A S3.n S3.c] 1 4 rfl); have HOn : Hid (∀ u ∈ [Value.int .i64 v.k, .string (tb v.t), .slice K3.A K3.n K3.c, .slice S3.A S3.n S3.c], u.oneCell' = true) := Lib.hid (by intro u hu; simp only [List.mem_cons, List.not_mem_nil, or_false] at hu; rcases hu with rfl | rfl | rfl | rfl <;> rfl))
          | (refine step_app _ (by rfl) _ _ 23 (by rfl) (gv + 1) 25 iV _ 4 72 (by decide) Tryz.underlying23 hi hz0 hz1 hz2 rfl (.slice SA Sn Sc) Sn cs (by rfl) h6.vrow (some ⟨w5.heap.size, 0, none⟩) 1 1 [.int .i64 v.k, .string (tb v.t), .slice K3.A K3.n K3.c, .slice S3.A S3.n S3.c] (by rfl) HSrc.out HOn.out ?_ ?_ hgs (Sn + 1) rfl ?_; (unfold maxLen; omega); omega; intro A' c' w7 q1 q2 q3; obtain ⟨h8, hd8, k8, f8⟩ := h6.kid hd6 hap6 q1 q2 q3)
          | fail)
        all_goals
          have HL8 := Lib.hid h8
          have HD8 := Lib.hid hd8
          have HRes := Lib.hid hres
          clear h8 hd8 hres q1 q2 q3 h5 h6 hap hap6 hbA k5 k6 hb5 hd5 hd6 hjv HLd HDd HL9 HD9 k1 k8 f8 HSrc HOn hgs
          generalize w7.setCell ⟨gv, 3, none⟩ (.slice A' (Sn + 1) c') = W8 at *
          by_cases he : e2 = 0
          · subst he
            have hIo : I = .ok (v, m2, l2) := by
              have h1 := HRes.out
              unfold ResD at h1
              split at h1
              · exact absurd rfl h1.2.2
              · obtain ⟨rfl, rfl, rfl, _⟩ := h1
                rfl
            have hSt := HSt.out
            rw [hIo] at hSt
            simp only at hSt
            obtain ⟨hln1, hln2, hln3⟩ := HLn.out v m2 l2 hIo
            have hisl := is_le 44 l2
            have HC8 := Lib.hid (HC.out W8 l2 m2 HD8.out)
            clear hIo HRes HSt HLn HC
            obtain ⟨⟨b4, l4⟩, hi4⟩ : ∃ q, isD 44 l2 = q := ⟨_, rfl⟩
            rw [hi4] at hSt HC8 hisl
            simp only at hSt HC8 hisl
            have HM2 := Lib.hid hln3
            cases b4 with
            | true =>
              rw [if_pos rfl] at hSt
              have HQ := Lib.hid hSt
              clear hSt hi4
              go_wp2_with fail
              refine HC8.out.mono ?_
              rintro E w9 ⟨rfl, hb9, hd9⟩
              have HL9 := Lib.hid (HL8.out.call hb9 HD8.out.bx)
              have HD9 := Lib.hid hd9
              clear hb9 hd9 HL8 HD8 HC8
              go_wp2_with fail
              go_roundg (gk - 1)
              case measure => omega
              case rel => exact ⟨l4, m2, ⟨A2, Kn + 1, cK⟩, ks ++ [x], ⟨A', Sn + 1, c'⟩, vs ++ [v], _, by omega, by omega, hln3, by rw [List.length_append]; simp only [List.length_cons, List.length_nil]; omega, by rw [List.length_append]; simp only [List.length_cons, List.length_nil]; omega, HL9, HD9, HQ⟩
            | false =>
              rw [if_neg (by decide)] at hSt
              have HQ := Lib.hid hSt
              clear hSt hi4
              go_wp2_with fail
              refine HC8.out.mono ?_
              rintro E w9 ⟨rfl, hb9, hd9⟩
              have HL9 := Lib.hid (HL8.out.call hb9 HD8.out.bx)
              have HN9 := Lib.hid (HN.out w9 l4 m2 hd9)
              have HD9 := Lib.hid hd9
              clear hb9 hd9 HL8 HD8 HC8
              go_wp2_with fail
              refine HN9.out.mono ?_
              rintro E w10 ⟨rfl, hb10, hd10⟩
              have HL10 := Lib.hid (HL9.out.call hb10 HD9.out.bx)
              have hRd : ResD R0 (.mk 7 [] (ks ++ [x]) (vs ++ [v])) m2 (needD 125 l4).1 (needD 125 l4).2 := by
                rw [HQ.out]
                unfold needD
                cases hq : (isD 125 l4).1 with
                | true => exact ⟨rfl, rfl, rfl, rfl⟩
                | false => exact ⟨rfl, rfl, by simp⟩
              have HRd := Lib.hid hRd
              have HD10 := Lib.hid hd10
              clear hb10 hd10 HL9 HD9 HN9 hRd HQ
              obtain ⟨c0, c1, c2, c3⟩ := box4 HL10.out.bx
              obtain ⟨d0, d1, d2, d3⟩ := box4 HL10.out.res
              have f0 := HL10.out.res.f 0
              have f1 := HL10.out.res.f 1
              have f2 := HL10.out.res.f 2
              have f3 := HL10.out.res.f 3
              obtain ⟨hj, hb, hr, hbx⟩ := HL10.out.ends HD10.out (.int .i64 7) (.string ⟨#[]⟩) (.slice A2 (Kn + 1) cK) (.slice A' (Sn + 1) c')
              have HJe := Lib.hid hj
              have HBe := Lib.hid hb
              have HDe := Lib.hid hr
              obtain ⟨q0, q1, q2, q3⟩ := box4 hbx
              clear hj hb hr hbx HL10 HD10
              go_wp2
              refine bodyPost_ret (v := .agg #[.int .i64 7, .string ⟨#[]⟩, .slice A2 (Kn + 1) cK, .slice A' (Sn + 1) c']) (by simp [results, Tryz.results54, go_sem, q0, q1, q2, q3]) rfl ?_
              exact ⟨.mk 7 [] (ks ++ [x]) (vs ++ [v]), ⟨A2, (Kn + 1), cK⟩, ⟨A', (Sn + 1), c'⟩, m2, _, _, HRd.out, by have := HM2.out; omega, HJe.out, rfl, HBe.out, HDe.out⟩
          · have hIe : I = .error (e2, l2) := by
              have h1 := HRes.out
              unfold ResD at h1
              split at h1
              · obtain ⟨rfl, rfl, _⟩ := h1
                rfl
              · exact absurd h1.2.2.2 he
            have hSt := HSt.out
            rw [hIe] at hSt
            have hRd : ResD R0 (.mk 7 [] (ks ++ [x]) (vs ++ [v])) m2 l2 e2 := by rw [hSt]; exact ⟨rfl, rfl, he⟩
            have HRd := Lib.hid hRd
            have HC8 := Lib.hid (HCe.out W8 l2 m2 e2 he HD8.out)
            have HE := Lib.hid he
            clear hIe hSt HRes HSt HLn HC hRd he
            go_wp2_with fail
            refine HC8.out.mono ?_
            rintro E w9 ⟨rfl, hb9, hd9⟩
            have HL9 := Lib.hid (HL8.out.call hb9 HD8.out.bx)
            have HN9 := Lib.hid (HNe.out w9 l2 m2 e2 HE.out hd9)
            have HD9 := Lib.hid hd9
            clear hb9 hd9 HL8 HD8 HC8
            go_wp2_with fail
            refine HN9.out.mono ?_
            rintro E w10 ⟨rfl, hb10, hd10⟩
            have HL10 := Lib.hid (HL9.out.call hb10 HD9.out.bx)
            have HD10 := Lib.hid hd10
            clear hb10 hd10 HL9 HD9 HN9
            obtain ⟨c0, c1, c2, c3⟩ := box4 HL10.out.bx
            obtain ⟨d0, d1, d2, d3⟩ := box4 HL10.out.res
            have f0 := HL10.out.res.f 0
            have f1 := HL10.out.res.f 1
            have f2 := HL10.out.res.f 2
            have f3 := HL10.out.res.f 3
            obtain ⟨hj, hb, hr, hbx⟩ := HL10.out.ends HD10.out (.int .i64 7) (.string ⟨#[]⟩) (.slice A2 (Kn + 1) cK) (.slice A' (Sn + 1) c')
            have HJe := Lib.hid hj
            have HBe := Lib.hid hb
            have HDe := Lib.hid hr
            obtain ⟨q0, q1, q2, q3⟩ := box4 hbx
            clear hj hb hr hbx HL10 HD10
            go_wp2
            refine bodyPost_ret (v := .agg #[.int .i64 7, .string ⟨#[]⟩, .slice A2 (Kn + 1) cK, .slice A' (Sn + 1) c']) (by simp [results, Tryz.results54, go_sem, q0, q1, q2, q3]) rfl ?_
            exact ⟨.mk 7 [] (ks ++ [x]) (vs ++ [v]), ⟨A2, (Kn + 1), cK⟩, ⟨A', (Sn + 1), c'⟩, m2, _, _, HRd.out, hm2, HJe.out, rfl, HBe.out, HDe.out⟩
end Go.Proofs.YtnkhghjcfhpeiaaGreatDoor
