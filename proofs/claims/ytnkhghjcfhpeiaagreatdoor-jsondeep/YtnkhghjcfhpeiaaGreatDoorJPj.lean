/-
  The program's list and object, walked over what value does.
-/
import Derived.Test.YtnkhghjcfhpeiaaGreatDoorPi
import Derived.Test.YtnkhghjcfhpeiaaGreatDoorJQo
namespace Go.Proofs.YtnkhghjcfhpeiaaGreatDoor
open Go.RowKit
theorem runU_more {w m : Nat} {l : Bs} {v : Jv} {m' : Nat} {l' : Bs} (h : runU (.val w) m l = .ok (v, m', l')) : m + 1 ≤ m' ∧ m' ≤ 500 := by
  have h1 := run_ok _ _ _ _ _ _ _ h
  obtain ⟨_, h2, h3, _⟩ := h1
  refine ⟨?_, h3⟩
  cases v
  rw [nodesJ] at h2
  omega
theorem two_new (w : World) (a b : Array Value) (ta tb : TypeId) : Below w.heap.size w ((w.alloc (.cells a ta)).alloc (.cells b tb)) ∧ Box ((w.alloc (.cells a ta)).alloc (.cells b tb)) w.heap.size ta a ∧ Box ((w.alloc (.cells a ta)).alloc (.cells b tb)) (w.heap.size + 1) tb b ∧ ((w.alloc (.cells a ta)).alloc (.cells b tb)).heap.size = w.heap.size + 2 := by
  have h1 := ba1 w (.cells a ta)
  have h2 := ba1 (w.alloc (.cells a ta)) (.cells b tb)
  have hs : (w.alloc (.cells a ta)).heap.size = w.heap.size + 1 := by simp
  refine ⟨h1.trans (h2.mono (by omega)), (Box.new w ta a).up h2, ?_, by simp⟩
  rw [← hs]
  exact Box.new _ tb b
/-- the empty list or object, as it is laid -/
theorem ml_new {w W W2 : World} {g h gb gr gv : Nat} {kd : Int} (hb : Below w.heap.size w W) (h1 : Box W gb 50 #[.pointer (some ⟨g, 0, none⟩)]) (h2 : Box W gr 25 zlit) (hgb : gb = w.heap.size) (hgr : gr = w.heap.size + 1) (hgv : gv = W.heap.size) (hsz : W.heap.size = w.heap.size + 2) (hg : g < w.heap.size) (hh : h < w.heap.size)
    (hW : W2 = W.alloc (.cells #[.int .i64 kd, .string ⟨#[]⟩, .slice none 0 0, .slice none 0 0] 25)) :
    ML w W2 g h gb gr gv kd ⟨none, 0, 0⟩ [] ⟨none, 0, 0⟩ [] [] := by
  have hn := Box.new W 25 #[.int .i64 kd, .string ⟨#[]⟩, .slice none 0 0, .slice none 0 0]
  rw [← hgv] at hn
  have ba := ba1 W (.cells #[.int .i64 kd, .string ⟨#[]⟩, .slice none 0 0, .slice none 0 0] 25)
  subst hW
  exact ⟨But.of (hb.trans (ba.mono (by omega))), h1.up ba, h2.up ba, hn, World.ownsRow_nil _ _ _ _, World.ownsRow_nil _ _ _ _, by rw [JL], by omega, by omega, by omega, hg, hh⟩
/-- the list or object is handed back -/
theorem ML.jv {w W : World} {g h gb gr gv : Nat} {kd : Int} {K S : Sli} {ks : List Bs} {vs : List Jv} {cs : List Value} (h1 : ML w W g h gb gr gv kd K ks S vs cs) : JV W (fun b => gv + 1 ≤ b) (.mk kd [] ks vs) (jx (.mk kd [] ks vs) K S) := by
  rw [JV]
  have hk := h1.krow.1
  have hv := h1.vrow.1
  refine ⟨K, S, cs, rfl, row_slp h1.krow (by rw [hk]) (fun e => ?_), row_slp h1.vrow (by rw [hv]) (fun e => ?_), JL.to (Keeps.same (fun b hp _ => hp.1)) _ _ h1.jl⟩
  · rw [e, Nat.zero_mul] at hk
    exact List.eq_nil_of_length_eq_zero hk
  · rw [e, Nat.zero_mul] at hv
    exact List.eq_nil_of_length_eq_zero hv
theorem ML.ends {w W : World} {g h gb gr gv : Nat} {kd : Int} {K S : Sli} {ks : List Bs} {vs : List Jv} {cs : List Value} (h1 : ML w W g h gb gr gv kd K ks S vs cs) {s l : Bs} {m o : Nat} (r : RS W g h s l m o) (u0 u1 u2 u3 : Value) :
    JV ((((W.setCell ⟨gr, 0, none⟩ u0).setCell ⟨gr, 1, none⟩ u1).setCell ⟨gr, 2, none⟩ u2).setCell ⟨gr, 3, none⟩ u3) (fun b => w.heap.size ≤ b) (.mk kd [] ks vs) (jx (.mk kd [] ks vs) K S) ∧ But g w ((((W.setCell ⟨gr, 0, none⟩ u0).setCell ⟨gr, 1, none⟩ u1).setCell ⟨gr, 2, none⟩ u2).setCell ⟨gr, 3, none⟩ u3) ∧ RS ((((W.setCell ⟨gr, 0, none⟩ u0).setCell ⟨gr, 1, none⟩ u1).setCell ⟨gr, 2, none⟩ u2).setCell ⟨gr, 3, none⟩ u3) g h s l m o ∧ Box ((((W.setCell ⟨gr, 0, none⟩ u0).setCell ⟨gr, 1, none⟩ u1).setCell ⟨gr, 2, none⟩ u2).setCell ⟨gr, 3, none⟩ u3) gr 25 #[u0, u1, u2, u3] := by
  have e1 := h1.lo
  have e2 := h1.rv
  have e3 := h1.mr
  have e4 := h1.br
  have hP : ∀ b, gv + 1 ≤ b → b ≠ gr := fun b hp => by omega
  have j := JV.to (keep_set (i := 3) (u := u3) hP) _ _ (JV.to (keep_set (i := 2) (u := u2) hP) _ _ (JV.to (keep_set (i := 1) (u := u1) hP) _ _ (JV.to (keep_set (i := 0) (u := u0) hP) _ _ h1.jv)))
  exact ⟨JV.to (Keeps.same (fun b hp _ => by omega)) _ _ j, but_set4 h1.but (by omega) _ _ _ _, rs_far4 r (by omega) h1.res _ _ _ _, box_set4 h1.res _ _ _ _⟩
theorem need_head {c : UInt8} (hc : blankB c = false) (t : Bs) (m o : Nat) : needP [c] (c :: t) m o = .ok (.tuple #[], t, m, o) := by
  have hs : skipB (c :: t) = c :: t := by rw [skipB, hc]; rfl
  unfold needP
  rw [hs, cut_one, if_pos rfl]
  rfl
/-- what is read of a list, behind its mark -/
def listR (o m : Nat) (t : Bs) : Res := match skipB t with
  | [] => runU (.items o []) m []
  | d :: r => if d = 93 then .ok (.mk 6 [] [] [], m, r) else runU (.items o []) m (d :: r)
/-- what is read of an object, behind its mark -/
def objR (o m : Nat) (t : Bs) : Res := match skipB t with
  | [] => runU (.mems o [] []) m []
  | d :: r => if d = 125 then .ok (.mk 7 [] [] [], m, r) else runU (.mems o [] []) m (d :: r)
theorem listR_eq (o m : Nat) (t : Bs) : (if (cutP [93] (skipB t)).2 = true then .ok (.mk 6 [] [] [], m, (cutP [93] (skipB t)).1) else runU (.items o []) m (cutP [93] (skipB t)).1 : Res) = listR o m t := by
  unfold listR
  cases skipB t with
  | nil => rfl
  | cons d r =>
    rw [cut_one]
    by_cases h : d = 93
    · subst h; rfl
    · have h2 : ¬ (93 : UInt8) = d := fun e => h e.symm
      simp only [if_neg h2, if_neg h]
      rfl
theorem objR_eq (o m : Nat) (t : Bs) : (if (cutP [125] (skipB t)).2 = true then .ok (.mk 7 [] [] [], m, (cutP [125] (skipB t)).1) else runU (.mems o [] []) m (cutP [125] (skipB t)).1 : Res) = objR o m t := by
  unfold objR
  cases skipB t with
  | nil => rfl
  | cons d r =>
    rw [cut_one]
    by_cases h : d = 125
    · subst h; rfl
    · have h2 : ¬ (125 : UInt8) = d := fun e => h e.symm
      simp only [if_neg h2, if_neg h]
      rfl
/-- one value more -/
def stpL (o : Nat) (a : List Jv) (m : Nat) (l : Bs) : Except (Int × Bs) (List Jv × Nat × Bs) := match runU (.val (o + 1)) m l with
  | .error e => .error e
  | .ok (v, m', l') => .ok (a ++ [v], m', l')
theorem stpL_run (o : Nat) (a : List Jv) (m : Nat) (l : Bs) : runU (.items o a) m l = match stpL o a m l with | .error e => .error e | .ok (a', m', l') => (match skipB l' with | [] => .error (31, []) | c :: r => if c = 44 then runU (.items o a') m' r else if c = 93 then .ok (.mk 6 [] [] a', m', r) else .error (31, c :: r)) := by
  rw [runU_step]
  unfold stepJ stpL
  simp only
  cases runU (.val (o + 1)) m l with
  | error e => rfl
  | ok q => rfl
theorem stpL_len (o : Nat) (a : List Jv) (m : Nat) (l : Bs) (a' : List Jv) (m' : Nat) (l' : Bs) (_ : m ≤ 500) (h : stpL o a m l = .ok (a', m', l')) : l'.length < l.length ∧ m' ≤ 500 ∧ (a.length ≤ m → a'.length ≤ m') := by
  unfold stpL at h
  cases hr : runU (.val (o + 1)) m l with
  | error e => rw [hr] at h; cases h
  | ok q =>
    obtain ⟨v, m2, l2⟩ := q
    rw [hr] at h
    simp only [Except.ok.injEq, Prod.mk.injEq] at h
    obtain ⟨rfl, rfl, rfl⟩ := h
    have h1 := runU_len hr
    have h2 := runU_more hr
    refine ⟨h1, h2.2, fun h3 => ?_⟩
    rw [List.length_append]
    simp only [List.length_cons, List.length_nil]
    omega
theorem stpO_run (o : Nat) (a : List Bs × List Jv) (m : Nat) (l : Bs) : runU (.mems o a.1 a.2) m l = match stpO o a m l with | .error e => .error e | .ok (a', m', l') => (match skipB l' with | [] => .error (31, []) | c :: r => if c = 44 then runU (.mems o a'.1 a'.2) m' r else if c = 125 then .ok (.mk 7 [] a'.1 a'.2, m', r) else .error (31, c :: r)) := by
  rw [runU_step]
  unfold stepJ stpO
  simp only
  cases textR (skipB l) with
  | error e => rfl
  | ok q =>
    obtain ⟨k, l2⟩ := q
    simp only
    by_cases hc : a.1.contains k = true
    · rw [if_pos hc, if_pos hc]
    · rw [if_neg hc, if_neg hc]
      cases skipB l2 with
      | nil => rfl
      | cons c l3 =>
        simp only
        by_cases h58 : c ≠ 58
        · rw [if_pos h58, if_pos h58]
        · rw [if_neg h58, if_neg h58]
          cases runU (.val (o + 1)) m l3 with
          | error e => rfl
          | ok q => rfl
theorem stpO_len (o : Nat) (a : List Bs × List Jv) (m : Nat) (l : Bs) (a' : List Bs × List Jv) (m' : Nat) (l' : Bs) (_ : m ≤ 500) (h : stpO o a m l = .ok (a', m', l')) : l'.length < l.length ∧ m' ≤ 500 ∧ (max a.1.length a.2.length ≤ m → max a'.1.length a'.2.length ≤ m') := by
  unfold stpO at h
  cases ht : textR (skipB l) with
  | error e => rw [ht] at h; cases h
  | ok q =>
    obtain ⟨k, l2⟩ := q
    rw [ht] at h
    simp only at h
    have hln := (text_len ht).1
    have hsk := skip_le l
    split at h
    · cases h
    · cases hs : skipB l2 with
      | nil => rw [hs] at h; cases h
      | cons c l3 =>
        have hk2 := skip_le l2
        rw [hs, List.length_cons] at hk2
        rw [hs] at h
        simp only at h
        split at h
        · cases h
        · cases hr : runU (.val (o + 1)) m l3 with
          | error e => rw [hr] at h; cases h
          | ok q =>
            obtain ⟨v, m2, l4⟩ := q
            rw [hr] at h
            simp only [Except.ok.injEq, Prod.mk.injEq] at h
            obtain ⟨rfl, rfl, rfl⟩ := h
            have h1 := runU_len hr
            have h2 := runU_more hr
            refine ⟨by omega, h2.2, fun h3 => ?_⟩
            simp only [List.length_append, List.length_cons, List.length_nil]
            omega
theorem clos_list : ∀ (args : Array Value) (w : World), (callFunc 64 args).run Tryz.prog w = .ok (.enter 64 args) w := enters_of Tryz.func64 (by kernel_rfl) rfl
set_option maxRecDepth 100000 in
set_option maxHeartbeats 4000000 in
theorem jlist_any (g h : Nat) (s : Bs) (o N : Nat) (hs : s.length ≤ 1000000) (hN : N ≤ 1000000) (ho : o ≤ 15) (hV : VAll g h s N) (m : Nat) (t : Bs) (w : World) (hl : t.length ≤ N) (hm : m ≤ 500) (r : RS w g h s (91 :: t) m o) (hc1 : t.length + 1 ≤ 1000000) (hh : h < w.heap.size) : Calls Tryz.prog 42 #[.pointer (some ⟨g, 0, none⟩)] w (VEnds g h s o w (listR o m t)) := by
  have hP := fun W (r : RS W g h s (91 :: t) m o) => pass_any g h s (91 :: t) [91] m o W hs hc1 r
  rw [need_head (by decide)] at hP
  have HP : Hid (∀ W, RS W g h s (91 :: t) m o → Calls Tryz.prog 60 #[.pointer (some ⟨g, 0, none⟩), .string ⟨#[91]⟩] W (RdEnds g h s W (.ok (.tuple #[], t, m, o)))) := Lib.hid hP
  have hgl := r.lt
  have hE : ∀ gb gr gv W, ML w W g h gb gr gv 6 ⟨none, 0, 0⟩ [] ⟨none, 0, 0⟩ [] [] → RS W g h s t m o → Calls Tryz.prog 63 #[.pointer (some ⟨g, 0, none⟩), .string ⟨#[93]⟩, .func (.func 64) #[] #[.pointer (some ⟨gv, 0, none⟩), .pointer (some ⟨gb, 0, none⟩)]] W (EachEnds (fun (a : List Jv) W => ∃ S cs, ML w W g h gb gr gv 6 ⟨none, 0, 0⟩ [] S a cs) (fun a => .mk 6 [] [] a) g h s o w (listR o m t)) := by
    intro gb gr gv W hM r
    have h1 := @each_any _ g h s o N 93 (by decide) 64 #[.pointer (some ⟨gv, 0, none⟩), .pointer (some ⟨gb, 0, none⟩)] clos_list (fun (a : List Jv) W => ∃ S cs, ML w W g h gb gr gv 6 ⟨none, 0, 0⟩ [] S a cs) w (fun (a : List Jv) m l => runU (.items o a) m l) (fun a => .mk 6 [] [] a) (stpL o) List.length (by intro a m l; refine (stpL_run o a m l).trans ?_; cases stpL o a m l with | error e => rfl | ok q => (obtain ⟨a', m', l'⟩ := q; simp only; cases skipB l' <;> rfl)) (stpL_len o)
      (by rintro a W W2 ps ⟨S, cs, q⟩ hb hx; exact ⟨S, cs, q.call hb hx⟩) (by rintro a W ⟨S, cs, q⟩; exact q.but) hs hN ho (by rintro a m l W k1 k2 k3 ⟨S, cs, q⟩ k4; exact listc_any w g h gb gr gv s o N hV a m l S cs W k1 k2 (by omega) k3 q k4) [] m t W hl hm (Nat.zero_le _) ⟨_, _, hM⟩ r
    rw [listR_eq] at h1
    exact h1
  have HE := Lib.hid hE
  clear hP hE hV
  have hmf : ∀ (fn : Fn) (first cap : Array Value) (w : World), (Instr.makeFunc fn first cap).run Tryz.prog w = .ok (.func fn first cap) w := fun _ _ _ _ => rfl
  obtain ⟨ba, hb1, hb2, hsz⟩ := two_new w #[.pointer (some ⟨g, 0, none⟩)] zlit 50 25
  have HB := Lib.hid ba
  have HB1 := Lib.hid hb1
  have HB2 := Lib.hid hb2
  have HR0 := Lib.hid (r.up ba)
  clear ba hb1 hb2 r
  obtain ⟨R0, hR0⟩ : ∃ R0, listR o m t = R0 := ⟨_, rfl⟩
  rw [hR0] at HE ⊢
  go_enter Tryz.func42, Tryz.ntmps42
  go_upto_region 1 with fail
  obtain ⟨gb, hgb⟩ : ∃ gb, w.heap.size = gb := ⟨_, rfl⟩
  rw [hgb] at HB1 HB2 ⊢
  obtain ⟨gr, hgr⟩ : ∃ gr, gb + 1 = gr := ⟨_, rfl⟩
  rw [hgr] at HB2 ⊢
  generalize (w.alloc (.cells #[.pointer (some ⟨g, 0, none⟩)] 50)).alloc (.cells zlit 25) = W1 at *
  go_upto_region 2 with fail
  obtain ⟨gv, hgv⟩ : ∃ gv, gb + 2 = gv := ⟨_, rfl⟩
  rw [hgv]
  obtain ⟨W2, hW2⟩ : ∃ W2, W2 = W1.alloc (.cells #[.int .i64 6, .string ⟨#[]⟩, .slice none 0 0, .slice none 0 0] 25) := ⟨_, rfl⟩
  have HM := Lib.hid (ml_new (g := g) (h := h) (gb := gb) (gr := gr) (gv := gv) HB.out HB1.out HB2.out hgb.symm (by omega) (by omega) (by omega) hgl hh hW2)
  have hR2 : RS W2 g h s (91 :: t) m o := by
    rw [hW2]
    exact HR0.out.up (ba1 W1 _)
  have HR2 := Lib.hid hR2
  rw [← hW2]
  clear hR2 hW2 HB HB1 HB2 HR0 hsz hR0
  have kb := HM.out.rb.c 0 rfl
  go_wp2_with fail
  refine (HP.out _ HR2.out).mono ?_
  rintro E w3 ⟨rfl, hb3, hr3⟩
  have hM3 := HM.out.call hb3 HR2.out.bx
  have HE3 := Lib.hid (HE.out gb gr gv w3 hM3 hr3)
  have kb3 := hM3.rb.c 0 rfl
  clear kb HM HR2 hM3 hr3 hb3 HE HP
  cases R0 with
  | error er =>
    obtain ⟨e, rr⟩ := er
    go_wp2_with fail
    refine HE3.out.mono ?_
    rintro E w4 ⟨rfl, hb⟩
    go_wp2
    exact ⟨rfl, rfl, hb⟩
  | ok q =>
    obtain ⟨v, m', l'⟩ := q
    go_wp2_with fail
    refine HE3.out.mono ?_
    rintro E w4 ⟨rfl, a, rfl, ⟨⟨SA, Sn, Sc⟩, cs, hM4⟩, hr4⟩
    obtain ⟨c0, c1, c2, c3⟩ := box4 hM4.bx
    obtain ⟨d0, d1, d2, d3⟩ := box4 hM4.res
    have f0 := hM4.res.f 0
    have f1 := hM4.res.f 1
    have f2 := hM4.res.f 2
    have f3 := hM4.res.f 3
    obtain ⟨hj, hb, hr, hbx⟩ := hM4.ends hr4 (.int .i64 6) (.string ⟨#[]⟩) (.slice none 0 0) (.slice SA Sn Sc)
    have HJ := Lib.hid hj
    have HB := Lib.hid hb
    have HR := Lib.hid hr
    obtain ⟨q0, q1, q2, q3⟩ := box4 hbx
    clear hj hb hr hbx hM4 hr4
    go_wp2
    refine bodyPost_ret (v := .agg #[.int .i64 6, .string ⟨#[]⟩, (.slice none 0 0), .slice SA Sn Sc]) (by simp [results, Tryz.results42, go_sem, q0, q1, q2, q3]) rfl ?_
    exact ⟨⟨none, 0, 0⟩, ⟨SA, Sn, Sc⟩, rfl, HJ.out, HB.out, HR.out⟩
theorem clos_object : ∀ (args : Array Value) (w : World), (callFunc 65 args).run Tryz.prog w = .ok (.enter 65 args) w := enters_of Tryz.func65 (by kernel_rfl) rfl
set_option maxRecDepth 100000 in
set_option maxHeartbeats 4000000 in
theorem jobject_any (g h : Nat) (s : Bs) (o N : Nat) (hs : s.length ≤ 1000000) (hN : N ≤ 1000000) (ho : o ≤ 15) (hV : VAll g h s N) (m : Nat) (t : Bs) (w : World) (hl : t.length ≤ N) (hm : m ≤ 500) (r : RS w g h s (123 :: t) m o) (hc1 : t.length + 1 ≤ 1000000) (hh : h < w.heap.size) : Calls Tryz.prog 43 #[.pointer (some ⟨g, 0, none⟩)] w (VEnds g h s o w (objR o m t)) := by
  have hP := fun W (r : RS W g h s (123 :: t) m o) => pass_any g h s (123 :: t) [123] m o W hs hc1 r
  rw [need_head (by decide)] at hP
  have HP : Hid (∀ W, RS W g h s (123 :: t) m o → Calls Tryz.prog 60 #[.pointer (some ⟨g, 0, none⟩), .string ⟨#[123]⟩] W (RdEnds g h s W (.ok (.tuple #[], t, m, o)))) := Lib.hid hP
  have hgl := r.lt
  have hE : ∀ gb gr gv W, ML w W g h gb gr gv 7 ⟨none, 0, 0⟩ [] ⟨none, 0, 0⟩ [] [] → RS W g h s t m o → Calls Tryz.prog 63 #[.pointer (some ⟨g, 0, none⟩), .string ⟨#[125]⟩, .func (.func 65) #[] #[.pointer (some ⟨gv, 0, none⟩), .pointer (some ⟨gb, 0, none⟩)]] W (EachEnds (fun (a : List Bs × List Jv) W => ∃ K S cs, ML w W g h gb gr gv 7 K a.1 S a.2 cs) (fun a => .mk 7 [] a.1 a.2) g h s o w (objR o m t)) := by
    intro gb gr gv W hM r
    have h1 := @each_any _ g h s o N 125 (by decide) 65 #[.pointer (some ⟨gv, 0, none⟩), .pointer (some ⟨gb, 0, none⟩)] clos_object (fun (a : List Bs × List Jv) W => ∃ K S cs, ML w W g h gb gr gv 7 K a.1 S a.2 cs) w (fun (a : List Bs × List Jv) m l => runU (.mems o a.1 a.2) m l) (fun a => .mk 7 [] a.1 a.2) (stpO o) (fun a => max a.1.length a.2.length) (by intro a m l; refine (stpO_run o a m l).trans ?_; cases stpO o a m l with | error e => rfl | ok q => (obtain ⟨a', m', l'⟩ := q; simp only; cases skipB l' <;> rfl)) (stpO_len o)
      (by rintro a W W2 ps ⟨K, S, cs, q⟩ hb hx; exact ⟨K, S, cs, q.call hb hx⟩) (by rintro a W ⟨K, S, cs, q⟩; exact q.but) hs hN ho (by rintro ⟨ks, a⟩ m l W k1 k2 k3 ⟨K, S, cs, q⟩ k4; exact objc_any w g h gb gr gv s o N hs hN hV ks a m l K S cs W k1 k2 (by omega) (by simp only at k3; omega) (by simp only at k3; omega) q k4) ([], []) m t W hl hm (Nat.zero_le _) ⟨_, _, _, hM⟩ r
    rw [objR_eq] at h1
    exact h1
  have HE := Lib.hid hE
  clear hP hE hV
  have hmf : ∀ (fn : Fn) (first cap : Array Value) (w : World), (Instr.makeFunc fn first cap).run Tryz.prog w = .ok (.func fn first cap) w := fun _ _ _ _ => rfl
  obtain ⟨ba, hb1, hb2, hsz⟩ := two_new w #[.pointer (some ⟨g, 0, none⟩)] zlit 50 25
  have HB := Lib.hid ba
  have HB1 := Lib.hid hb1
  have HB2 := Lib.hid hb2
  have HR0 := Lib.hid (r.up ba)
  clear ba hb1 hb2 r
  obtain ⟨R0, hR0⟩ : ∃ R0, objR o m t = R0 := ⟨_, rfl⟩
  rw [hR0] at HE ⊢
  go_enter Tryz.func43, Tryz.ntmps43
  go_upto_region 1 with fail
  obtain ⟨gb, hgb⟩ : ∃ gb, w.heap.size = gb := ⟨_, rfl⟩
  rw [hgb] at HB1 HB2 ⊢
  obtain ⟨gr, hgr⟩ : ∃ gr, gb + 1 = gr := ⟨_, rfl⟩
  rw [hgr] at HB2 ⊢
  generalize (w.alloc (.cells #[.pointer (some ⟨g, 0, none⟩)] 50)).alloc (.cells zlit 25) = W1 at *
  go_upto_region 2 with fail
  obtain ⟨gv, hgv⟩ : ∃ gv, gb + 2 = gv := ⟨_, rfl⟩
  rw [hgv]
  obtain ⟨W2, hW2⟩ : ∃ W2, W2 = W1.alloc (.cells #[.int .i64 7, .string ⟨#[]⟩, .slice none 0 0, .slice none 0 0] 25) := ⟨_, rfl⟩
  have HM := Lib.hid (ml_new (g := g) (h := h) (gb := gb) (gr := gr) (gv := gv) HB.out HB1.out HB2.out hgb.symm (by omega) (by omega) (by omega) hgl hh hW2)
  have hR2 : RS W2 g h s (123 :: t) m o := by
    rw [hW2]
    exact HR0.out.up (ba1 W1 _)
  have HR2 := Lib.hid hR2
  rw [← hW2]
  clear hR2 hW2 HB HB1 HB2 HR0 hsz hR0
  have kb := HM.out.rb.c 0 rfl
  go_wp2_with fail
  refine (HP.out _ HR2.out).mono ?_
  rintro E w3 ⟨rfl, hb3, hr3⟩
  have hM3 := HM.out.call hb3 HR2.out.bx
  have HE3 := Lib.hid (HE.out gb gr gv w3 hM3 hr3)
  have kb3 := hM3.rb.c 0 rfl
  clear kb HM HR2 hM3 hr3 hb3 HE HP
  cases R0 with
  | error er =>
    obtain ⟨e, rr⟩ := er
    go_wp2_with fail
    refine HE3.out.mono ?_
    rintro E w4 ⟨rfl, hb⟩
    go_wp2
    exact ⟨rfl, rfl, hb⟩
  | ok q =>
    obtain ⟨v, m', l'⟩ := q
    go_wp2_with fail
    refine HE3.out.mono ?_
    rintro E w4 ⟨rfl, a, rfl, ⟨⟨KA, Kn, Kc⟩, ⟨SA, Sn, Sc⟩, cs, hM4⟩, hr4⟩
    obtain ⟨c0, c1, c2, c3⟩ := box4 hM4.bx
    obtain ⟨d0, d1, d2, d3⟩ := box4 hM4.res
    have f0 := hM4.res.f 0
    have f1 := hM4.res.f 1
    have f2 := hM4.res.f 2
    have f3 := hM4.res.f 3
    obtain ⟨hj, hb, hr, hbx⟩ := hM4.ends hr4 (.int .i64 7) (.string ⟨#[]⟩) (.slice KA Kn Kc) (.slice SA Sn Sc)
    have HJ := Lib.hid hj
    have HB := Lib.hid hb
    have HR := Lib.hid hr
    obtain ⟨q0, q1, q2, q3⟩ := box4 hbx
    clear hj hb hr hbx hM4 hr4
    go_wp2
    refine bodyPost_ret (v := .agg #[.int .i64 7, .string ⟨#[]⟩, (.slice KA Kn Kc), .slice SA Sn Sc]) (by simp [results, Tryz.results43, go_sem, q0, q1, q2, q3]) rfl ?_
    exact ⟨⟨KA, Kn, Kc⟩, ⟨SA, Sn, Sc⟩, rfl, HJ.out, HB.out, HR.out⟩
end Go.Proofs.YtnkhghjcfhpeiaaGreatDoor

/-
  The program's value: the map of kinds, the checks ahead.
-/
namespace Go.Proofs.YtnkhghjcfhpeiaaGreatDoor
open Go.RowKit
theorem kfind_yes (g : Nat) (c : UInt8) (f : FuncId) (h : kindF c = some f) : ∃ i, Instr.findNow (.int .u8) (.int .u8 (c.toNat : Int)) (KJ g).toList 0 = some (some (i, mv g f)) := by
  unfold kindF at h
  repeat' split at h
  all_goals first
    | (rename_i he; subst he; cases h; exact ⟨_, rfl⟩)
    | cases h
    | skip
  rename_i he
  rcases he with rfl | he
  · exact ⟨_, rfl⟩
  · have hd : 48 ≤ c.toNat ∧ c.toNat ≤ 57 := by
      unfold digB at he
      simpa [UInt8.le_iff_toNat_le] using he
    have hc : c = 48 ∨ c = 49 ∨ c = 50 ∨ c = 51 ∨ c = 52 ∨ c = 53 ∨ c = 54 ∨ c = 55 ∨ c = 56 ∨ c = 57 := by
      have hk : ∀ k : UInt8, c.toNat = k.toNat → c = k := fun k e => UInt8.toNat_inj.1 e
      rcases (show c.toNat = 48 ∨ c.toNat = 49 ∨ c.toNat = 50 ∨ c.toNat = 51 ∨ c.toNat = 52 ∨ c.toNat = 53 ∨ c.toNat = 54 ∨ c.toNat = 55 ∨ c.toNat = 56 ∨ c.toNat = 57 by omega) with e | e | e | e | e | e | e | e | e | e
      · exact .inl (hk 48 e)
      · exact .inr (.inl (hk 49 e))
      · exact .inr (.inr (.inl (hk 50 e)))
      · exact .inr (.inr (.inr (.inl (hk 51 e))))
      · exact .inr (.inr (.inr (.inr (.inl (hk 52 e)))))
      · exact .inr (.inr (.inr (.inr (.inr (.inl (hk 53 e))))))
      · exact .inr (.inr (.inr (.inr (.inr (.inr (.inl (hk 54 e)))))))
      · exact .inr (.inr (.inr (.inr (.inr (.inr (.inr (.inl (hk 55 e))))))))
      · exact .inr (.inr (.inr (.inr (.inr (.inr (.inr (.inr (.inl (hk 56 e)))))))))
      · exact .inr (.inr (.inr (.inr (.inr (.inr (.inr (.inr (.inr (hk 57 e)))))))))
    rcases hc with rfl | rfl | rfl | rfl | rfl | rfl | rfl | rfl | rfl | rfl
    all_goals exact ⟨_, rfl⟩
theorem kfind_no (g : Nat) (c : UInt8) (h : kindF c = none) : Instr.findNow (.int .u8) (.int .u8 (c.toNat : Int)) (KJ g).toList 0 = some none := by
  have hne : ∀ m : UInt8, c ≠ m → ¬ (m.toNat : Int) = (c.toNat : Int) := fun m hm hh => hm (UInt8.toNat_inj.1 (by omega))
  have hall : ∀ m : UInt8, kindF m ≠ none → ¬ (m.toNat : Int) = (c.toNat : Int) := fun m hm => hne m (fun e => hm (by rw [← e]; exact h))
  have k1 := hall 110 (by decide)
  have k2 := hall 102 (by decide)
  have k3 := hall 116 (by decide)
  have k4 := hall 45 (by decide)
  have k5 := hall 34 (by decide)
  have k6 := hall 91 (by decide)
  have k7 := hall 123 (by decide)
  have k8 := hall 48 (by decide)
  have k9 := hall 49 (by decide)
  have k10 := hall 50 (by decide)
  have k11 := hall 51 (by decide)
  have k12 := hall 52 (by decide)
  have k13 := hall 53 (by decide)
  have k14 := hall 54 (by decide)
  have k15 := hall 55 (by decide)
  have k16 := hall 56 (by decide)
  have k17 := hall 57 (by decide)
  simp only [UInt8.reduceToNat] at k1 k2 k3 k4 k5 k6 k7 k8 k9 k10 k11 k12 k13 k14 k15 k16 k17
  clear hne hall h
  generalize (c.toNat : Int) = z at *
  have q1 : (z == 110) = false := beq_eq_false_iff_ne.2 (by omega)
  have q2 : (z == 102) = false := beq_eq_false_iff_ne.2 (by omega)
  have q3 : (z == 116) = false := beq_eq_false_iff_ne.2 (by omega)
  have q4 : (z == 45) = false := beq_eq_false_iff_ne.2 (by omega)
  have q5 : (z == 34) = false := beq_eq_false_iff_ne.2 (by omega)
  have q6 : (z == 91) = false := beq_eq_false_iff_ne.2 (by omega)
  have q7 : (z == 123) = false := beq_eq_false_iff_ne.2 (by omega)
  have q8 : (z == 48) = false := beq_eq_false_iff_ne.2 (by omega)
  have q9 : (z == 49) = false := beq_eq_false_iff_ne.2 (by omega)
  have q10 : (z == 50) = false := beq_eq_false_iff_ne.2 (by omega)
  have q11 : (z == 51) = false := beq_eq_false_iff_ne.2 (by omega)
  have q12 : (z == 52) = false := beq_eq_false_iff_ne.2 (by omega)
  have q13 : (z == 53) = false := beq_eq_false_iff_ne.2 (by omega)
  have q14 : (z == 54) = false := beq_eq_false_iff_ne.2 (by omega)
  have q15 : (z == 55) = false := beq_eq_false_iff_ne.2 (by omega)
  have q16 : (z == 56) = false := beq_eq_false_iff_ne.2 (by omega)
  have q17 : (z == 57) = false := beq_eq_false_iff_ne.2 (by omega)
  clear k1 k2 k3 k4 k5 k6 k7 k8 k9 k10 k11 k12 k13 k14 k15 k16 k17
  unfold KJ
  simp [Instr.findNow, Instr.sameNow, q1, q2, q3, q4, q5, q6, q7, q8, q9, q10, q11, q12, q13, q14, q15, q16, q17]
theorem klk_ok {W : World} {g h : Nat} (hm : RMap W g h) (c : UInt8) (f : FuncId) (hc : kindF c = some f) : (Instr.lookup 67 (.map (some h)) (.int .u8 (c.toNat : Int)) true).run Tryz.prog W = .ok (.tuple #[mv g f, .bool true]) W := by
  obtain ⟨i, hf⟩ := kfind_yes g c f hc
  have hk : ∀ q, (Instr.checkKey q 10000 5 (.int .u8 (c.toNat : Int))).run Tryz.prog W = .ok () W := fun q => MapKept.run_checkKey (k := .int .u8 (c.toNat : Int)) Tryz.underlying5 (by simp [MapKept.IsKey]) q 9999
  simp [Instr.lookup, run_underlying Tryz.underlying67, MapKept.run_getObj_map hm, hk, MapKept.run_findKey Tryz.underlying5 hf, Result.andThen]
theorem klk_no {W : World} {g h : Nat} (hm : RMap W g h) (c : UInt8) (hc : kindF c = none) : (Instr.lookup 67 (.map (some h)) (.int .u8 (c.toNat : Int)) true).run Tryz.prog W = .ok (.tuple #[.nilFunc, .bool false]) W := by
  have hf := kfind_no g c hc
  have hk : ∀ q, (Instr.checkKey q 10000 5 (.int .u8 (c.toNat : Int))).run Tryz.prog W = .ok () W := fun q => MapKept.run_checkKey (k := .int .u8 (c.toNat : Int)) Tryz.underlying5 (by simp [MapKept.IsKey]) q 9999
  simp [Instr.lookup, run_underlying Tryz.underlying67, MapKept.run_getObj_map hm, hk, MapKept.run_findKey Tryz.underlying5 hf, Result.andThen, Tryz.zeroValue52]

/-! the kinds -/
def kindR (o m : Nat) (c : UInt8) (t : Bs) : Res := if c = 91 then listR o m t else if c = 123 then objR o m t else leafR m (c :: t)
theorem runU_valstep (o m : Nat) (l : Bs) : runU (.val o) m l = if 16 ≤ o then .error (32, skipB l) else if 500 ≤ m then .error (2, skipB l) else match skipB l with | [] => .error (31, []) | c :: t => kindR o (m + 1) c t := by
  rw [runU_step]
  unfold stepJ
  simp only
  split
  · rfl
  · split
    · rfl
    · cases skipB l with
      | nil => rfl
      | cons c t => rfl
theorem vends_leaf {g h : Nat} {s : Bs} {w : World} {k : Int} {x : Bs} {l : Bs} {m o : Nat} {E : Ending} {w' : World} (h1 : RdEnds g h s w (.ok (jx (.mk k x [] []) nilS nilS, l, m, o)) E w') : VEnds g h s o w (.ok (.mk k x [] [], m, l)) E w' := ⟨nilS, nilS, h1.1, jleaf _ _ _ _, h1.2.1, h1.2.2⟩
theorem word_v (v : Jv) (p : Bs) (c : UInt8) (t : Bs) (m o : Nat) (hc : blankB c = false) : valE v (needP p (c :: t) m o) = if p.isPrefixOf (c :: t) = true then .ok (jx v nilS nilS, (c :: t).drop p.length, m, o) else .error (31, c :: t) := by
  have hs : skipB (c :: t) = c :: t := by rw [skipB, hc]; rfl
  unfold needP cutP
  rw [hs]
  by_cases h : p.isPrefixOf (c :: t) = true
  · rw [if_pos h, if_pos h]; rfl
  · rw [if_neg h, if_neg h]; rfl
theorem kind_none {c : UInt8} (h : kindF c = none) (o m : Nat) (t : Bs) : kindR o m c t = .error (31, c :: t) := by
  have hne : ∀ k : UInt8, kindF k ≠ none → c ≠ k := fun k hk e => hk (by rw [← e]; exact h)
  have k1 := hne 110 (by decide)
  have k2 := hne 102 (by decide)
  have k3 := hne 116 (by decide)
  have k5 := hne 34 (by decide)
  have k6 := hne 91 (by decide)
  have k7 := hne 123 (by decide)
  have k8 : ¬ (c = 45 ∨ digB c = true) := by
    intro hc
    unfold kindF at h
    rw [if_neg k1, if_neg k2, if_neg k3, if_neg k5, if_neg k6, if_neg k7, if_pos hc] at h
    cases h
  have hp : ∀ (x : UInt8) (r : Bs), c ≠ x → ¬ (x :: r).isPrefixOf (c :: t) = true := by
    intro x r hx e
    rw [List.isPrefixOf_iff_prefix] at e
    obtain ⟨q, hq⟩ := e
    exact hx (List.cons.inj hq).1.symm
  unfold kindR leafR wordR
  rw [if_neg k6, if_neg k7]
  simp only [if_neg k5, if_neg k8]
  rw [if_neg (hp 110 _ k1), if_neg (hp 102 _ k2), if_neg (hp 116 _ k3)]
theorem kind_any (g h : Nat) (s : Bs) (o N : Nat) (hs : s.length ≤ 1000000) (hN : N ≤ 1000000) (ho : o ≤ 15) (hV : VAll g h s N) (m : Nat) (c : UInt8) (t : Bs) (f : FuncId) (hf : kindF c = some f) (w : World) (hl : t.length ≤ N) (hm : m ≤ 500) (r : RS w g h s (c :: t) m o) (hc1 : t.length + 1 ≤ 1000000) : Calls Tryz.prog f #[.pointer (some ⟨g, 0, none⟩)] w (VEnds g h s o w (kindR o m c t)) := by
  have hh : h < w.heap.size := (Array.getElem?_eq_some_iff.1 r.mp).1
  have hp : ∀ (x : UInt8) (r : Bs), c ≠ x → ¬ (x :: r).isPrefixOf (c :: t) = true := by
    intro x r hx e
    rw [List.isPrefixOf_iff_prefix] at e
    obtain ⟨q, hq⟩ := e
    exact hx (List.cons.inj hq).1.symm
  have hl1 : (c :: t).length ≤ 1000000 := by rw [List.length_cons]; exact hc1
  unfold kindF at hf
  split at hf
  · rename_i he
    cases hf
    refine (null_any g h s (c :: t) m o w hs hl1 r).mono fun E w' h1 => ?_
    rw [word_v _ _ c t m o (by subst he; rfl)] at h1
    have e : kindR o m c t = wordR m (c :: t) := by subst he; rfl
    rw [e]
    unfold wordR
    by_cases hq : ([110, 117, 108, 108] : Bs).isPrefixOf (c :: t) = true
    · rw [if_pos hq] at h1 ⊢
      exact vends_leaf h1
    · rw [if_neg hq] at h1 ⊢
      rw [if_neg (hp 102 _ (by rw [he]; decide)), if_neg (hp 116 _ (by rw [he]; decide))]
      exact h1
  · split at hf
    · rename_i he
      cases hf
      refine (no_any g h s (c :: t) m o w hs hl1 r).mono fun E w' h1 => ?_
      rw [word_v _ _ c t m o (by subst he; rfl)] at h1
      have e : kindR o m c t = wordR m (c :: t) := by subst he; rfl
      rw [e]
      unfold wordR
      rw [if_neg (hp 110 _ (by rw [he]; decide))]
      by_cases hq : ([102, 97, 108, 115, 101] : Bs).isPrefixOf (c :: t) = true
      · rw [if_pos hq] at h1 ⊢
        exact vends_leaf h1
      · rw [if_neg hq] at h1 ⊢
        rw [if_neg (hp 116 _ (by rw [he]; decide))]
        exact h1
    · split at hf
      · rename_i he
        cases hf
        refine (yes_any g h s (c :: t) m o w hs hl1 r).mono fun E w' h1 => ?_
        rw [word_v _ _ c t m o (by subst he; rfl)] at h1
        have e : kindR o m c t = wordR m (c :: t) := by subst he; rfl
        rw [e]
        unfold wordR
        rw [if_neg (hp 110 _ (by rw [he]; decide)), if_neg (hp 102 _ (by rw [he]; decide))]
        by_cases hq : ([116, 114, 117, 101] : Bs).isPrefixOf (c :: t) = true
        · rw [if_pos hq] at h1 ⊢
          exact vends_leaf h1
        · rw [if_neg hq] at h1 ⊢
          exact h1
      · split at hf
        · rename_i he
          subst he
          cases hf
          refine (jtext_any g h s (34 :: t) m o w hs hl1 r).mono fun E w' h1 => ?_
          have e : kindR o m 34 t = (match textR (34 :: t) with | .error e => .error e | .ok (s, r) => .ok (.mk 5 s [] [], m, r)) := rfl
          rw [e]
          unfold textR
          rw [if_pos (show List.take 1 (34 :: t) = [34] from rfl)]
          by_cases hq : (unqL (34 :: t)).2.2 = 0
          · rw [if_pos hq] at h1 ⊢
            exact vends_leaf h1
          · rw [if_neg hq] at h1 ⊢
            exact h1
        · split at hf
          · rename_i he
            subst he
            cases hf
            exact jlist_any g h s o N hs hN ho hV m t w hl hm r hc1 hh
          · split at hf
            · rename_i he
              subst he
              cases hf
              exact jobject_any g h s o N hs hN ho hV m t w hl hm r hc1 hh
            · split at hf
              · rename_i h3 h4 h5 he
                cases hf
                refine (jnumber_any g h s (c :: t) m o w hs hl1 r).mono fun E w' h1 => ?_
                unfold kindR leafR
                rw [if_neg h4, if_neg h5]
                simp only [if_neg h3, if_pos he]
                by_cases hq : numberL (c :: t) = 0
                · rw [if_pos hq] at h1 ⊢
                  exact h1
                · rw [if_neg hq] at h1 ⊢
                  exact vends_leaf h1
              · cases hf
theorem kind_enters (c : UInt8) (f : FuncId) (hf : kindF c = some f) : ∀ (args : Array Value) (w : World), (callFunc f args).run Tryz.prog w = .ok (.enter f args) w := by
  unfold kindF at hf
  repeat' split at hf
  all_goals cases hf
  · exact enters_of Tryz.func37 (by kernel_rfl) rfl
  · exact enters_of Tryz.func38 (by kernel_rfl) rfl
  · exact enters_of Tryz.func39 (by kernel_rfl) rfl
  · exact enters_of Tryz.func41 (by kernel_rfl) rfl
  · exact enters_of Tryz.func42 (by kernel_rfl) rfl
  · exact enters_of Tryz.func43 (by kernel_rfl) rfl
  · exact enters_of Tryz.func40 (by kernel_rfl) rfl
end Go.Proofs.YtnkhghjcfhpeiaaGreatDoor

/-
  The program's value, walked; by induction on the bytes that are left.
-/
namespace Go.Proofs.YtnkhghjcfhpeiaaGreatDoor
open Go.RowKit
theorem skip_mem {l t : Bs} {c : UInt8} (h : skipB l = c :: t) : t.length < l.length := by
  have := skip_le l
  rw [h, List.length_cons] at this
  omega
theorem map_drewN {W : World} {g h : Nat} (hm : RMap W g h) (n : Nat) : RMap (W.drewN n) g h := (below_drewN (Below.refl W.heap.size W) n).block h (Array.getElem?_eq_some_iff.1 hm).1 |>.trans hm
theorem tb_consE (c : UInt8) (t : Bs) : (tb (c :: t)).toList.isEmpty = false := by
  rw [isEmp, tb_size]
  exact decide_eq_false (by simp)
set_option maxRecDepth 100000 in
set_option maxHeartbeats 4000000 in
theorem value_walk (g h : Nat) (s : Bs) (o m : Nat) (l : Bs) (w : World) (hs : s.length ≤ 1000000) (hl : l.length ≤ 1000000) (ho : o ≤ 16) (hm : m ≤ 500) (r : RS w g h s l m o)
    (hK : ∀ c t f, skipB l = c :: t → kindF c = some f → o ≤ 15 → ∀ W m', m' ≤ 500 → RS W g h s (c :: t) m' o → Calls Tryz.prog f #[.pointer (some ⟨g, 0, none⟩)] W (VEnds g h s o W (kindR o m' c t))) :
    Calls Tryz.prog 44 #[.pointer (some ⟨g, 0, none⟩)] w (VEnds g h s o w (runU (.val o) m l)) := by
  have hgl := r.lt
  have hbA := ba1 w (.cells zlit 25)
  have HB0 := Lib.hid (But.of (g := g) hbA)
  have HR0 := Lib.hid (r.up hbA)
  have bx := Lib.hid (Box.new w 25 zlit)
  have HS := Lib.hid (fun W (r : RS W g h s l m o) => skip_any g h s l m o W r)
  have hsl := skip_le l
  have HF := Lib.hid (fun W e (r : RS W g h s (skipB l) m o) => fail_any g h s (skipB l) m o e W hs (by omega) r)
  rw [runU_valstep]
  clear r hbA
  obtain ⟨gr, hgr⟩ : ∃ gr, w.heap.size = gr := ⟨_, rfl⟩
  by_cases h16 : 16 ≤ o
  · rw [if_pos h16]
    have hoe : o = 16 := by omega
    have hoi : (o : Int) = 16 := by omega
    have hd1 : decide ((o : Int) = 16) = true := decide_eq_true hoi
    have hd2 : ((o : Int) == 16) = true := beq_iff_eq.2 hoi
    have HI := Lib.hid hoe
    clear hoe h16 ho hoi hK
    go_enter Tryz.func44, Tryz.ntmps44
    go_wp2_with fail
    rw [hgr] at bx
    generalize w.alloc (.cells zlit 25) = W0 at *
    refine (HS.out _ HR0.out).mono ?_
    rintro E w1 ⟨rfl, hb1, hr1⟩
    have HR1 := Lib.hid hr1
    have HB1 := Lib.hid (HB0.out.on hb1)
    obtain ⟨c0, c1, c2, c3, c4⟩ := hr1.cells
    clear hb1 hr1
    go_wp2_with fail
    refine (HF.out _ 32 HR1.out).mono ?_
    rintro E w2 ⟨rfl, hb⟩
    have HB2 := HB1.out.on hb
    go_wp2
    exact ⟨rfl, rfl, HB2⟩
  · rw [if_neg h16]
    have hoi : ¬ (o : Int) = 16 := by omega
    have hd1 : decide ((o : Int) = 16) = false := decide_eq_false hoi
    have hd2 : ((o : Int) == 16) = false := beq_eq_false_iff_ne.2 hoi
    by_cases h5 : 500 ≤ m
    · rw [if_pos h5]
      have hmi : (m : Int) = 500 := by omega
      have he1 : decide ((m : Int) = 500) = true := decide_eq_true hmi
      have he2 : ((m : Int) == 500) = true := beq_iff_eq.2 hmi
      clear h16 ho hoi hmi h5 hm hK
      go_enter Tryz.func44, Tryz.ntmps44
      go_wp2_with fail
      rw [hgr] at bx
      have HG : Hid (w.heap.size ≤ gr) := Lib.hid (by omega)
      clear hgr
      generalize w.alloc (.cells zlit 25) = W0 at *
      refine (HS.out _ HR0.out).mono ?_
      rintro E w1 ⟨rfl, hb1, hr1⟩
      have HR1 := Lib.hid hr1
      have HB1 := Lib.hid (HB0.out.on hb1)
      have bx1 := Lib.hid (bx.out.but hb1 (by have := HG.out; omega))
      obtain ⟨c0, c1, c2, c3, c4⟩ := hr1.cells
      clear hb1 hr1 bx HB0 HR0 HS
      go_wp2_with fail
      refine (HF.out _ 2 HR1.out).mono ?_
      rintro E w2 ⟨rfl, hb⟩
      have HB2 := HB1.out.on hb
      go_wp2
      exact ⟨rfl, rfl, HB2⟩
    · rw [if_neg h5]
      have hmi : ¬ (m : Int) = 500 := by omega
      have he1 : decide ((m : Int) = 500) = false := decide_eq_false hmi
      have he2 : ((m : Int) == 500) = false := beq_eq_false_iff_ne.2 hmi
      cases hsk : skipB l with
      | nil =>
        rw [hsk] at HF HS
        have hem : (tb ([] : Bs)).toList.isEmpty = true := by rw [isEmp, tb_size]; exact decide_eq_true rfl
        clear h16 ho hoi hmi h5 hm hK hsk
        go_enter Tryz.func44, Tryz.ntmps44
        go_wp2_with fail
        rw [hgr] at bx
        have HG : Hid (w.heap.size ≤ gr) := Lib.hid (by omega)
        clear hgr
        generalize w.alloc (.cells zlit 25) = W0 at *
        refine (HS.out _ HR0.out).mono ?_
        rintro E w1 ⟨rfl, hb1, hr1⟩
        have HR1 := Lib.hid hr1
        have HB1 := Lib.hid (HB0.out.on hb1)
        have bx1 := Lib.hid (bx.out.but hb1 (by have := HG.out; omega))
        obtain ⟨c0, c1, c2, c3, c4⟩ := hr1.cells
        clear hb1 hr1 bx HB0 HR0 HS
        go_wp2_with fail
        refine (HF.out _ 31 HR1.out).mono ?_
        rintro E w2 ⟨rfl, hb⟩
        have HB2 := HB1.out.on hb
        go_wp2
        exact ⟨rfl, rfl, HB2⟩
      | cons c t =>
        rw [hsk] at HF HS
        simp only
        have hix : ∀ W, (Instr.index 9 (.string (tb (c :: t))) (.int .i64 0)).run Tryz.prog W = .ok (.int .u8 (c.toNat : Int)) W := fun W => idx_run (l := c :: t) (a := c) (i := 0) rfl W
        have hem := tb_consE c t
        have hz : (0 : Int) < ((tb (c :: t)).size : Int) := by rw [tb_size, List.length_cons]; omega
        cases hk : kindF c with
        | none =>
          rw [kind_none hk]
          have HL := Lib.hid (fun (W : World) (q : RMap W g h) => klk_no q c hk)
          clear h16 ho hoi hmi h5 hm hK hsk hk hsl
          go_enter Tryz.func44, Tryz.ntmps44
          go_wp2_with fail
          rw [hgr] at bx
          have HG : Hid (w.heap.size ≤ gr) := Lib.hid (by omega)
          clear hgr
          generalize w.alloc (.cells zlit 25) = W0 at *
          refine (HS.out _ HR0.out).mono ?_
          rintro E w1 ⟨rfl, hb1, hr1⟩
          have HR1 := Lib.hid hr1
          have HB1 := Lib.hid (HB0.out.on hb1)
          have bx1 := Lib.hid (bx.out.but hb1 (by have := HG.out; omega))
          obtain ⟨c0, c1, c2, c3, c4⟩ := hr1.cells
          clear hb1 hr1 bx HB0 HR0 HS
          have hlN := fun n => HL.out _ (map_drewN HR1.out.mp n)
          have hl1 := HL.out _ HR1.out.mp
          generalize tb (c :: t) = C at *
          go_wp2_with fail
          go_quiet (fail)
          rename_i nq
          have hbq := below_drewN (Below.refl w1.heap.size w1) nq
          have HR2 := Lib.hid (HR1.out.up hbq)
          have HB2 := Lib.hid (HB1.out.on (But.of hbq))
          have bx2 := Lib.hid (bx1.out.up hbq)
          clear HR1 HB1 bx1 c0 c1 c2 c3 c4 hbq hlN hl1
          generalize w1.drewN nq = W2 at *
          go_wp2_with fail
          refine (HF.out _ 31 HR2.out).mono ?_
          rintro E w2 ⟨rfl, hb⟩
          have HB3 := HB2.out.on hb
          go_wp2
          exact ⟨rfl, rfl, HB3⟩
        | some f =>
          have HL := Lib.hid (fun (W : World) (q : RMap W g h) => klk_ok q c f hk)
          unfold mv at HL
          have hent := kind_enters c f hk
          have hw1 : IntKind.i64.wrap ((m : Int) + 1) = ((m + 1 : Nat) : Int) := by rw [IntWalk.i64_in _ (by omega)]; omega
          have HK := Lib.hid (fun W (r : RS W g h s (c :: t) (m + 1) o) => hK c t f hsk hk (by omega) W (m + 1) (by omega) r)
          obtain ⟨R0, hR0⟩ : ∃ R0, kindR o (m + 1) c t = R0 := ⟨_, rfl⟩
          rw [hR0] at HK ⊢
          obtain ⟨m1, hm1⟩ : ∃ m1, m + 1 = m1 := ⟨_, rfl⟩
          rw [hm1] at HK hw1
          have HM1 := Lib.hid hm1
          clear h16 ho hoi hmi h5 hm hK hsk hk hsl hR0 hm1 HF
          go_enter Tryz.func44, Tryz.ntmps44
          go_wp2_with fail
          rw [hgr] at bx
          have HG : Hid (w.heap.size ≤ gr) := Lib.hid (by omega)
          clear hgr
          generalize w.alloc (.cells zlit 25) = W0 at *
          refine (HS.out _ HR0.out).mono ?_
          rintro E w1 ⟨rfl, hb1, hr1⟩
          have HR1 := Lib.hid hr1
          have HB1 := Lib.hid (HB0.out.on hb1)
          have bx1 := Lib.hid (bx.out.but hb1 (by have := HG.out; omega))
          obtain ⟨c0, c1, c2, c3, c4⟩ := hr1.cells
          clear hb1 hr1 bx HB0 HR0 HS
          have hlN := fun n => HL.out _ (map_drewN HR1.out.mp n)
          have hl1 := HL.out _ HR1.out.mp
          generalize tb (c :: t) = C at *
          go_wp2_with fail
          go_quiet (fail)
          rename_i nq
          have hbq := below_drewN (Below.refl w1.heap.size w1) nq
          have HR2 := Lib.hid (HR1.out.up hbq)
          have HB2 := Lib.hid (HB1.out.on (But.of hbq))
          have bx2 := Lib.hid (bx1.out.up hbq)
          clear HR1 HB1 bx1 c0 c1 c2 c3 c4 hbq hlN hl1
          generalize w1.drewN nq = W2 at *
          have f2 := HR2.out.bx.f 2
          obtain ⟨c0, c1, c2, c3, c4⟩ := HR2.out.cells
          have hR3 := HR2.out.setm m1
          have HB3 := Lib.hid (HB2.out.on (but_cell W2 g 2 (.int .i64 (m1 : Int))))
          have bx3 := Lib.hid (bx2.out.far (p := ⟨g, 2, none⟩) (by have := HG.out; simp only; omega) (.int .i64 (m1 : Int)))
          have HR3 := Lib.hid hR3
          clear hR3 HR2 HB2 bx2
          go_upto_region 12 with fail
          clear c0 c1 c2 c3 c4 f2 hw1
          generalize W2.setCell ⟨g, 2, none⟩ (.int .i64 (m1 : Int)) = W3 at *
          have HKc := Lib.hid (HK.out W3 HR3.out)
          clear HK
          cases R0 with
          | error er =>
            obtain ⟨e, rr⟩ := er
            go_wp2_with fail
            refine HKc.out.mono ?_
            rintro E w4 ⟨rfl, hb⟩
            have HB4 := HB3.out.on hb
            go_wp2
            exact ⟨rfl, rfl, HB4⟩
          | ok q =>
            obtain ⟨v, m', l'⟩ := q
            go_wp2_with fail
            refine HKc.out.mono ?_
            rintro E w4 ⟨K3, S3, rfl, hjv, hb, hr4⟩
            obtain ⟨KA3, Kn3, Kc3⟩ := K3
            obtain ⟨SA3, Sn3, Sc3⟩ := S3
            simp only [jx] at hjv ⊢
            have bx4 := bx3.out.but hb (by have := HG.out; omega)
            have HB4 := Lib.hid (HB3.out.on hb)
            have hgl3 := bx3.out.lt
            obtain ⟨d0, d1, d2, d3⟩ := box4 bx4
            have f0 := bx4.f 0
            have f1 := bx4.f 1
            have f2 := bx4.f 2
            have f3 := bx4.f 3
            obtain ⟨q0, q1, q2, q3⟩ := box4 (box_set4 bx4 (.int .i64 v.k) (.string (tb v.t)) (.slice KA3 Kn3 Kc3) (.slice SA3 Sn3 Sc3))
            have hbut := but_set4 (gr := gr) HB4.out HG.out (.int .i64 v.k) (.string (tb v.t)) (.slice KA3 Kn3 Kc3) (.slice SA3 Sn3 Sc3)
            have hrs := rs_far4 (gr := gr) hr4 (by have := HG.out; omega) bx4 (.int .i64 v.k) (.string (tb v.t)) (.slice KA3 Kn3 Kc3) (.slice SA3 Sn3 Sc3)
            have hP : ∀ b, W3.heap.size ≤ b → b ≠ gr := fun b hp => by omega
            have j := JV.to (keep_set (i := 3) (u := .slice SA3 Sn3 Sc3) hP) _ _ (JV.to (keep_set (i := 2) (u := .slice KA3 Kn3 Kc3) hP) _ _ (JV.to (keep_set (i := 1) (u := .string (tb v.t)) hP) _ _ (JV.to (keep_set (i := 0) (u := .int .i64 v.k) hP) _ _ hjv)))
            have hsz := HB3.out.size
            have j2 := JV.to (Keeps.same (P' := fun b => w.heap.size ≤ b) (fun b hp _ => Nat.le_trans hsz hp)) _ _ j
            have HJ := Lib.hid j2
            have HBt := Lib.hid hbut
            have HRs := Lib.hid hrs
            clear j j2 hbut hrs hjv hb hr4 bx4 hP hsz
            go_wp2
            refine bodyPost_ret (v := .agg #[.int .i64 v.k, .string (tb v.t), .slice KA3 Kn3 Kc3, .slice SA3 Sn3 Sc3]) (by simp [results, Tryz.results44, go_sem, q0, q1, q2, q3]) rfl ?_
            exact ⟨⟨KA3, Kn3, Kc3⟩, ⟨SA3, Sn3, Sc3⟩, rfl, HJ.out, HBt.out, HRs.out⟩
theorem value_any (g h : Nat) (s : Bs) (hs : s.length ≤ 1000000) : ∀ N, N ≤ 999999 → VAll g h s N := by
  intro N
  induction N with
  | zero =>
    intro hN o m l w hl ho hm r
    refine value_walk g h s o m l w hs (by omega) ho hm r ?_
    intro c t f hsk
    have := skip_mem hsk
    omega
  | succ N ih =>
    intro hN o m l w hl ho hm r
    refine value_walk g h s o m l w hs (by omega) ho hm r ?_
    intro c t f hsk hk ho15 W m' hm' hr
    have := skip_mem hsk
    exact kind_any g h s o N hs (by omega) ho15 (ih (by omega)) m' c t f hk W (by omega) hm' hr (by omega)
end Go.Proofs.YtnkhghjcfhpeiaaGreatDoor
