/-
  The document's own reader: a list or an object while it is read; its parts as lists.
-/
import Derived.Test.YtnkhghjcfhpeiaaGreatDoorXd
import Derived.Test.YtnkhghjcfhpeiaaGreatDoorJWords
import Derived.Test.YtnkhghjcfhpeiaaGreatDoorJPj
import Derived.Deep.RegionLaw
namespace Go.Proofs.YtnkhghjcfhpeiaaGreatDoor
open Go.RowKit
/-- a list or an object while it is read -/
structure LD (w W : World) (g gr gv : Nat) (kd : Int) (K : Sli) (ks : List Bs) (S : Sli) (vs : List Jv) (cs : List Value) : Prop where
  but : But g w W
  res : Box W gr 25 #[.int .i64 0, .string ⟨#[]⟩, .slice none 0 0, .slice none 0 0]
  bx : Box W gv 25 #[.int .i64 kd, .string ⟨#[]⟩, .slice K.A K.n K.c, .slice S.A S.n S.c]
  krow : Row W (gv + 1) 9 1 K (svs (ks.map tb))
  vrow : Row W (gv + 1) 25 4 S cs
  jl : JL W (PB gv K S) vs cs
  lo : w.heap.size ≤ gr
  rv : gr < gv
  mr : g < w.heap.size
theorem DS.far {w : World} {g k i : Nat} {s l : Bs} {m : Nat} {e : Int} (h : DS w g s l m e) (hne : g ≠ k) (u : Value) : DS (w.setCell ⟨k, i, none⟩ u) g s l m e := ⟨h.bx.far (p := ⟨k, i, none⟩) hne u, h.suf, h.le⟩
theorem DS.grown {w w' : World} {g : Nat} {s l : Bs} {m : Nat} {e : Int} {ob : Option Nat} (h : DS w g s l m e) (hg : w.grownBy w' ob) (hne : some g ≠ ob) : DS w' g s l m e := ⟨grown_box hg h.bx hne, h.suf, h.le⟩
section
variable {w W W' : World} {g gr gv : Nat} {kd : Int} {K S : Sli} {ks : List Bs} {vs : List Jv} {cs : List Value}
theorem LD.up (h : LD w W g gr gv kd K ks S vs cs) (hb : Below W.heap.size W W') : LD w W' g gr gv kd K ks S vs cs :=
  ⟨h.but.on (But.of hb), h.res.up hb, h.bx.up hb, h.krow.up hb, h.vrow.up hb, h.jl.up hb, h.lo, h.rv, h.mr⟩
theorem LD.call (h : LD w W g gr gv kd K ks S vs cs) (hb : But g W W') {ps : Array Value} (hm : Box W g 61 ps) : LD w W' g gr gv kd K ks S vs cs := by
  have h1 := h.lo
  have h2 := h.rv
  have h3 := h.mr
  exact ⟨h.but.on hb, h.res.but hb (by omega), h.bx.but hb (by omega), row_but h.krow hb hm (by decide), row_but h.vrow hb hm (by decide), JL.to (Keeps.but hb (fun b hp => by have := hp.1; omega) (fun _ hp _ => hp)) _ _ h.jl, h.lo, h.rv, h.mr⟩
theorem LD.key (h : LD w W g gr gv kd K ks S vs cs) {s l : Bs} {m : Nat} {e : Int} (hd : DS W g s l m e) {A' : Option Addr} {n c' : Nat} {ks' : List Bs} (h1 : W'.ownsRow (gv + 1) 9 1 (.slice A' n c') n (svs (ks'.map tb))) (h2 : W.grownBy W' (Value.slice K.A K.n K.c).ownBlock) (h3 : (Value.slice A' n c').ownBlock = (Value.slice K.A K.n K.c).ownBlock ∨ (Value.slice A' n c').ownBlock = some W.heap.size) :
    LD w (W'.setCell ⟨gv, 2, none⟩ (.slice A' n c')) g gr gv kd ⟨A', n, c'⟩ ks' S vs cs ∧ DS (W'.setCell ⟨gv, 2, none⟩ (.slice A' n c')) g s l m e ∧ W'.cell? ⟨gv, 2, none⟩ = some (.slice K.A K.n K.c) ∧ W'.frozen? ⟨gv, 2, none⟩ = false := by
  have o1 := h.lo
  have o2 := h.rv
  have o3 := h.mr
  have hne : ∀ b, b ≤ gv → some b ≠ (Value.slice K.A K.n K.c).ownBlock := fun b hb e => by have := (row_own h.krow e).1; omega
  have hbx := grown_box h2 h.bx (hne _ (Nat.le_refl _))
  have hv' : Row W' (gv + 1) 25 4 S cs := h.vrow.keep fun g _ hg => grown_other h.krow h2 hg (by decide)
  refine ⟨⟨?_, (grown_box h2 h.res (hne _ (by omega))).far (p := ⟨gv, 2, none⟩) (by simp only; omega) _, ?_, rowf (O := ⟨A', n, c'⟩) h1 (p := ⟨gv, 2, none⟩) (by simp only; omega) _, rowf hv' (p := ⟨gv, 2, none⟩) (by simp only; omega) _, ?_, h.lo, h.rv, h.mr⟩, (hd.grown h2 (hne _ (by omega))).far (by omega) _, hbx.c 2 rfl, hbx.f 2⟩
  · exact but_set (but_grown h.but h2 (fun b hb => hne b (by omega))) (by omega) 2 _
  · have := hbx.set 2 (.slice A' n c')
    simpa using this
  · refine JL.to (keep_set (fun b hp => by have := hp.1; omega)) _ _ (JL.to (grown_keep h2 (fun b hp => hp.2.1) (fun b hp hl => ⟨hp.1, ?_, hp.2.2⟩)) _ _ h.jl)
    intro e
    rcases h3 with h3 | h3
    · exact hp.2.1 (e.trans h3)
    · have := Option.some.inj (e.trans h3)
      omega
theorem LD.kid (h : LD w W g gr gv kd K ks S vs cs) {s l : Bs} {m : Nat} {e : Int} (hd : DS W g s l m e) {v : Jv} {x y z u : Value} (hv : JV W (PB gv K S) v (.agg #[x, y, z, u])) {A' : Option Addr} {n c' : Nat} (h1 : W'.ownsRow (gv + 1) 25 4 (.slice A' n c') n (cs ++ [x, y, z, u])) (h2 : W.grownBy W' (Value.slice S.A S.n S.c).ownBlock) (h3 : (Value.slice A' n c').ownBlock = (Value.slice S.A S.n S.c).ownBlock ∨ (Value.slice A' n c').ownBlock = some W.heap.size) :
    LD w (W'.setCell ⟨gv, 3, none⟩ (.slice A' n c')) g gr gv kd K ks ⟨A', n, c'⟩ (vs ++ [v]) (cs ++ [x, y, z, u]) ∧ DS (W'.setCell ⟨gv, 3, none⟩ (.slice A' n c')) g s l m e ∧ W'.cell? ⟨gv, 3, none⟩ = some (.slice S.A S.n S.c) ∧ W'.frozen? ⟨gv, 3, none⟩ = false := by
  have o1 := h.lo
  have o2 := h.rv
  have o3 := h.mr
  have hne : ∀ b, b ≤ gv → some b ≠ (Value.slice S.A S.n S.c).ownBlock := fun b hb e => by have := (row_own h.vrow e).1; omega
  have hbx := grown_box h2 h.bx (hne _ (Nat.le_refl _))
  have hk' : Row W' (gv + 1) 9 1 K (svs (ks.map tb)) := h.krow.keep fun g _ hg => grown_other h.vrow h2 hg (by decide)
  refine ⟨⟨?_, (grown_box h2 h.res (hne _ (by omega))).far (p := ⟨gv, 3, none⟩) (by simp only; omega) _, ?_, rowf hk' (p := ⟨gv, 3, none⟩) (by simp only; omega) _, rowf (O := ⟨A', n, c'⟩) h1 (p := ⟨gv, 3, none⟩) (by simp only; omega) _, ?_, h.lo, h.rv, h.mr⟩, (hd.grown h2 (hne _ (by omega))).far (by omega) _, hbx.c 3 rfl, hbx.f 3⟩
  · exact but_set (but_grown h.but h2 (fun b hb => hne b (by omega))) (by omega) 3 _
  · have := hbx.set 3 (.slice A' n c')
    simpa using this
  · refine JL.to (keep_set (fun b hp => by have := hp.1; omega)) _ _ (JL.to (grown_keep h2 (fun b hp => hp.2.2) (fun b hp hl => ⟨hp.1, hp.2.1, ?_⟩)) _ _ (h.jl.app hv))
    intro e
    rcases h3 with h3 | h3
    · exact hp.2.2 (e.trans h3)
    · have := Option.some.inj (e.trans h3)
      omega
/-- a kid that was read lies apart from the rows -/
theorem LD.apart (h : LD w W g gr gv kd K ks S vs cs) {v : Jv} {X : Value} (hv : JV W' (fun b => W.heap.size ≤ b) v X) : JV W' (PB gv K S) v X := by
  refine JV.to (Keeps.same (fun b hp hl => ⟨?_, fun e => ?_, fun e => ?_⟩)) _ _ hv
  · have := h.bx.lt
    omega
  · have := (row_own h.krow e).2
    omega
  · have := (row_own h.vrow e).2
    omega
/-- the list that was read stands for its value -/
theorem LD.jv (h : LD w W g gr gv kd K ks S vs cs) : JV W (fun b => gv + 1 ≤ b) (.mk kd [] ks vs) (jx (.mk kd [] ks vs) K S) := by
  rw [JV]
  have hk := h.krow.1
  have hv := h.vrow.1
  refine ⟨K, S, cs, rfl, row_slp h.krow (by rw [hk]) (fun e => ?_), row_slp h.vrow (by rw [hv]) (fun e => ?_), JL.to (Keeps.same (fun b hp _ => hp.1)) _ _ h.jl⟩
  · rw [e, Nat.zero_mul] at hk
    exact List.eq_nil_of_length_eq_zero hk
  · rw [e, Nat.zero_mul] at hv
    exact List.eq_nil_of_length_eq_zero hv
/-- it is handed back -/
theorem LD.ends (h1 : LD w W g gr gv kd K ks S vs cs) {s l : Bs} {m : Nat} {e : Int} (r : DS W g s l m e) (u0 u1 u2 u3 : Value) :
    JV ((((W.setCell ⟨gr, 0, none⟩ u0).setCell ⟨gr, 1, none⟩ u1).setCell ⟨gr, 2, none⟩ u2).setCell ⟨gr, 3, none⟩ u3) (fun b => w.heap.size ≤ b) (.mk kd [] ks vs) (jx (.mk kd [] ks vs) K S) ∧ But g w ((((W.setCell ⟨gr, 0, none⟩ u0).setCell ⟨gr, 1, none⟩ u1).setCell ⟨gr, 2, none⟩ u2).setCell ⟨gr, 3, none⟩ u3) ∧ DS ((((W.setCell ⟨gr, 0, none⟩ u0).setCell ⟨gr, 1, none⟩ u1).setCell ⟨gr, 2, none⟩ u2).setCell ⟨gr, 3, none⟩ u3) g s l m e ∧ Box ((((W.setCell ⟨gr, 0, none⟩ u0).setCell ⟨gr, 1, none⟩ u1).setCell ⟨gr, 2, none⟩ u2).setCell ⟨gr, 3, none⟩ u3) gr 25 #[u0, u1, u2, u3] := by
  have e1 := h1.lo
  have e2 := h1.rv
  have e3 := h1.mr
  have hP : ∀ b, gv + 1 ≤ b → b ≠ gr := fun b hp => by omega
  have j := JV.to (keep_set (i := 3) (u := u3) hP) _ _ (JV.to (keep_set (i := 2) (u := u2) hP) _ _ (JV.to (keep_set (i := 1) (u := u1) hP) _ _ (JV.to (keep_set (i := 0) (u := u0) hP) _ _ h1.jv)))
  exact ⟨JV.to (Keeps.same (fun b hp _ => by omega)) _ _ j, but_set4 h1.but (by omega) _ _ _ _, ds_far4 r (by omega) _ _ _ _, box_set4 h1.res _ _ _ _⟩
end
/-- the empty list or object, as it is laid -/
theorem ld_new {w W W2 : World} {g gr gv : Nat} {kd : Int} (hb : Below w.heap.size w W) (h2 : Box W gr 25 #[.int .i64 0, .string ⟨#[]⟩, .slice none 0 0, .slice none 0 0]) (hgr : gr = w.heap.size) (hgv : gv = W.heap.size) (hsz : W.heap.size = w.heap.size + 1) (hg : g < w.heap.size)
    (hW : W2 = W.alloc (.cells #[.int .i64 kd, .string ⟨#[]⟩, .slice none 0 0, .slice none 0 0] 25)) :
    LD w W2 g gr gv kd ⟨none, 0, 0⟩ [] ⟨none, 0, 0⟩ [] [] := by
  have hn := Box.new W 25 #[.int .i64 kd, .string ⟨#[]⟩, .slice none 0 0, .slice none 0 0]
  rw [← hgv] at hn
  have ba := ba1 W (.cells #[.int .i64 kd, .string ⟨#[]⟩, .slice none 0 0, .slice none 0 0] 25)
  subst hW
  exact ⟨But.of (hb.trans (ba.mono (by omega))), h2.up ba, hn, World.ownsRow_nil _ _ _ _, World.ownsRow_nil _ _ _ _, by rw [JL], by omega, by omega, hg⟩
/-- what is told of value, for texts of at most so many bytes -/
def VdAll (g : Nat) (s : Bs) (N : Nat) : Prop := ∀ (o m : Nat) (l : Bs) (w : World), l.length ≤ N → o ≤ 16 → m ≤ 500 → DS w g s l m 0 → Calls Tryz.prog 31 #[.pointer (some ⟨g, 0, none⟩), .int .i64 (o : Int)] w (VdE g s (runU (.val o) m l) w)
/-! is and need, as lists -/
theorem is_false {c : UInt8} {l : Bs} (h : (isD c l).1 = false) : (isD c l).2 = skipB l := by
  unfold isD at h ⊢
  cases hs : skipB l with
  | nil => rfl
  | cons x r =>
    rw [hs] at h
    simp only at h ⊢
    by_cases hx : x = c
    · rw [if_pos hx] at h
      cases h
    · rw [if_neg hx]
theorem is_skip (c : UInt8) (l : Bs) : isD c (skipB l) = isD c l := by unfold isD; rw [skip_skip]
theorem is_true {c : UInt8} {l : Bs} (h : (isD c l).1 = true) : skipB l = c :: (isD c l).2 := by
  unfold isD at h ⊢
  cases hs : skipB l with
  | nil => rw [hs] at h; cases h
  | cons x r =>
    rw [hs] at h
    simp only at h ⊢
    by_cases hx : x = c
    · rw [if_pos hx, hx]
    · rw [if_neg hx] at h
      cases h
theorem is_le (c : UInt8) (l : Bs) : (isD c l).2.length ≤ l.length := by
  have h := skip_le l
  unfold isD
  cases hs : skipB l with
  | nil => exact Nat.zero_le _
  | cons x r =>
    rw [hs] at h
    simp only
    split
    · simp only [List.length_cons] at h
      simp only
      omega
    · exact h
theorem is_head {c : UInt8} (hc : blankB c = false) (t : Bs) : isD c (c :: t) = (true, t) := by
  unfold isD
  rw [skipB, hc]
  simp
/-- a mark, the other one, or neither -/
theorem end_is {α : Type} (a b : UInt8) (l : Bs) (X : Bs → α) (Y : Bs → α) (Z : Bs → α) (z : α) (hz : z = Z []) :
    (match skipB l with | [] => z | c :: r => if c = a then X r else if c = b then Y r else Z (c :: r)) = if (isD a l).1 = true then X (isD a l).2 else if (isD b (isD a l).2).1 = true then Y (isD b (isD a l).2).2 else Z (isD b (isD a l).2).2 := by
  cases h1 : (isD a l).1 with
  | true =>
    rw [is_true h1]
    simp
  | false =>
    rw [is_false h1, is_skip]
    cases h2 : (isD b l).1 with
    | true =>
      have h3 := is_true h2
      have hn : b ≠ a := by
        rintro rfl
        rw [h1] at h2
        cases h2
      rw [h3]
      simp [hn]
    | false =>
      rw [is_false h2]
      cases hs : skipB l with
      | nil => simp [hz]
      | cons c r =>
        have ha : c ≠ a := by
          intro e
          unfold isD at h1
          rw [hs] at h1
          simp [e] at h1
        have hb : c ≠ b := by
          intro e
          unfold isD at h2
          rw [hs] at h2
          simp [e] at h2
        simp [ha, hb]
theorem runU_items_skip (o : Nat) (acc : List Jv) (m : Nat) (l : Bs) : runU (.items o acc) m (skipB l) = runU (.items o acc) m l := by
  rw [runU_step, runU_step (.items o acc) m l]
  have h : runU (.val (o + 1)) m (skipB l) = runU (.val (o + 1)) m l := by
    rw [runU_step, runU_step (.val (o + 1)) m l]
    unfold stepJ
    simp only [skip_skip]
  unfold stepJ
  simp only [h]
theorem runU_mems_skip (o : Nat) (ks : List Bs) (acc : List Jv) (m : Nat) (l : Bs) : runU (.mems o ks acc) m (skipB l) = runU (.mems o ks acc) m l := by
  rw [runU_step, runU_step (.mems o ks acc) m l]
  unfold stepJ
  simp only [skip_skip]
theorem listR_is (o m : Nat) (t : Bs) : listR o m t = if (isD 93 t).1 = true then .ok (.mk 6 [] [] [], m, (isD 93 t).2) else runU (.items o []) m (isD 93 t).2 := by
  unfold listR
  cases h : (isD 93 t).1 with
  | true =>
    rw [is_true h]
    simp
  | false =>
    rw [is_false h]
    simp only [Bool.false_eq_true, if_false]
    cases hs : skipB t with
    | nil => rfl
    | cons d r =>
      have hd : d ≠ 93 := by
        intro e
        unfold isD at h
        rw [hs] at h
        simp [e] at h
      simp [hd]
theorem objR_is (o m : Nat) (t : Bs) : objR o m t = if (isD 125 t).1 = true then .ok (.mk 7 [] [] [], m, (isD 125 t).2) else runU (.mems o [] []) m (isD 125 t).2 := by
  unfold objR
  cases h : (isD 125 t).1 with
  | true =>
    rw [is_true h]
    simp
  | false =>
    rw [is_false h]
    simp only [Bool.false_eq_true, if_false]
    cases hs : skipB t with
    | nil => rfl
    | cons d r =>
      have hd : d ≠ 125 := by
        intro e
        unfold isD at h
        rw [hs] at h
        simp [e] at h
      simp [hd]
/-- one round of a list -/
theorem items_is (o : Nat) (acc : List Jv) (m : Nat) (l : Bs) : runU (.items o acc) m l = match runU (.val (o + 1)) m l with
    | .error e => .error e
    | .ok (v, m', l') => if (isD 44 l').1 = true then runU (.items o (acc ++ [v])) m' (isD 44 l').2 else if (isD 93 (isD 44 l').2).1 = true then .ok (.mk 6 [] [] (acc ++ [v]), m', (isD 93 (isD 44 l').2).2) else .error (31, (isD 93 (isD 44 l').2).2) := by
  rw [runU_step]
  unfold stepJ
  simp only
  cases runU (.val (o + 1)) m l with
  | error e => rfl
  | ok q =>
    obtain ⟨v, m', l'⟩ := q
    simp only
    exact end_is 44 93 l' (fun r => runU (.items o (acc ++ [v])) m' r) (fun r => .ok (.mk 6 [] [] (acc ++ [v]), m', r)) (fun r => .error (31, r)) _ rfl
/-- one round of an object -/
theorem mems_is (o : Nat) (ks : List Bs) (acc : List Jv) (m : Nat) (l : Bs) : runU (.mems o ks acc) m l = match textR (skipB l) with
    | .error e => .error e
    | .ok (k, l2) => if ks.contains k = true then .error (31, skipB l) else if (needD 58 l2).2 ≠ 0 then .error ((needD 58 l2).2, (needD 58 l2).1) else match runU (.val (o + 1)) m (needD 58 l2).1 with
      | .error e => .error e
      | .ok (v, m', l') => if (isD 44 l').1 = true then runU (.mems o (ks ++ [k]) (acc ++ [v])) m' (isD 44 l').2 else if (isD 125 (isD 44 l').2).1 = true then .ok (.mk 7 [] (ks ++ [k]) (acc ++ [v]), m', (isD 125 (isD 44 l').2).2) else .error (31, (isD 125 (isD 44 l').2).2) := by
  rw [runU_step]
  unfold stepJ
  simp only
  cases textR (skipB l) with
  | error e => rfl
  | ok q =>
    obtain ⟨k, l2⟩ := q
    simp only
    by_cases hk : ks.contains k = true
    · rw [if_pos hk, if_pos hk]
    · rw [if_neg hk, if_neg hk]
      have hnd : needD 58 l2 = if (isD 58 l2).1 = true then ((isD 58 l2).2, 0) else ((isD 58 l2).2, 31) := rfl
      cases h : (isD 58 l2).1 with
      | false =>
        rw [h] at hnd
        simp only [Bool.false_eq_true, if_false] at hnd
        rw [hnd, is_false h]
        simp only
        rw [if_pos (by decide)]
        cases hs : skipB l2 with
        | nil => rfl
        | cons d r =>
          have hd : d ≠ 58 := by
            intro e
            unfold isD at h
            rw [hs] at h
            simp [e] at h
          simp [hd]
      | true =>
        rw [h] at hnd
        simp only [if_true] at hnd
        rw [hnd, is_true h]
        simp only
        rw [if_neg (by decide), if_neg (by decide)]
        cases runU (.val (o + 1)) m (isD 58 l2).2 with
        | error e => rfl
        | ok q =>
          obtain ⟨v, m', l'⟩ := q
          simp only
          exact end_is 44 125 l' (fun r => runU (.mems o (ks ++ [k]) (acc ++ [v])) m' r) (fun r => .ok (.mk 7 [] (ks ++ [k]) (acc ++ [v]), m', r)) (fun r => .error (31, r)) _ rfl
end Go.Proofs.YtnkhghjcfhpeiaaGreatDoor
