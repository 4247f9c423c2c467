/-
  The walk of message's own read.
-/
import Derived.Test.YtdlihfbaepjliaaGreatDoorJPr
import Derived.Test.YtdlihfbaepjliaaGreatDoorJRefS
import Derived.Deep.CutBlock
namespace Go.Proofs.YtdlihfbaepjliaaGreatDoor
open Go.RowKit
attribute [local go_sem ↓] exec_ldR exec_ldH exec_ldK exec_ldM exec_stR exec_stH exec_stK exec_stM exec_bdM exec_bsM
attribute [local go_sem] run_bdM run_bsM run_ldR run_ldH run_ldK run_ldM run_stR run_stH run_stK run_stM ldO_at stO_at rcs_size hcs_size kcs_size mca_size rcs_one hcs_one kcs_one mca_one rcs_oneN hcs_oneN kcs_oneN mca_oneN rcs_now rcs_ck mca_head hpat_drew hpat_new
attribute [local go_sem ↓] exec_stP exec_bdP
attribute [local go_sem] run_stP run_bdP pcs_size pcs_one pcs_oneN pcs_rd pcs_now pcs_ck pspl_now pspl_ck pspl_rd

theorem one_bad {R : Rr} {ch : UInt8} (he : R.e = 0) (h : (oneR R ch).e ≠ 0) : wholeR (oneR R ch) = false := by
  have hf : ∀ (r : Rr) e, wholeR (failR r e) = false := fun r e => rfl
  revert h
  unfold oneR
  split
  · split
    · unfold framedR
      split
      · exact fun _ => hf _ _
      · split
        · exact fun _ => hf _ _
        · exact fun h => absurd he h
    · split
      · exact fun _ => hf _ _
      · exact fun h => absurd he h
  · split
    · split
      · exact fun _ => hf _ _
      · exact fun h => absurd he h
    · split
      · exact fun _ => hf _ _
      · exact fun h => absurd he h
/-- a step is made -/
def SEnds (g B : Nat) (P : Nat → Prop) (A0 : Option Addr) (f0 : List Fd) (Z : Rr × List Mg) (w : World) (E : Ending) (w' : World) : Prop :=
  E = .returned (.tuple #[]) ∧ ∃ (S O : Sli) (ms : List MS7), PS w' g Z.1 S O ∧ Mo w' B P O ms ∧ (∀ k, P k → Away k S.A (mkF Z.1.now.fs)) ∧ Apt O S (mkF Z.1.now.fs) ∧ ms.map (·.1) = Z.2 ∧ Loc w A0 f0 S.A (mkF Z.1.now.fs) ∧ w.heap.size ≤ w'.heap.size ∧ ∀ (a : World), Below B a w → Below B a w'
theorem Mo.but {w W : World} {B g : Nat} {P : Nat → Prop} {R : Rr} {S O : Sli} {ms : List MS7} (h : Mo w B P O ms) (hP : P g) (hb : But g w W) (hg : PS w g R S O) : Mo W B P O ms :=
  ⟨h.row.but hb hg.bx (by decide), fun x hx => (h.fs x hx).keep (fun hne ad hA o => World.cell?_of_block (w := w) (hb.block ad.block ((h.fs x hx).lt hne hA) (h.aw x hx g hP hne ad hA))) hb.size, h.aw, h.ap⟩
theorem apt_loc {W : World} {B : Nat} {P : Nat → Prop} {O S S' : Sli} {ms : List MS7} {fs fs' : List Fd} (h : Mo W B P O ms) (ha : Apt O S fs) (hL : Loc W S.A fs S'.A fs') : Apt O S' fs' := fun hne ad o hA hO => by
  rcases hL ad hA with h1 | ⟨h1, h2⟩
  · rcases h.row.2 with ⟨e, _⟩ | ⟨gb, cap, cur, e, _, hgb, _⟩
    · simp only [Value.slice.injEq] at e
      rw [e.1] at hO
      cases hO
    · simp only [Value.slice.injEq] at e
      rw [e.1] at hO
      obtain rfl := Option.some.inj hO
      have := (Array.getElem?_eq_some_iff.1 hgb).1
      simp only
      omega
  · subst h2
    exact ha hne ad o h1 hO
theorem PS.grown {W W' : World} {g B : Nat} {R : Rr} {S O : Sli} {ys : List Value} (h : PS W g R S O) (hr : Row W B 49 7 O ys) (hg : W.grownBy W' (Value.slice O.A O.n O.c).ownBlock) (ha : Apt O S (mkF R.now.fs)) (hm : Mx W') : PS W' g R S O :=
  ⟨(grown_other hr hg h.bx (by decide)).trans h.bx, h.fs.grown hg ha, h.aw, hm, h.gx⟩
/-- the messages' slice is put into its cell -/
theorem PS.slice {W : World} {g : Nat} {R : Rr} {S O : Sli} (h : PS W g R S O) (T : Sli) : PS (W.setRow g (pcs R S T)) g R S T :=
  ⟨box_row _ h.bx, Fs.row h.fs h.aw _, h.aw, h.mx.imp fun _ hm => (cell_setRow_other _ _ _ _ h.gx).trans hm, h.gx⟩
/-- the library's variable lies below -/
theorem mx_grown {W W' : World} {B : Nat} {O : Sli} {ys : List Value} (h : Mx W) (hr : Row W B 49 7 O ys) (hg : W.grownBy W' (Value.slice O.A O.n O.c).ownBlock) (hB : 3 < B) : Mx W' := by
  obtain ⟨m, hm⟩ := h
  refine ⟨m, (World.cell?_of_block (w := W) (hg.block _ (World.block_lt_of_cell? W _ hm) ?_)).trans hm⟩
  rw [own_of]
  intro e
  rcases hr.2 with ⟨e1, _⟩ | ⟨gb, cap, cur, e1, hb, _⟩
  · simp only [Value.slice.injEq] at e1
    rw [e1.1] at e
    cases e
  · simp only [Value.slice.injEq] at e1
    rw [e1.1] at e
    have := Option.some.inj e
    simp only at this
    omega
theorem heldP {W : World} {g : Nat} {R : Rr} {S O : Sli} (h : Box W g 75 (pcs R S O)) : ldO 6 10 (hpat W g) = some (hcs R.now S) ∧ W.cell? ⟨g, 5, none⟩ = some (.string (tb R.b)) := by
  refine ⟨?_, h.c 5 rfl⟩
  rw [show hpat W g = some (.cells (pcs R S O) 75 (0, 0)) from h, ldO_at, pcs_size, if_pos (by decide), if_neg (by decide), pcs_now]
/-- a message was put to the others -/
def CutA (g B : Nat) (P : Nat → Prop) (R2 : Rr) (S2 : Sli) (n : Nat) (ms : List MS7) (w w' : World) : Prop := ∃ (A' : Option Addr) (c' : Nat), PS w' g R2 S2 ⟨A', n, c'⟩ ∧ Mo w' B P ⟨A', n, c'⟩ ms ∧ (∀ (a : World), Below B a w → Below B a w') ∧ w.heap.size ≤ w'.heap.size
/-- a byte was taken -/
def CutI (g : Nat) (R2 : Rr) (S O : Sli) (f0 : List Fd) (w w' : World) : Prop := ∃ S2 : Sli, PS w' g R2 S2 O ∧ But g w w' ∧ Loc w S.A f0 S2.A (mkF R2.now.fs)
set_option maxRecDepth 100000 in
set_option maxHeartbeats 4000000 in
theorem pread_c (R : Rr) (S O : Sli) (ms : List MS7) (ch : UInt8) (g B : Nat) (w : World) (h : PS w g R S O) (P : Nat → Prop) (hPg : P g) (hPS : ∀ k, P k → Away k S.A (mkF R.now.fs)) (hPl : ∀ k, P k → k < w.heap.size) (hM : Mo w B P O ms) (ha : Apt O S (mkF R.now.fs)) (he : R.e = 0) (hB : 3 < B) (hBg : B ≤ g) (hBw : B ≤ w.heap.size) (hh : R.hd.length ≤ 4000) (hbb : R.b.length ≤ 4611686018427387000) (hn : ms.length ≤ 1000000) : Calls Tryz.prog 39 #[.pointer (some ⟨g, 0, none⟩), .string (tb [ch])] w (SEnds g B P S.A (mkF R.now.fs) (stepR R (ms.map (·.1)) ch) w) := by
  obtain ⟨Z, hZ⟩ : ∃ Z, stepR R (ms.map (·.1)) ch = Z := ⟨_, rfl⟩
  rw [hZ]
  obtain ⟨R2, hR2⟩ : ∃ R2, oneR R ch = R2 := ⟨_, rfl⟩
  have HSt : Hid (Z = if R2.e = 0 ∧ wholeR R2 = true then (newR R2.a R2.q, ms.map (·.1) ++ [⟨R2.now, R2.b⟩]) else (R2, ms.map (·.1))) := Lib.hid (by rw [← hZ, ← hR2]; rfl)
  have HBad : Hid (R2.e ≠ 0 → wholeR R2 = false) := Lib.hid (fun h => by rw [← hR2] at h ⊢; exact one_bad he h)
  have HOne : Hid (R2 = if R.k = 0 then
    (if ends4 (R.hd ++ [ch]) = true then framedR { R with hd := R.hd ++ [ch] } else if 2004 ≤ R.hd.length + 1 then failR R 2 else { R with hd := R.hd ++ [ch] })
  else if R.k = 3 then
    (if (feedC R.ck [ch]).2.2.2 ≠ 0 then failR R (feedC R.ck [ch]).2.2.2 else { R with ck := (feedC R.ck [ch]).1, b := R.b ++ (feedC R.ck [ch]).2.2.1 })
  else if R.b.length = 4000 then failR R 2 else { R with b := R.b ++ [ch] }) := Lib.hid (by rw [← hR2]; rfl)
  clear hZ hR2 he
  have c3 : w.cell? ⟨g, 3, none⟩ = some (.int .i64 R.k) := h.bx.c 3 rfl
  go_enter Tryz.func39, Tryz.ntmps39
  have hcs : R.k = 0 ∨ R.k = 3 ∨ (R.k ≠ 0 ∧ R.k ≠ 3) := by omega
  go_upto_block 0 with fail
  go_cut [] (CutI g R2 S O (mkF R.now.fs) w)
  case first =>
    rcases hcs with hk | hk | ⟨hk, hk3⟩
    · rw [if_pos hk] at HOne
      have b0 : (R.k == 0) = true := beq_iff_eq.2 hk
      clear hk
      go_wp2_with fail
      refine (phead_c R S O ch g w h hh).mono ?_
      rintro E w2 ⟨rfl, S2, h2, hB2, hL2⟩
      go_wp2_with fail
      go_meet
      rw [HOne.out]
      exact ⟨S2, h2, hB2, hL2⟩
    · rw [if_neg (by omega), if_pos hk] at HOne
      have b0 : (R.k == 0) = false := beq_eq_false_iff_ne.2 (by omega)
      have b3 : (R.k == 3) = true := beq_iff_eq.2 hk
      clear hk
      go_wp2_with fail
      refine (pchunk_c R S O ch g w h hbb).mono ?_
      rintro E w2 ⟨rfl, S2, h2, hB2, hL2⟩
      go_wp2_with fail
      go_meet
      rw [HOne.out]
      exact ⟨S2, h2, hB2, hL2⟩
    · rw [if_neg hk, if_neg hk3] at HOne
      have b0 : (R.k == 0) = false := beq_eq_false_iff_ne.2 hk
      have b3 : (R.k == 3) = false := beq_eq_false_iff_ne.2 hk3
      go_wp2_with fail
      refine (pplain_c R S O ch g w h hbb).mono ?_
      rintro E w2 ⟨rfl, S2, h2, hB2, hL2⟩
      go_wp2_with fail
      go_meet
      rw [HOne.out]
      exact ⟨S2, h2, hB2, hL2⟩
  case rest =>
    obtain ⟨S2, h2, hB2, hL2⟩ := hcut
    have hM2 := hM.but hPg hB2 h
    have ha2 := apt_loc hM ha hL2
    have HLw := Lib.hid hL2
    have HP2 : Hid (∀ k, P k → Away k S2.A (mkF R2.now.fs)) := Lib.hid (fun k hk hne ad hA => by
      rcases hL2 ad hA with q | ⟨q1, q2⟩
      · have := hPl k hk
        omega
      · exact hPS k hk (q2 ▸ hne) ad q1)
    clear hPS hPl
    have hBel : Hid (∀ (a : World), Below B a w → Below B a wc) := Lib.hid (fun a hb => But.below hb hB2 hBg hBw)
    have HSz := Lib.hid hB2.size
    clear h hM ha hL2 hB2 c3 HOne hcs
    go_wp2_with fail
    refine (pcomplete_c R2 S2 O g _ h2).mono ?_
    rintro E w3 ⟨rfl, hb3⟩
    have h3 := h2.up hb3
    have hM3 := hM2.up hb3
    have hBel3 : Hid (∀ (a : World), Below B a w → Below B a w3) := Lib.hid (fun a hb => (hBel.out a hb).trans (hb3.mono (by have := HSz.out; omega)))
    have HS3 : Hid (w.heap.size ≤ w3.heap.size) := Lib.hid (Nat.le_trans HSz.out hb3.size)
    clear h2 hM2 hBel HSz hb3
    cases hwh : wholeR R2 with
    | false =>
      have HV : Hid (Z = (R2, ms.map (·.1))) := Lib.hid (by rw [HSt.out, hwh, if_neg (fun h => by cases h.2)])
      clear hwh HSt
      go_wp2
      refine ⟨rfl, .tuple #[], end_unit rfl, ?_⟩
      rw [HV.out]
      exact ⟨rfl, S2, O, ms, h3, hM3, HP2.out, ha2, rfl, HLw.out, HS3.out, hBel3.out⟩
    | true =>
      have he2 : R2.e = 0 := Classical.byContradiction (fun hne => by have := HBad.out hne; rw [hwh] at this; cases this)
      have HV : Hid (Z = (newR R2.a R2.q, ms.map (·.1) ++ [⟨R2.now, R2.b⟩])) := Lib.hid (by rw [HSt.out, if_pos ⟨he2, hwh⟩])
      clear hwh HSt HBad he2
      obtain ⟨iM, hi, hz0, hz1, hz2⟩ := info_parts infoMz
      go_upto_region 7 with fail
      have hbd : Box w3.drew g 75 (pcs R2 S2 O) := h3.bx
      have c17 : w3.drew.cell? ⟨g, 17, none⟩ = some (.slice O.A O.n O.c) := hbd.c 17 rfl
      have hdA : Below w3.heap.size w3 (w3.alloc (.cells (mca ⟨R2.now, R2.b⟩ S2) 49)).drew := (ba1 w3 _).drew
      have h4 := h3.up hdA
      have hM4 := hM3.up hdA
      have c17b : (w3.alloc (.cells (mca ⟨R2.now, R2.b⟩ S2) 49)).cell? ⟨g, 17, none⟩ = some (.slice O.A O.n O.c) := h4.bx.c 17 rfl
      have HSrc : Hid (Src ((w3.alloc (.cells (mca ⟨R2.now, R2.b⟩ S2) 49)).drew) 7 (some ⟨w3.heap.size, 0, none⟩) 1 1 (mcs (⟨R2.now, R2.b⟩, S2))) := Lib.hid (by
        have := src_one w3 49 (mcs (⟨R2.now, R2.b⟩, S2)) 1 7 rfl
        have e : Src (w3.alloc (.cells (mca ⟨R2.now, R2.b⟩ S2) 49)) 7 (some ⟨w3.heap.size, 0, none⟩) 1 1 (mcs (⟨R2.now, R2.b⟩, S2)) := by simpa [mcs] using this
        exact e)
      have HOn2 : Hid (∀ u ∈ mcs (⟨R2.now, R2.b⟩, S2), u.oneCell' = true) := Lib.hid (fun u hu => (Array.all_eq_true_iff_forall_mem.1 (mca_one ⟨R2.now, R2.b⟩ S2)) u (by simpa [mcs] using hu))
      have hOn : O.n ≤ 1000000 := by have := hM4.len; omega
      have hBB : B ≤ ((w3.alloc (.cells (mca ⟨R2.now, R2.b⟩ S2) 49)).drew).heap.size := by have := HS3.out; have := hdA.size; omega
      go_cut [] (CutA g B P R2 S2 (O.n + 1) (ms ++ [(⟨R2.now, R2.b⟩, S2)]) w)
      case first =>
        obtain ⟨hld, c5⟩ := heldP h3.bx
        go_region_law (first
            | (refine step_app _ (by rfl) _ _ 44 (by rfl) B 49 iM _ 7 104 (by decide) Tryz.underlying44 hi hz0 hz1 hz2 rfl (.slice O.A O.n O.c) O.n (mvs ms) (by rfl) hM4.row (some ⟨w3.heap.size, 0, none⟩) 1 1 (mcs (⟨R2.now, R2.b⟩, S2)) (by rfl) HSrc.out HOn2.out ?_ ?_ hBB (O.n + 1) rfl ?_; (unfold maxLen; omega); omega; intro A' c' w4 q1 q2 q3; have h5 : PS w4 g R2 S2 O := h4.grown hM4.row q2 ha2 (mx_grown h4.mx hM4.row q2 hB); have e17 : w4.setCell ⟨g, 17, none⟩ (.slice A' ((O.n + 1 : Nat)) c') = w4.setRow g (pcs R2 S2 ⟨A', O.n + 1, c'⟩) := pset_m h5.bx ⟨A', O.n + 1, c'⟩; have h6 := h5.slice ⟨A', O.n + 1, c'⟩; have c174 : w4.cell? ⟨g, 17, none⟩ = some (.slice O.A O.n O.c) := h5.bx.c 17 rfl; have d174 := h5.bx.f 17)
            | fail)
        all_goals
          have hB6 : ∀ (a : World), Below B a w → Below B a (w4.setRow g (pcs R2 S2 ⟨A', O.n + 1, c'⟩)) := fun a hb => below_row (grown_base hM4.row q2 ((hBel3.out a hb).trans (hdA.mono (by have := HS3.out; omega))) (Nat.le_refl _) hBB) hBg _
          have hM5 := mo_app (x := (⟨R2.now, R2.b⟩, S2)) hM4 q1 q2 q3 h4.fs HP2.out ha2
          have hM6 := hM5.row_set h5.bx (by decide) hPg (pcs R2 S2 ⟨A', O.n + 1, c'⟩)
          have HS6 : w.heap.size ≤ (w4.setRow g (pcs R2 S2 ⟨A', O.n + 1, c'⟩)).heap.size := by rw [row_size]; exact Nat.le_trans HS3.out (Nat.le_trans hdA.size q2.size)
          have HC := Lib.hid (show CutA g B P R2 S2 (O.n + 1) (ms ++ [(⟨R2.now, R2.b⟩, S2)]) w (w4.setRow g (pcs R2 S2 ⟨A', O.n + 1, c'⟩)) from ⟨A', c', h6, hM6, hB6, HS6⟩)
          clear hB6 hM5 hM6 HS6 e17 c174 d174 h5 h6 q1 q2 q3
          go_wp2_with fail
          go_meet
          exact HC.out
      case rest =>
        obtain ⟨A', c', h6, hM6, hB6, HS6⟩ := hcut
        have HB6 := Lib.hid hB6
        have HS7 := Lib.hid HS6
        clear hB6 HS6 c17 c17b hdA h4 hM4 HSrc HOn2 hBB hbd h3 hM3 hBel3 HS3 ha2 hi hz0 hz1 hz2 iM
        have c0 : wc.cell? ⟨g, 0, none⟩ = some (.bool R2.a) := h6.bx.c 0 rfl
        have c1 : wc.cell? ⟨g, 1, none⟩ = some (.string (tb R2.q)) := h6.bx.c 1 rfl
        go_upto_region 8 with fail
        go_region_held3 (fun W' => W'.cell? ⟨g, 0, none⟩ = some (.bool R2.a) ∧ W'.cell? ⟨g, 1, none⟩ = some (.string (tb R2.q)))
          (first | exact ⟨c0, c1⟩ | exact ⟨hbx2.c 0 rfl, hbx2.c 1 rfl⟩ | exact ⟨(box_row (pcs (newR R2.a R2.q) ⟨none, 0, 0⟩ ⟨A', O.n + 1, c'⟩) hbx2).c 0 rfl, (box_row (pcs (newR R2.a R2.q) ⟨none, 0, 0⟩ ⟨A', O.n + 1, c'⟩) hbx2).c 1 rfl⟩ | fail)
          (first
            | (go_at_call 20; refine (mnew_c R2.a R2.q _).mono ?_; rintro E w2 ⟨rfl, hb2⟩; have hd2 : Below wc.heap.size wc w2 := bon ((Below.refl wc.heap.size wc).drew) hb2; have hbx2 : Box w2 g 75 (pcs R2 S2 ⟨A', O.n + 1, c'⟩) := h6.bx.up hd2; have hbg2 : hpat w2 g = some (.cells (pcs R2 S2 ⟨A', O.n + 1, c'⟩) 75 (0, 0)) := hbx2)
            | fail)
        rename_i hHeld
        have h7 : PS (w2.setRow g (pcs (newR R2.a R2.q) ⟨none, 0, 0⟩ ⟨A', O.n + 1, c'⟩)) g (newR R2.a R2.q) ⟨none, 0, 0⟩ ⟨A', O.n + 1, c'⟩ := (h6.up hd2).row (fs_zero _) (fun hne => absurd rfl hne)
        have hM7 := (hM6.up hd2).row_set hbx2 (by decide) hPg (pcs (newR R2.a R2.q) ⟨none, 0, 0⟩ ⟨A', O.n + 1, c'⟩)
        have HB7 : Hid (∀ (a : World), Below B a w → Below B a (w2.setRow g (pcs (newR R2.a R2.q) ⟨none, 0, 0⟩ ⟨A', O.n + 1, c'⟩))) := Lib.hid (fun a hb => below_row ((HB6.out a hb).trans (hd2.mono (by have := HS7.out; omega))) hBg _)
        have HS8 : Hid (w.heap.size ≤ (w2.setRow g (pcs (newR R2.a R2.q) ⟨none, 0, 0⟩ ⟨A', O.n + 1, c'⟩)).heap.size) := Lib.hid (by rw [row_size]; exact Nat.le_trans HS7.out hd2.size)
        clear hHeld c0 c1 hbx2 hbg2 hb2 hd2 h6 hM6
        go_wp2
        refine ⟨rfl, .tuple #[], end_unit rfl, ?_⟩
        rw [HV.out]
        exact ⟨rfl, ⟨none, 0, 0⟩, ⟨A', O.n + 1, c'⟩, ms ++ [(⟨R2.now, R2.b⟩, S2)], h7, hM7, fun k _ hne => absurd rfl hne, fun hne => absurd rfl hne, by rw [List.map_append]; rfl, loc_none _ _ _ _, HS8.out, HB7.out⟩
end Go.Proofs.YtdlihfbaepjliaaGreatDoor
