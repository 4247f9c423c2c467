/-
  The program's all; the deferred closure of Parse; Parse.
-/
import Derived.Test.YtnkhghjcfhpeiaaGreatDoorPm
import Derived.Recover
import Derived.Defers
import Derived.Test.YtnkhghjcfhpeiaaGreatDoorJNBits
import Derived.Test.YtnkhghjcfhpeiaaGreatDoorJFm
import Derived.Test.YtnkhghjcfhpeiaaGreatDoorJQu
namespace Go.Proofs.YtnkhghjcfhpeiaaGreatDoor
open Go.RowKit
/-- what the whole text gives -/
def allR (s : Bs) : Except (Int × Bs) Jv := match runU (.val 0) 0 s with
  | .error e => .error e
  | .ok (v, _, l) => match skipB l with
    | [] => .ok v
    | c :: r => .error (31, c :: r)
def AllEnds (g : Nat) (s : Bs) (w : World) (res : Except (Int × Bs) Jv) (E : Ending) (w' : World) : Prop := match res with
  | .error (e, r) => Thr g s e r w E w'
  | .ok v => ∃ K S : Sli, E = .returned (jx v K S) ∧ JV w' (fun b => w.heap.size ≤ b) v (jx v K S) ∧ But g w w'
set_option maxRecDepth 100000 in
set_option maxHeartbeats 4000000 in
theorem all_any (g h : Nat) (s : Bs) (w : World) (hs : s.length ≤ 999999) (r : RS w g h s s 0 0) : Calls Tryz.prog 25 #[.pointer (some ⟨g, 0, none⟩)] w (AllEnds g s w (allR s)) := by
  have hgl := r.lt
  have hbA := ba1 w (.cells zlit 25)
  have HB0 := Lib.hid (But.of (g := g) hbA)
  have HR0 := Lib.hid (r.up hbA)
  have bx := Lib.hid (Box.new w 25 zlit)
  have HV := Lib.hid (fun W (r : RS W g h s s 0 0) => value_any g h s (by omega) 999999 (Nat.le_refl _) 0 0 s W hs (by omega) (by omega) r)
  unfold allR
  clear r hbA
  obtain ⟨gr, hgr⟩ : ∃ gr, w.heap.size = gr := ⟨_, rfl⟩
  cases hq : runU (.val 0) 0 s with
  | error er =>
    obtain ⟨e, rr⟩ := er
    rw [hq] at HV
    clear hq
    go_enter Tryz.func25, Tryz.ntmps25
    go_wp2_with fail
    refine (HV.out _ HR0.out).mono ?_
    rintro E w1 ⟨rfl, hb⟩
    have HB1 := HB0.out.on hb
    go_wp2
    exact ⟨rfl, rfl, HB1⟩
  | ok q =>
    obtain ⟨v, m, l⟩ := q
    dsimp only
    rw [hq] at HV
    obtain ⟨R0, hR0⟩ : ∃ R0, (match skipB l with | [] => .ok v | c :: r => .error (31, c :: r) : Except (Int × Bs) Jv) = R0 := ⟨_, rfl⟩
    rw [hR0]
    replace hR0 := Lib.hid hR0
    have hlen := runU_len hq
    clear hq
    go_enter Tryz.func25, Tryz.ntmps25
    go_wp2_with fail
    rw [hgr] at bx
    have HG : Hid (w.heap.size ≤ gr) := Lib.hid (by omega)
    have hggr : g < gr := by omega
    clear hgr
    generalize w.alloc (.cells zlit 25) = W0 at *
    refine (HV.out _ HR0.out).mono ?_
    rintro E w1 ⟨⟨KA, Kn, Kc⟩, ⟨SA, Sn, Sc⟩, rfl, hjv, hb1, hr1⟩
    have hgl0 := bx.out.lt
    have HR0lt := Lib.hid hggr
    have bx1 := bx.out.but hb1 (by have := HG.out; omega)
    have hB1 := HB0.out.on hb1
    have hj1 : JV w1 (fun b => gr < b) v (jx v ⟨KA, Kn, Kc⟩ ⟨SA, Sn, Sc⟩) := JV.to (Keeps.same (fun b hp _ => by omega)) _ _ hjv
    have hbL := ba1 w1 (.cells #[.int .i64 v.k, .string (tb v.t), .slice KA Kn Kc, .slice SA Sn Sc] 25)
    have BV := Lib.hid (Box.new w1 25 #[.int .i64 v.k, .string (tb v.t), .slice KA Kn Kc, .slice SA Sn Sc])
    have BX2 := Lib.hid (bx1.up hbL)
    have HB2 := Lib.hid (hB1.on (But.of hbL))
    have HJ2 := Lib.hid (hj1.up hbL)
    have HR2 := Lib.hid (hr1.up hbL)
    have hgw := bx1.lt
    have hgg := hr1.lt
    clear hjv hb1 hr1 bx1 hB1 hj1 hbL bx HB0 HR0 HV
    simp only [jx]
    go_upto_region 2 with fail
    obtain ⟨gv, hgv⟩ : ∃ gv, w1.heap.size = gv := ⟨_, rfl⟩
    rw [hgv] at BV hgw hgg ⊢
    generalize w1.alloc (.cells #[.int .i64 v.k, .string (tb v.t), .slice KA Kn Kc, .slice SA Sn Sc] 25) = W2 at *
    have HS := Lib.hid (skip_any g h s l m 0 W2 HR2.out)
    have HF := Lib.hid (fun W e (r : RS W g h s (skipB l) m 0) => fail_any g h s (skipB l) m 0 e W (by omega) (by have := skip_le l; omega) r)
    have HGV := Lib.hid hgw
    have HGG := Lib.hid hgg
    clear hgv hgw hgg hgl0 hgl
    cases hsk : skipB l with
    | nil =>
      rw [hsk] at HS HF
      have hq : R0 = .ok v := by rw [← hR0.out, hsk]
      subst hq
      clear hR0
      have hem : (tb ([] : Bs)).toList.isEmpty = true := by rw [isEmp, tb_size]; exact decide_eq_true rfl
      clear hsk
      go_wp2_with fail
      refine HS.out.mono ?_
      rintro E w3 ⟨rfl, hb3, hr3⟩
      have hgr2 := BX2.out.lt
      have bv3 := BV.out.but hb3 (by have := HGG.out; omega)
      have bx3 := BX2.out.but hb3 (by have := HG.out; have := HR0lt.out; omega)
      have HB3 := Lib.hid (HB2.out.on hb3)
      have hj3 := JV.to (Keeps.but hb3 (fun b hp => by have := HG.out; have := HR0lt.out; omega) (fun _ hp _ => hp)) _ _ HJ2.out
      obtain ⟨x0, x1, x2, x3, x4⟩ := hr3.cells
      obtain ⟨c0, c1, c2, c3⟩ := box4 bv3
      obtain ⟨d0, d1, d2, d3⟩ := box4 bx3
      have f0 := bx3.f 0
      have f1 := bx3.f 1
      have f2 := bx3.f 2
      have f3 := bx3.f 3
      obtain ⟨q0, q1, q2, q3⟩ := box4 (box_set4 bx3 (.int .i64 v.k) (.string (tb v.t)) (.slice KA Kn Kc) (.slice SA Sn Sc))
      have hbut := but_set4 (gr := gr) HB3.out HG.out (.int .i64 v.k) (.string (tb v.t)) (.slice KA Kn Kc) (.slice SA Sn Sc)
      have hP : ∀ b, gr < b → b ≠ gr := fun b hp => by omega
      have j := JV.to (keep_set (i := 3) (u := .slice SA Sn Sc) hP) _ _ (JV.to (keep_set (i := 2) (u := .slice KA Kn Kc) hP) _ _ (JV.to (keep_set (i := 1) (u := .string (tb v.t)) hP) _ _ (JV.to (keep_set (i := 0) (u := .int .i64 v.k) hP) _ _ hj3)))
      have j2 := JV.to (Keeps.same (P' := fun b => w.heap.size ≤ b) (fun b hp _ => by have := HG.out; omega)) _ _ j
      have HJ := Lib.hid j2
      have HBt := Lib.hid hbut
      clear j j2 hbut hb3 hr3 bv3 bx3 hP hj3
      go_wp2
      refine bodyPost_ret (v := .agg #[.int .i64 v.k, .string (tb v.t), .slice KA Kn Kc, .slice SA Sn Sc]) (by simp [results, Tryz.results25, go_sem, q0, q1, q2, q3]) rfl ?_
      exact ⟨⟨KA, Kn, Kc⟩, ⟨SA, Sn, Sc⟩, rfl, HJ.out, HBt.out⟩
    | cons c t =>
      rw [hsk] at HS HF
      have hq : R0 = .error (31, c :: t) := by rw [← hR0.out, hsk]
      subst hq
      clear hR0
      have hem := tb_consE c t
      clear hsk
      go_wp2_with fail
      refine HS.out.mono ?_
      rintro E w3 ⟨rfl, hb3, hr3⟩
      have HB3 := Lib.hid (HB2.out.on hb3)
      have HR3 := Lib.hid hr3
      obtain ⟨x0, x1, x2, x3, x4⟩ := hr3.cells
      clear hb3 hr3
      generalize tb (c :: t) = C at *
      go_wp2_with fail
      refine (HF.out _ 31 HR3.out).mono ?_
      rintro E w4 ⟨rfl, hb⟩
      have HB4 := HB3.out.on hb
      go_wp2
      exact ⟨rfl, rfl, HB4⟩
end Go.Proofs.YtnkhghjcfhpeiaaGreatDoor

/-
  The deferred closure of the program's Parse, walked.
-/
namespace Go.Proofs.YtnkhghjcfhpeiaaGreatDoor
open Go.RowKit
theorem acts22 (a b c x : Value) : #[a, b, c] ++ ((Array.replicate 19 undef).setIfInBounds 3 x).setIfInBounds 0 x = #[a, b, c, x, undef, undef, x, undef, undef, undef, undef, undef, undef, undef, undef, undef, undef, undef, undef, undef, undef, undef] := by
  apply Array.ext'
  simp only [Array.toList_append, Array.toList_setIfInBounds, Array.toList_replicate]
  rfl
/-- the named results of Parse -/
structure Nmd (w : World) (gr ge ga : Nat) (vs : Array Value) (e a : Int) : Prop where
  bv : Box w gr 25 vs
  be : Box w ge 36 #[.int .i64 e]
  ba : Box w ga 3 #[.int .i64 a]
theorem Nmd.drew {W : World} {gr ge ga : Nat} {vs : Array Value} {e a : Int} (h : Nmd W gr ge ga vs e a) : Nmd W.drew gr ge ga vs e a := ⟨h.bv.up (Below.refl _ _).drew, h.be.up (Below.refl _ _).drew, h.ba.up (Below.refl _ _).drew⟩
theorem nmd_set {W : World} {gr ge ga : Nat} {x0 x1 x2 x3 : Value} {e0 a0 : Int} (hN : Nmd W gr ge ga #[x0, x1, x2, x3] e0 a0) (h1 : gr < ge) (h2 : ge < ga) (e a : Int) : Nmd ((((((W.setCell ⟨gr, 0, none⟩ (.int .i64 0)).setCell ⟨gr, 1, none⟩ (.string ⟨#[]⟩)).setCell ⟨gr, 2, none⟩ (.slice none 0 0)).setCell ⟨gr, 3, none⟩ (.slice none 0 0)).setCell ⟨ge, 0, none⟩ (.int .i64 e)).setCell ⟨ga, 0, none⟩ (.int .i64 a)) gr ge ga zlit e a := by
  refine ⟨((box_set4 hN.bv _ _ _ _).far (p := ⟨ge, 0, none⟩) (by simp only; omega) _).far (p := ⟨ga, 0, none⟩) (by simp only; omega) _, ?_, ?_⟩
  · have := (box_far4 hN.be (show ge ≠ gr by omega) (.int .i64 0) (.string ⟨#[]⟩) (.slice none 0 0) (.slice none 0 0)).set 0 (.int .i64 e)
    simp only [List.setIfInBounds_toArray, List.set_cons_zero] at this
    exact this.far (p := ⟨ga, 0, none⟩) (by simp only; omega) _
  · have := ((box_far4 hN.ba (show ga ≠ gr by omega) (.int .i64 0) (.string ⟨#[]⟩) (.slice none 0 0) (.slice none 0 0)).far (p := ⟨ge, 0, none⟩) (by simp only; omega) (.int .i64 e)).set 0 (.int .i64 a)
    simpa only [List.setIfInBounds_toArray, List.set_cons_zero] using this
set_option maxRecDepth 100000 in
set_option maxHeartbeats 2000000 in
theorem catch_quiet (gr ge ga : Nat) (w : World) :
    CallsD Tryz.prog 23 #[.pointer (some ⟨gr, 0, none⟩), .pointer (some ⟨ge, 0, none⟩), .pointer (some ⟨ga, 0, none⟩)] .returning w fun e u' w' => e = .returned (.tuple #[]) ∧ u' = .returning ∧ w' = w := by
  refine callsD_of_wpS Tryz.func23 rfl fun c₀ cs hu => ?_
  apply wpS_seq
  apply wpS_region
  simp [wpOpsS, go_sem, recoverD, hu, Tryz.ntmps23, Exit.thenS]
  refine wpS_of_wp ?_
  rw [acts22]
  go_wp2_with fail
  cases c₀
  simp_all [bodyPostS, results, Tryz.results23]
set_option maxRecDepth 100000 in
set_option maxHeartbeats 2000000 in
theorem catch_thrown (gr ge ga : Nat) (e a : Int) (older : List PanicEntry) (vs : Array Value) (e0 a0 : Int) (w : World) (x0 x1 x2 x3 : Value) (hv : vs = #[x0, x1, x2, x3]) (h1 : gr < ge) (h2 : ge < ga) (hN : Nmd w gr ge ga vs e0 a0) :
    CallsD Tryz.prog 23 #[.pointer (some ⟨gr, 0, none⟩), .pointer (some ⟨ge, 0, none⟩), .pointer (some ⟨ga, 0, none⟩)] (.panicking ({ v := .iface 48 (.agg #[.int .i64 e, .int .i64 a]), recovered := false } :: older)) w fun E u' w' => E = .returned (.tuple #[]) ∧ u' = .panicking ({ v := .iface 48 (.agg #[.int .i64 e, .int .i64 a]), recovered := true } :: older) ∧ Nmd w' gr ge ga zlit e a ∧ Below gr w w' := by
  refine callsD_of_wpS Tryz.func23 rfl fun c₀ cs hu => ?_
  apply wpS_seq
  apply wpS_region
  simp [wpOpsS, go_sem, recoverD, hu, Tryz.ntmps23, Exit.thenS]
  refine wpS_of_wp ?_
  rw [acts22]
  have hta : ∀ w, (Instr.typeAssert (.iface 48 (.agg #[.int .i64 e, .int .i64 a])) 20 48 true).run Tryz.prog w = .ok (.tuple #[.agg #[.int .i64 e, .int .i64 a], .bool true]) w := fun w => by simp [Instr.typeAssert, run_underlying Tryz.underlying48]
  subst hv
  have hbA := ba1 w (.cells #[.int .i64 e, .int .i64 a] 48)
  have BF := Lib.hid (Box.new w 48 #[.int .i64 e, .int .i64 a])
  have BV := Lib.hid (hN.bv.up hbA)
  have BE := Lib.hid (hN.be.up hbA)
  have BA := Lib.hid (hN.ba.up hbA)
  have hlt := hN.ba.lt
  have HB := Lib.hid (hbA.mono (show gr ≤ w.heap.size by omega))
  obtain ⟨gf, hgf⟩ : ∃ gf, w.heap.size = gf := ⟨_, rfl⟩
  rw [hgf] at BF hlt
  clear hbA hN
  go_upto_region 5 with fail
  generalize w.alloc (.cells #[.int .i64 e, .int .i64 a] 48) = W1 at *
  have hN1 : Nmd W1 gr ge ga #[x0, x1, x2, x3] e0 a0 := ⟨BV.out, BE.out, BA.out⟩
  have bf := BF.out
  have hB0 := HB.out
  obtain ⟨c0, c1, c2, c3⟩ := box4 hN1.bv
  have f0 := hN1.bv.f 0
  have f1 := hN1.bv.f 1
  have f2 := hN1.bv.f 2
  have f3 := hN1.bv.f 3
  have d0 := hN1.be.c 0 rfl
  have d1 := hN1.be.f 0
  have d2 := hN1.ba.c 0 rfl
  have d3 := hN1.ba.f 0
  have b0 := bf.c 0 rfl
  have b1 := bf.c 1 rfl
  have n1 : gr ≠ ge := by omega
  have n2 : gr ≠ ga := by omega
  have n3 : gr ≠ gf := by omega
  have n4 : ge ≠ ga := by omega
  have n5 : ge ≠ gf := by omega
  have n6 : ga ≠ gf := by omega
  have n7 := n1.symm
  have n8 := n2.symm
  have n9 := n3.symm
  have n10 := n4.symm
  have n11 := n5.symm
  have n12 := n6.symm
  have hn2 := nmd_set hN1 h1 h2 e a
  have HN2 := Lib.hid hn2.drew
  clear hn2
  have HB2 := Lib.hid (((below_set4 hB0 (Nat.le_refl gr) (.int .i64 0) (.string ⟨#[]⟩) (.slice none 0 0) (.slice none 0 0)).setCell (p := ⟨ge, 0, none⟩) (by simp only; omega) (.int .i64 e)).setCell (p := ⟨ga, 0, none⟩) (by simp only; omega) (.int .i64 a)).drew
  clear BV BE BA BF HB hN1 bf hB0
  go_region_law (fail)
  all_goals
    exact ⟨rfl, _, rfl, .tuple #[], end_unit rfl, rfl, rfl, HN2.out, HB2.out⟩
end Go.Proofs.YtnkhghjcfhpeiaaGreatDoor

/-
  JSON as lists alone: an error stands inside the text.
-/
namespace Go.Proofs.YtnkhghjcfhpeiaaGreatDoor
open Go.RowKit
theorem text_elen {l r : Bs} {e : Int} (h : textR l = .error (e, r)) : r.length ≤ l.length := by
  unfold textR at h
  split at h
  · split at h
    · cases h
    · injection h with h
      rw [← (Prod.mk.inj h).2, List.length_drop]
      omega
  · injection h with h
    rw [← (Prod.mk.inj h).2]
    exact Nat.le_refl _
theorem leaf_elen {m : Nat} {l : Bs} {e : Int} {r : Bs} (h : leafR m l = .error (e, r)) : r.length ≤ l.length := by
  unfold leafR at h
  split at h
  · cases h; exact Nat.le_refl _
  · rename_i c t
    split at h
    · split at h
      · rename_i x hx
        injection h with h
        subst h
        exact text_elen hx
      · cases h
    · split at h
      · split at h
        · cases h; exact Nat.le_refl _
        · cases h
      · unfold wordR at h
        repeat' split at h
        all_goals first | cases h | skip
        all_goals exact Nat.le_refl _
theorem run_elen : ∀ (f : Nat) (j : Job) (m : Nat) (l : Bs) (e : Int) (r : Bs), run f j m l = .error (e, r) → r.length ≤ l.length := by
  intro f
  induction f with
  | zero => intro j m l e r h; cases j <;> (cases h; exact Nat.le_refl _)
  | succ f ih =>
    intro j m l e r h
    rw [run_step] at h
    cases j with
    | val w =>
      unfold stepJ at h
      simp only at h
      have hsk := skip_le l
      split at h
      · cases h; exact hsk
      · split at h
        · cases h; exact hsk
        · split at h
          · cases h; exact Nat.zero_le _
          · rename_i c t hct
            rw [hct, List.length_cons] at hsk
            have hst := skip_le t
            split at h
            · split at h
              · have := ih _ _ _ _ _ h
                simp only [List.length_nil] at this
                omega
              · rename_i d r2 hd
                rw [hd, List.length_cons] at hst
                split at h
                · cases h
                · have := ih _ _ _ _ _ h
                  rw [List.length_cons] at this
                  omega
            · split at h
              · split at h
                · have := ih _ _ _ _ _ h
                  simp only [List.length_nil] at this
                  omega
                · rename_i d r2 hd
                  rw [hd, List.length_cons] at hst
                  split at h
                  · cases h
                  · have := ih _ _ _ _ _ h
                    rw [List.length_cons] at this
                    omega
              · have := leaf_elen h
                rw [List.length_cons] at this
                omega
    | items w acc =>
      unfold stepJ at h
      simp only at h
      split at h
      · rename_i x hx
        injection h with h
        subst h
        exact ih _ _ _ _ _ hx
      · rename_i v m' l' hx
        have h1 := run_len _ _ _ _ _ _ _ hx
        have h2 := skip_le l'
        split at h
        · cases h; exact Nat.zero_le _
        · rename_i c r2 hc
          rw [hc, List.length_cons] at h2
          split at h
          · have := ih _ _ _ _ _ h
            omega
          · split at h
            · cases h
            · cases h
              rw [List.length_cons]
              omega
    | mems w ks acc =>
      unfold stepJ at h
      simp only at h
      have hsk := skip_le l
      split at h
      · rename_i x hx
        injection h with h
        subst h
        have := text_elen hx
        omega
      · rename_i k l2 hx
        have h1 := (text_len hx).1
        split at h
        · cases h; exact hsk
        · have h2 := skip_le l2
          split at h
          · cases h; exact Nat.zero_le _
          · rename_i c l3 hc
            rw [hc, List.length_cons] at h2
            split at h
            · cases h
              rw [List.length_cons]
              omega
            · split at h
              · rename_i x hx
                injection h with h
                subst h
                have := ih _ _ _ _ _ hx
                omega
              · rename_i v m' l' hx
                have h3 := run_len _ _ _ _ _ _ _ hx
                have h4 := skip_le l'
                split at h
                · cases h; exact Nat.zero_le _
                · rename_i d r2 hd
                  rw [hd, List.length_cons] at h4
                  split at h
                  · have := ih _ _ _ _ _ h
                    omega
                  · split at h
                    · cases h
                    · cases h
                      rw [List.length_cons]
                      omega
theorem allR_elen {s : Bs} {e : Int} {r : Bs} (h : allR s = .error (e, r)) : r.length ≤ s.length := by
  unfold allR at h
  cases hq : runU (.val 0) 0 s with
  | error er =>
    rw [hq] at h
    injection h with h
    subst h
    exact run_elen _ _ _ _ _ _ hq
  | ok q =>
    obtain ⟨v, m, l⟩ := q
    rw [hq] at h
    have h1 := runU_len hq
    have h2 := skip_le l
    dsimp only at h
    split at h
    · cases h
    · rename_i c t hc
      cases h
      rw [hc] at h2
      omega
theorem parse_allR (s : Bs) : parseJ s = if 4000 < s.length then (.zero, 2, 0) else match allR s with
  | .error (e, l) => (.zero, e, s.length - l.length)
  | .ok v => (v, 0, 0) := by
  rw [parse_runU]
  split
  · rfl
  · unfold allR
    cases runU (.val 0) 0 s with
    | error er => rfl
    | ok q =>
      obtain ⟨v, m, l⟩ := q
      dsimp only
      cases skipB l <;> rfl
end Go.Proofs.YtnkhghjcfhpeiaaGreatDoor

/-
  The program's Parse, walked.
-/
namespace Go.Proofs.YtnkhghjcfhpeiaaGreatDoor
open Go.RowKit
theorem three_new (w : World) (a b c : Array Value) (ta tb tc : TypeId) : Below w.heap.size w (((w.alloc (.cells a ta)).alloc (.cells b tb)).alloc (.cells c tc)) ∧ Box (((w.alloc (.cells a ta)).alloc (.cells b tb)).alloc (.cells c tc)) w.heap.size ta a ∧ Box (((w.alloc (.cells a ta)).alloc (.cells b tb)).alloc (.cells c tc)) (w.heap.size + 1) tb b ∧ Box (((w.alloc (.cells a ta)).alloc (.cells b tb)).alloc (.cells c tc)) (w.heap.size + 2) tc c ∧ (((w.alloc (.cells a ta)).alloc (.cells b tb)).alloc (.cells c tc)).heap.size = w.heap.size + 3 := by
  obtain ⟨h1, h2, h3, h4⟩ := two_new w a b ta tb
  have h5 := ba1 ((w.alloc (.cells a ta)).alloc (.cells b tb)) (.cells c tc)
  refine ⟨h1.trans (h5.mono (by omega)), h2.up h5, h3.up h5, ?_, by simp⟩
  rw [← h4]
  exact Box.new _ tc c
def parOf (n : Nat) (r : Except (Int × Bs) Jv) : Jv × Int × Nat := match r with
  | .error (e, l) => (.zero, e, n - l.length)
  | .ok v => (v, 0, 0)
theorem parse_allP (s : Bs) : parseJ s = if 4000 < s.length then (.zero, 2, 0) else parOf s.length (allR s) := by
  rw [parse_allR]
  rfl
theorem nmd_val {W : World} {gr ge ga : Nat} {x0 x1 x2 x3 : Value} {e0 a0 : Int} (hN : Nmd W gr ge ga #[x0, x1, x2, x3] e0 a0) (h1 : gr < ge) (h2 : ge < ga) (u0 u1 u2 u3 : Value) (e a : Int) : Nmd ((((((W.setCell ⟨gr, 0, none⟩ u0).setCell ⟨gr, 1, none⟩ u1).setCell ⟨gr, 2, none⟩ u2).setCell ⟨gr, 3, none⟩ u3).setCell ⟨ge, 0, none⟩ (.int .i64 e)).setCell ⟨ga, 0, none⟩ (.int .i64 a)) gr ge ga #[u0, u1, u2, u3] e a := by
  refine ⟨((box_set4 hN.bv _ _ _ _).far (p := ⟨ge, 0, none⟩) (by simp only; omega) _).far (p := ⟨ga, 0, none⟩) (by simp only; omega) _, ?_, ?_⟩
  · have := (box_far4 hN.be (show ge ≠ gr by omega) u0 u1 u2 u3).set 0 (.int .i64 e)
    simp only [List.setIfInBounds_toArray, List.set_cons_zero] at this
    exact this.far (p := ⟨ga, 0, none⟩) (by simp only; omega) _
  · have := ((box_far4 hN.ba (show ga ≠ gr by omega) u0 u1 u2 u3).far (p := ⟨ge, 0, none⟩) (by simp only; omega) (.int .i64 e)).set 0 (.int .i64 a)
    simpa only [List.setIfInBounds_toArray, List.set_cons_zero] using this
theorem But.low {g B : Nat} {w w' : World} (h : But g w w') (hB : B ≤ g) (hw : B ≤ w.heap.size) : Below B w w' := ⟨h.os, h.tape, h.output, h.size, fun k hk => h.block k (by omega) (by omega)⟩
set_option maxRecDepth 100000 in
set_option maxHeartbeats 4000000 in
theorem parse_any (s : Bs) (hs : s.length ≤ 1000000) (w : World) : Calls Tryz.prog 13 #[.string (tb s)] w (ParEnds (parseJ s) w) := by
  have hmf : ∀ (fn : Fn) (first cap : Array Value) (w : World), (Instr.makeFunc fn first cap).run Tryz.prog w = .ok (.func fn first cap) w := fun _ _ _ _ => rfl
  have zs : (tb s).size = s.length := tb_size s
  obtain ⟨hb, bv, be, ba, hsz⟩ := three_new w zlit #[.int .i64 0] #[.int .i64 0] 25 36 3
  obtain ⟨gr, hgr⟩ : ∃ gr, w.heap.size = gr := ⟨_, rfl⟩
  rw [hgr] at bv be ba hsz hb
  have hn : Nmd (((w.alloc (.cells zlit 25)).alloc (.cells #[.int .i64 0] 36)).alloc (.cells #[.int .i64 0] 3)) gr (gr + 1) (gr + 2) zlit 0 0 := ⟨bv, be, ba⟩
  have HN := Lib.hid hn
  have HB := Lib.hid hb
  clear hb bv be ba hn
  rw [parse_allP]
  by_cases h4 : 4000 < s.length
  · rw [if_pos h4]
    have hd : decide ((4000 : Int) < (s.length : Int)) = true := decide_eq_true (by omega)
    go_enter_defers Tryz.func13, Tryz.ntmps13
    go_upto_region 1 with fail
    obtain ⟨ge, hge⟩ : ∃ ge, gr + 1 = ge := ⟨_, rfl⟩
    rw [hge]
    obtain ⟨ga, hga⟩ : ∃ ga, ge + 1 = ga := ⟨_, rfl⟩
    rw [hga]
    rw [show gr + 2 = ga by omega, hge] at HN
    rw [show gr + 3 = ga + 1 by omega] at hsz
    have h1 : gr < ge := by omega
    have h2 : ge < ga := by omega
    generalize ((w.alloc (.cells zlit 25)).alloc (.cells #[.int .i64 0] 36)).alloc (.cells #[.int .i64 0] 3) = W1 at *
    obtain ⟨c0, c1, c2, c3⟩ := box4 HN.out.bv
    have f0 := HN.out.bv.f 0
    have f1 := HN.out.bv.f 1
    have f2 := HN.out.bv.f 2
    have f3 := HN.out.bv.f 3
    have d0 := HN.out.be.c 0 rfl
    have d1 := HN.out.be.f 0
    have d2 := HN.out.ba.c 0 rfl
    have d3 := HN.out.ba.f 0
    have n1 : gr ≠ ge := by omega
    have n2 : gr ≠ ga := by omega
    have n4 : ge ≠ ga := by omega
    have n7 := n1.symm
    have n8 := n2.symm
    have n10 := n4.symm
    have hn2 := nmd_set HN.out h1 h2 2 0
    have hb2 := ((below_set4 HB.out (Nat.le_refl gr) (.int .i64 0) (.string ⟨#[]⟩) (.slice none 0 0) (.slice none 0 0)).setCell (p := ⟨ge, 0, none⟩) (by simp only; omega) (.int .i64 2)).setCell (p := ⟨ga, 0, none⟩) (by simp only; omega) (.int .i64 0)
    have HN2 := Lib.hid hn2
    have HB2 := Lib.hid hb2
    obtain ⟨q0, q1, q2, q3⟩ := box4 hn2.bv
    have q4 := hn2.be.c 0 rfl
    have q5 := hn2.ba.c 0 rfl
    clear hn2 hb2 HN HB
    go_wp2
    refine ⟨.tuple #[.agg #[.int .i64 0, .string ⟨#[]⟩, .slice none 0 0, .slice none 0 0], .int .i64 2, .int .i64 0], (by simp [results, Tryz.results13, go_sem, q0, q1, q2, q3, q4, q5]), ?_⟩
    exact ⟨⟨none, 0, 0⟩, ⟨none, 0, 0⟩, rfl, jleaf _ _ _ _, by rw [hgr]; exact HB2.out⟩
  · rw [if_neg h4]
    have hd : decide ((4000 : Int) < (s.length : Int)) = false := decide_eq_false (by omega)
    obtain ⟨Q, hQ⟩ : ∃ Q, parOf s.length (allR s) = Q := ⟨_, rfl⟩
    rw [hQ]
    replace hQ := Lib.hid hQ
    go_enter_defers Tryz.func13, Tryz.ntmps13
    go_upto_region 1 with fail
    obtain ⟨ge, hge⟩ : ∃ ge, gr + 1 = ge := ⟨_, rfl⟩
    rw [hge]
    obtain ⟨ga, hga⟩ : ∃ ga, ge + 1 = ga := ⟨_, rfl⟩
    rw [hga]
    rw [show gr + 2 = ga by omega, hge] at HN
    rw [show gr + 3 = ga + 1 by omega] at hsz
    have h1 : gr < ge := by omega
    have h2 : ge < ga := by omega
    generalize ((w.alloc (.cells zlit 25)).alloc (.cells #[.int .i64 0] 36)).alloc (.cells #[.int .i64 0] 3) = W1 at *
    have HNR := Lib.hid (newReader_any s W1)
    have HAL := Lib.hid (fun g h W (r : RS W g h s s 0 0) => all_any g h s W (by omega) r)
    have HEL := Lib.hid (fun e r (h : allR s = .error (e, r)) => allR_elen h)
    rw [hsz] at HNR
    go_wp2_with fail
    refine HNR.out.mono ?_
    rintro E w2 ⟨rfl, hr2, hb2⟩
    obtain ⟨g, hg⟩ : ∃ g, ga + 1 = g := ⟨_, rfl⟩
    rw [hg] at hr2 hb2 hsz ⊢
    rw [← hsz] at hb2
    have hN2 : Nmd w2 gr ge ga zlit 0 0 := ⟨HN.out.bv.up hb2, HN.out.be.up hb2, HN.out.ba.up hb2⟩
    have HB2 := Lib.hid (HB.out.trans (hb2.mono (by omega)))
    have HN2 := Lib.hid hN2
    have HA := Lib.hid (HAL.out _ _ _ hr2)
    have hgl := hr2.lt
    clear HNR HN HB hb2 hN2 hr2 HAL
    cases hq : allR s with
    | error er =>
      obtain ⟨e, r⟩ := er
      rw [hq] at HA
      have hel := HEL.out e r hq
      have hqq : Q = (.zero, e, s.length - r.length) := by rw [← hQ.out, hq]; rfl
      subst hqq
      clear hq HEL hQ
      go_wp2_with fail
      refine HA.out.mono ?_
      rintro E w3 ⟨rfl, hb3⟩
      have hN3 : Nmd w3 gr ge ga zlit 0 0 := ⟨HN2.out.bv.but hb3 (by omega), HN2.out.be.but hb3 (by omega), HN2.out.ba.but hb3 (by omega)⟩
      have hB3 := HB2.out.trans (hb3.low (B := gr) (by omega) (by omega))
      go_wp2
      refine leaves_cons (f := 23) (args := #[.pointer (some ⟨gr, 0, none⟩), .pointer (some ⟨ge, 0, none⟩), .pointer (some ⟨ga, 0, none⟩)]) (by simp) (by simp [go_sem]) ?_
      refine (catch_thrown gr ge ga e ((s.length : Int) - (r.length : Int)) [] zlit 0 0 w3 _ _ _ _ rfl h1 h2 hN3).mono ?_
      rintro E u' w4 ⟨rfl, rfl, hN4, hB4⟩
      obtain ⟨q0, q1, q2, q3⟩ := box4 hN4.bv
      have q4 := hN4.be.c 0 rfl
      have q5 := hN4.ba.c 0 rfl
      have hB5 := hB3.trans hB4
      have hcast : ((s.length - r.length : Nat) : Int) = (s.length : Int) - (r.length : Int) := by omega
      refine ⟨.tuple #[.agg #[.int .i64 0, .string ⟨#[]⟩, .slice none 0 0, .slice none 0 0], .int .i64 e, .int .i64 ((s.length : Int) - (r.length : Int))], (by simp [results, Tryz.results13, go_sem, q0, q1, q2, q3, q4, q5]), ?_⟩
      refine ⟨⟨none, 0, 0⟩, ⟨none, 0, 0⟩, ?_, jleaf _ _ _ _, by rw [hgr]; exact hB5⟩
      show Ending.returned _ = Ending.returned (.tuple #[_, _, .int .i64 ((s.length - r.length : Nat) : Int)])
      rw [hcast]
      rfl
    | ok v =>
      rw [hq] at HA
      have hqq : Q = (v, 0, 0) := by rw [← hQ.out, hq]; rfl
      subst hqq
      clear hq HEL hQ
      go_wp2_with fail
      refine HA.out.mono ?_
      rintro E w3 ⟨⟨KA, Kn, Kc⟩, ⟨SA, Sn, Sc⟩, rfl, hjv, hb3⟩
      have hN3 : Nmd w3 gr ge ga zlit 0 0 := ⟨HN2.out.bv.but hb3 (by omega), HN2.out.be.but hb3 (by omega), HN2.out.ba.but hb3 (by omega)⟩
      have hB3 := HB2.out.trans (hb3.low (B := gr) (by omega) (by omega))
      simp only [jx]
      obtain ⟨c0, c1, c2, c3⟩ := box4 hN3.bv
      have f0 := hN3.bv.f 0
      have f1 := hN3.bv.f 1
      have f2 := hN3.bv.f 2
      have f3 := hN3.bv.f 3
      have d0 := hN3.be.c 0 rfl
      have d1 := hN3.be.f 0
      have d2 := hN3.ba.c 0 rfl
      have d3 := hN3.ba.f 0
      have n1 : gr ≠ ge := by omega
      have n2 : gr ≠ ga := by omega
      have n4 : ge ≠ ga := by omega
      have n7 := n1.symm
      have n8 := n2.symm
      have n10 := n4.symm
      have hN4 := nmd_val hN3 h1 h2 (.int .i64 v.k) (.string (tb v.t)) (.slice KA Kn Kc) (.slice SA Sn Sc) 0 0
      have hB4 := ((below_set4 hB3 (Nat.le_refl gr) (.int .i64 v.k) (.string (tb v.t)) (.slice KA Kn Kc) (.slice SA Sn Sc)).setCell (p := ⟨ge, 0, none⟩) (by simp only; omega) (.int .i64 0)).setCell (p := ⟨ga, 0, none⟩) (by simp only; omega) (.int .i64 0)
      have hP : ∀ k, k ≤ ga → ∀ b, w2.heap.size ≤ b → b ≠ k := fun k hk b hp => by omega
      have j := JV.to (keep_set (i := 0) (u := .int .i64 0) (hP ga (by omega))) _ _ (JV.to (keep_set (i := 0) (u := .int .i64 0) (hP ge (by omega))) _ _ (JV.to (keep_set (i := 3) (u := .slice SA Sn Sc) (hP gr (by omega))) _ _ (JV.to (keep_set (i := 2) (u := .slice KA Kn Kc) (hP gr (by omega))) _ _ (JV.to (keep_set (i := 1) (u := .string (tb v.t)) (hP gr (by omega))) _ _ (JV.to (keep_set (i := 0) (u := .int .i64 v.k) (hP gr (by omega))) _ _ hjv)))))
      have HJ := Lib.hid (JV.to (Keeps.same (P' := anyB) (fun b hp _ => trivial)) _ _ j)
      have HB4 := Lib.hid hB4
      obtain ⟨q0, q1, q2, q3⟩ := box4 hN4.bv
      have q4 := hN4.be.c 0 rfl
      have q5 := hN4.ba.c 0 rfl
      clear hN4 hB4 hP j hjv hb3 hN3 hB3
      go_wp2
      refine leaves_cons (f := 23) (args := #[.pointer (some ⟨gr, 0, none⟩), .pointer (some ⟨ge, 0, none⟩), .pointer (some ⟨ga, 0, none⟩)]) (by simp) (by simp [go_sem]) ?_
      refine (catch_quiet gr ge ga _).mono ?_
      rintro E u' w4 ⟨rfl, rfl, rfl⟩
      refine ⟨.tuple #[.agg #[.int .i64 v.k, .string (tb v.t), .slice KA Kn Kc, .slice SA Sn Sc], .int .i64 0, .int .i64 0], (by simp [results, Tryz.results13, go_sem, q0, q1, q2, q3, q4, q5]), ?_⟩
      exact ⟨⟨KA, Kn, Kc⟩, ⟨SA, Sn, Sc⟩, rfl, HJ.out, by rw [hgr]; exact HB4.out⟩
theorem jpj : JPJ := fun s W hs _ => parse_any s hs W
end Go.Proofs.YtnkhghjcfhpeiaaGreatDoor

/-
  The program's single, walked.
-/
namespace Go.Proofs.YtnkhghjcfhpeiaaGreatDoor
open Go.RowKit
set_option maxRecDepth 100000 in
set_option maxHeartbeats 2000000 in
theorem single_any (k : Int) (t : Bs) (KA SA : Option Addr) (Kn Kc Sn Sc : Nat) (w : World) : Calls Tryz.prog 69 #[.agg #[.int .i64 k, .string (tb t), .slice KA Kn Kc, .slice SA Sn Sc]] w (BoolEnds (decide (Kn = 0) && decide (Sn = 0)) w) := by
  have bx := Box.new w 25 #[.int .i64 k, .string (tb t), .slice KA Kn Kc, .slice SA Sn Sc]
  have HB := Lib.hid (ba1 w (.cells #[.int .i64 k, .string (tb t), .slice KA Kn Kc, .slice SA Sn Sc] 25))
  obtain ⟨c0, c1, c2, c3⟩ := box4 bx
  clear bx
  have he : ((Sn : Int) == 0) = decide (Sn = 0) := by
    rw [Bool.eq_iff_iff]
    simp
  by_cases hk : Kn = 0
  · have hd : decide ((Kn : Int) = 0) = true := decide_eq_true (by omega)
    have hd2 : ((Kn : Int) == 0) = true := beq_iff_eq.2 (by omega)
    rw [decide_eq_true hk]
    clear hk
    go_enter Tryz.func69, Tryz.ntmps69
    go_wp2_with fail
    go_ret
    refine ⟨?_, HB.out⟩
    show Ending.returned (.bool _) = _
    rw [← he]
    rfl
  · have hd : decide ((Kn : Int) = 0) = false := decide_eq_false (by omega)
    have hd2 : ((Kn : Int) == 0) = false := beq_eq_false_iff_ne.2 (by omega)
    rw [decide_eq_false hk]
    clear hk he
    go_enter Tryz.func69, Tryz.ntmps69
    go_wp2_with fail
    go_ret
    exact ⟨rfl, HB.out⟩
end Go.Proofs.YtnkhghjcfhpeiaaGreatDoor

/-
  The program's rightAlone, walked over what rightKeys does.
-/
namespace Go.Proofs.YtnkhghjcfhpeiaaGreatDoor
open Go.RowKit
/-- what is told of rightKeys -/
def HKeys : Prop := ∀ (P : Nat → Prop) (ks : List Bs) (K : Sli) (W : World), (∀ x ∈ ks, x.length ≤ 1000000) → ks.length ≤ 1000000 → SlP W P K 1 (svs (ks.map tb)) → Calls Tryz.prog 72 #[.slice K.A K.n K.c] W (BoolEnds (ks.all validL && apartL ks) W)
theorem slp_up {w w' : World} {P : Nat → Prop} {S : Sli} {sz : Nat} {cs : List Value} (h : SlP w P S sz cs) (hb : Below w.heap.size w w') : SlP w' P S sz cs := ⟨h.len, h.rd.to (Keeps.up hb (fun _ h _ => h)), h.cap, h.le⟩
set_option maxRecDepth 100000 in
set_option maxHeartbeats 8000000 in
theorem rightAlone_any (hRK : HKeys) (P : Nat → Prop) (k : Int) (t : Bs) (ks : List Bs) (vs : List Jv) (KA SA : Option Addr) (Kn Kc Sn Sc : Nat) (w : World) (hK : Kn = ks.length) (hS : Sn = vs.length) (ht : t.length ≤ 1000000) (hks : ∀ x ∈ ks, x.length ≤ 1000000) (hkl : ks.length ≤ 1000000) (hSl : SlP w P ⟨KA, Kn, Kc⟩ 1 (svs (ks.map tb))) : Calls Tryz.prog 48 #[.agg #[.int .i64 k, .string (tb t), .slice KA Kn Kc, .slice SA Sn Sc]] w (BoolEnds (aloneJ k t ks vs) w) := by
  have bx := Box.new w 25 #[.int .i64 k, .string (tb t), .slice KA Kn Kc, .slice SA Sn Sc]
  have hb := ba1 w (.cells #[.int .i64 k, .string (tb t), .slice KA Kn Kc, .slice SA Sn Sc] 25)
  have HB := Lib.hid hb
  have HKs := Lib.hid (hRK P ks ⟨KA, Kn, Kc⟩ (w.alloc (.cells #[.int .i64 k, .string (tb t), .slice KA Kn Kc, .slice SA Sn Sc] 25)) hks hkl (slp_up hSl hb))
  have HSi := Lib.hid (single_any k t KA SA Kn Kc Sn Sc (w.alloc (.cells #[.int .i64 k, .string (tb t), .slice KA Kn Kc, .slice SA Sn Sc] 25)))
  have HSW := Lib.hid (fun W => single_any k t KA SA Kn Kc Sn Sc W)
  have HNum := Lib.hid (fun W => isNumber_any t ht W)
  have HVal := Lib.hid (fun W => valid_any t ht W)
  obtain ⟨c0, c1, c2, c3⟩ := box4 bx
  have e1 : ks.isEmpty = decide (Kn = 0) := by rw [hK]; cases ks <;> simp
  have e2 : vs.isEmpty = decide (Sn = 0) := by rw [hS]; cases vs <;> simp
  have e3 : decide (ks.length = vs.length) = decide (Kn = Sn) := by rw [hK, hS]
  have hte : (tb t).toList.isEmpty = t.isEmpty := by rw [isEmp, tb_size]; cases t <;> simp
  have BX := Lib.hid bx
  unfold aloneJ
  rw [e1, e2, e3]
  clear hb hK hS ht hks hkl hSl bx e1 e2 e3
  by_cases h1 : k = 1
  · subst h1
    rw [if_pos (by decide)]
    cases hem : t.isEmpty with
    | true =>
      rw [hem] at hte
      rw [Bool.true_and]
      go_enter Tryz.func48, Tryz.ntmps48
      go_wp2_with fail
      refine HSi.out.mono ?_
      rintro E w1 ⟨rfl, hb⟩
      have HB1 := HB.out.trans (hb.mono (by simp))
      go_wp2
      go_ret
      exact ⟨rfl, HB1⟩
    | false =>
      rw [hem] at hte
      rw [Bool.false_and]
      go_enter Tryz.func48, Tryz.ntmps48
      go_wp2_with fail
      go_ret
      exact ⟨rfl, HB.out⟩
  by_cases h2 : k = 2
  · subst h2
    rw [if_pos (by decide)]
    cases hem : t.isEmpty with
    | true =>
      rw [hem] at hte
      rw [Bool.true_and]
      go_enter Tryz.func48, Tryz.ntmps48
      go_wp2_with fail
      refine HSi.out.mono ?_
      rintro E w1 ⟨rfl, hb⟩
      have HB1 := HB.out.trans (hb.mono (by simp))
      go_wp2
      go_ret
      exact ⟨rfl, HB1⟩
    | false =>
      rw [hem] at hte
      rw [Bool.false_and]
      go_enter Tryz.func48, Tryz.ntmps48
      go_wp2_with fail
      go_ret
      exact ⟨rfl, HB.out⟩
  by_cases h3 : k = 3
  · subst h3
    rw [if_pos (by decide)]
    cases hem : t.isEmpty with
    | true =>
      rw [hem] at hte
      rw [Bool.true_and]
      go_enter Tryz.func48, Tryz.ntmps48
      go_wp2_with fail
      refine HSi.out.mono ?_
      rintro E w1 ⟨rfl, hb⟩
      have HB1 := HB.out.trans (hb.mono (by simp))
      go_wp2
      go_ret
      exact ⟨rfl, HB1⟩
    | false =>
      rw [hem] at hte
      rw [Bool.false_and]
      go_enter Tryz.func48, Tryz.ntmps48
      go_wp2_with fail
      go_ret
      exact ⟨rfl, HB.out⟩
  by_cases h4 : k = 4
  · subst h4
    rw [if_neg (by decide), if_pos rfl]
    cases hem : numT t with
    | true =>
      rw [hem] at HNum
      rw [Bool.true_and]
      go_enter Tryz.func48, Tryz.ntmps48
      go_wp2_with fail
      refine (HNum.out _).mono ?_
      rintro E w1 ⟨rfl, hb⟩
      have bx1 := BX.out.up hb
      have HB1 := Lib.hid (HB.out.trans (hb.mono (by simp)))
      clear c0 c1 c2 c3 hb
      obtain ⟨c0, c1, c2, c3⟩ := box4 bx1
      clear bx1
      go_wp2_with fail
      refine (HSW.out _).mono ?_
      rintro E w2 ⟨rfl, hb⟩
      have HB2 := HB1.out.trans (hb.mono HB1.out.size)
      go_wp2
      go_ret
      exact ⟨rfl, HB2⟩
    | false =>
      rw [hem] at HNum
      rw [Bool.false_and]
      go_enter Tryz.func48, Tryz.ntmps48
      go_wp2_with fail
      refine (HNum.out _).mono ?_
      rintro E w1 ⟨rfl, hb⟩
      have HB1 := Lib.hid (HB.out.trans (hb.mono (by simp)))
      go_wp2
      go_ret
      exact ⟨rfl, HB1.out⟩
  by_cases h5 : k = 5
  · subst h5
    rw [if_neg (by decide), if_neg (by decide), if_pos rfl]
    cases hem : validL t with
    | true =>
      rw [hem] at HVal
      rw [Bool.true_and]
      go_enter Tryz.func48, Tryz.ntmps48
      go_wp2_with fail
      refine (HVal.out _).mono ?_
      rintro E w1 ⟨rfl, hb⟩
      have bx1 := BX.out.up hb
      have HB1 := Lib.hid (HB.out.trans (hb.mono (by simp)))
      clear c0 c1 c2 c3 hb
      obtain ⟨c0, c1, c2, c3⟩ := box4 bx1
      clear bx1
      go_wp2_with fail
      refine (HSW.out _).mono ?_
      rintro E w2 ⟨rfl, hb⟩
      have HB2 := HB1.out.trans (hb.mono HB1.out.size)
      go_wp2
      go_ret
      exact ⟨rfl, HB2⟩
    | false =>
      rw [hem] at HVal
      rw [Bool.false_and]
      go_enter Tryz.func48, Tryz.ntmps48
      go_wp2_with fail
      refine (HVal.out _).mono ?_
      rintro E w1 ⟨rfl, hb⟩
      have HB1 := Lib.hid (HB.out.trans (hb.mono (by simp)))
      go_wp2
      go_ret
      exact ⟨rfl, HB1.out⟩
  by_cases h6 : k = 6
  · subst h6
    rw [if_neg (by decide), if_neg (by decide), if_neg (by decide), if_pos rfl]
    have he : ((Kn : Int) == 0) = decide (Kn = 0) := by
      rw [Bool.eq_iff_iff]
      simp
    cases hem : t.isEmpty with
    | true =>
      rw [hem] at hte
      rw [Bool.true_and]
      go_enter Tryz.func48, Tryz.ntmps48
      go_wp2_with fail
      go_ret
      refine ⟨?_, HB.out⟩
      show Ending.returned (.bool _) = _
      rw [← he]
    | false =>
      rw [hem] at hte
      rw [Bool.false_and]
      go_enter Tryz.func48, Tryz.ntmps48
      go_wp2_with fail
      go_ret
      exact ⟨rfl, HB.out⟩
  by_cases h7 : k = 7
  · subst h7
    rw [if_neg (by decide), if_neg (by decide), if_neg (by decide), if_neg (by decide), if_pos rfl]
    cases hem : t.isEmpty with
    | true =>
      rw [hem] at hte
      rw [Bool.true_and]
      by_cases hl : Kn = Sn
      · have hd : decide ((Kn : Int) = (Sn : Int)) = true := decide_eq_true (by omega)
        have hd2 : ((Kn : Int) == (Sn : Int)) = true := beq_iff_eq.2 (by omega)
        rw [decide_eq_true hl, Bool.true_and]
        clear hl
        go_enter Tryz.func48, Tryz.ntmps48
        go_wp2_with fail
        refine HKs.out.mono ?_
        rintro E w1 ⟨rfl, hb⟩
        have HB1 := HB.out.trans (hb.mono (by simp))
        go_wp2
        go_ret
        exact ⟨rfl, HB1⟩
      · have hd : decide ((Kn : Int) = (Sn : Int)) = false := decide_eq_false (by omega)
        have hd2 : ((Kn : Int) == (Sn : Int)) = false := beq_eq_false_iff_ne.2 (by omega)
        rw [decide_eq_false hl, Bool.false_and]
        clear hl
        go_enter Tryz.func48, Tryz.ntmps48
        go_wp2_with fail
        go_ret
        exact ⟨rfl, HB.out⟩
    | false =>
      rw [hem] at hte
      rw [Bool.false_and, Bool.false_and]
      go_enter Tryz.func48, Tryz.ntmps48
      go_wp2_with fail
      go_ret
      exact ⟨rfl, HB.out⟩
  rw [if_neg (by omega), if_neg h4, if_neg h5, if_neg h6, if_neg h7]
  have d1 : decide (k = 1) = false := decide_eq_false h1
  have b1 : (k == 1) = false := beq_eq_false_iff_ne.2 h1
  have d2 : decide (k = 2) = false := decide_eq_false h2
  have b2 : (k == 2) = false := beq_eq_false_iff_ne.2 h2
  have d3 : decide (k = 3) = false := decide_eq_false h3
  have b3 : (k == 3) = false := beq_eq_false_iff_ne.2 h3
  have d4 : decide (k = 4) = false := decide_eq_false h4
  have b4 : (k == 4) = false := beq_eq_false_iff_ne.2 h4
  have d5 : decide (k = 5) = false := decide_eq_false h5
  have b5 : (k == 5) = false := beq_eq_false_iff_ne.2 h5
  have d6 : decide (k = 6) = false := decide_eq_false h6
  have b6 : (k == 6) = false := beq_eq_false_iff_ne.2 h6
  have d7 : decide (k = 7) = false := decide_eq_false h7
  have b7 : (k == 7) = false := beq_eq_false_iff_ne.2 h7
  clear h1 h2 h3 h4 h5 h6 h7
  go_enter Tryz.func48, Tryz.ntmps48
  go_wp2_with fail
  go_ret
  exact ⟨rfl, HB.out⟩
end Go.Proofs.YtnkhghjcfhpeiaaGreatDoor

/-
  The program's rightKeys: a set of strings; as lists alone.
-/
namespace Go.Proofs.YtnkhghjcfhpeiaaGreatDoor
open Go.RowKit
/-- the keys, as the program looks at them -/
def rkL (kn : List Bs) : List Bs → Bool
  | [] => true
  | k :: r => if kn.contains k = true ∨ validL k = false then false else rkL (kn ++ [k]) r
theorem rk_spec : ∀ (ks kn : List Bs), rkL kn ks = (ks.all validL && apartL ks && ks.all (fun k => !kn.contains k))
  | [], kn => rfl
  | k :: r, kn => by
    rw [rkL]
    by_cases h1 : kn.contains k = true
    · rw [if_pos (.inl h1), List.all_cons, List.all_cons, h1]
      simp
    · by_cases h2 : validL k = false
      · rw [if_pos (.inr h2), List.all_cons, h2]
        simp
      · rw [if_neg (by simp only [not_or]; exact ⟨h1, h2⟩), rk_spec r (kn ++ [k]), List.all_cons, List.all_cons, apartL]
        have a : kn.contains k = false := by simpa using h1
        have b : validL k = true := by simpa using h2
        rw [a, b, Bool.eq_iff_iff]
        simp only [Bool.and_eq_true, List.all_eq_true, Bool.not_eq_true', List.contains_eq_mem, decide_eq_false_iff_not, List.mem_append, List.mem_singleton, not_or, Bool.true_and, Bool.not_false]
        constructor
        · rintro ⟨⟨p, q⟩, s⟩
          exact ⟨⟨p, ⟨fun hm => (s k hm).2 rfl, q⟩⟩, fun x hx => (s x hx).1⟩
        · rintro ⟨⟨p, ⟨q, q2⟩⟩, s⟩
          exact ⟨⟨p, q2⟩, fun x hx => ⟨s x hx, fun e => q (e ▸ hx)⟩⟩
theorem rk_all (ks : List Bs) : rkL [] ks = (ks.all validL && apartL ks) := by
  rw [rk_spec]
  simp
/-- a set of keys -/
def setE : List Bs → Nat → List MapEntry
  | [], _ => []
  | k :: r, n => { key := .string (tb k), val := .agg #[], born := n } :: setE r (n + 1)
theorem setE_app : ∀ (ks : List Bs) (k : Bs) (n : Nat), setE (ks ++ [k]) n = setE ks n ++ [{ key := .string (tb k), val := .agg #[], born := n + ks.length }]
  | [], k, n => rfl
  | x :: r, k, n => by
    rw [List.cons_append, setE, setE, setE_app r k (n + 1), List.length_cons, List.cons_append, show n + 1 + r.length = n + (r.length + 1) by omega]
theorem tb_beq (a b : Bs) : (tb a == tb b) = decide (a = b) := by
  rw [Bool.eq_iff_iff, MapKept.bytes_beq, decide_eq_true_iff]
  constructor
  · intro h
    have := congrArg dl h
    rwa [dl_tb, dl_tb] at this
  · intro h
    rw [h]
theorem set_find : ∀ (ks : List Bs) (x : Bs) (n i : Nat), (ks.contains x = true → ∃ j, Instr.findNow .string (.string (tb x)) (setE ks n) i = some (some (j, .agg #[]))) ∧ (ks.contains x = false → Instr.findNow .string (.string (tb x)) (setE ks n) i = some none)
  | [], x, n, i => ⟨fun h => (by cases h), fun _ => rfl⟩
  | k :: r, x, n, i => by
    have ih := set_find r x (n + 1) (i + 1)
    rw [setE, Instr.findNow]
    simp only [Instr.sameNow, tb_beq]
    by_cases h : x = k
    · subst h
      simp
    · rw [decide_eq_false h]
      have e : (k :: r).contains x = r.contains x := by simp [h]
      rw [e]
      exact ih
theorem sslk {W : World} {h : Nat} {ks : List Bs} {n : Nat} (hm : W.heap[h]? = some (.map (setE ks 0).toArray n)) (x : Bs) : (Instr.lookup 111 (.map (some h)) (.string (tb x)) true).run Tryz.prog W = .ok (.tuple #[.agg #[], .bool (ks.contains x)]) W := by
  have hk : ∀ q, (Instr.checkKey q 10000 9 (.string (tb x))).run Tryz.prog W = .ok () W := fun q => MapKept.run_checkKey (k := .string (tb x)) Tryz.underlying9 (by simp [MapKept.IsKey]) q 9999
  cases hc : ks.contains x with
  | true =>
    obtain ⟨j, hf⟩ := (set_find ks x 0 0).1 hc
    simp [Instr.lookup, run_underlying Tryz.underlying111, MapKept.run_getObj_map hm, hk, MapKept.run_findKey Tryz.underlying9 hf, Result.andThen]
  | false =>
    have hf := (set_find ks x 0 0).2 hc
    simp [Instr.lookup, run_underlying Tryz.underlying111, MapKept.run_getObj_map hm, hk, MapKept.run_findKey Tryz.underlying9 hf, Result.andThen, Tryz.zeroValue112]
theorem sput {W : World} {h : Nat} {ks : List Bs} {n : Nat} (hm : W.heap[h]? = some (.map (setE ks 0).toArray n)) (hn : n = ks.length) (x : Bs) (hx : ks.contains x = false) : (Instr.mapUpdate 111 (.map (some h)) (.string (tb x)) (.agg #[])).run Tryz.prog W = .ok () (wmap W h (setE (ks ++ [x]) 0).toArray (n + 1)) := by
  have hk : (Instr.checkKey false 10000 9 (.string (tb x))).run Tryz.prog W = .ok () W := MapKept.run_checkKey (k := .string (tb x)) Tryz.underlying9 (by simp [MapKept.IsKey]) false 9999
  have hf := (set_find ks x 0 0).2 hx
  simp [Instr.mapUpdate, run_underlying Tryz.underlying111, MapKept.run_getObj_map hm, hk, MapKept.run_findKey Tryz.underlying9 hf, MapKept.run_setObj_map _ hm, Result.andThen]
  rw [setE_app, Nat.zero_add, ← hn]
  simp [wmap]
end Go.Proofs.YtnkhghjcfhpeiaaGreatDoor

/-
  The program's rightKeys, walked.
-/
namespace Go.Proofs.YtnkhghjcfhpeiaaGreatDoor
open Go.RowKit
/-- so many keys lie in the set -/
structure SSt (w wr : World) (h : Nat) (ks : List Bs) (i : Nat) : Prop where
  mp : wr.heap[h]? = some (.map (setE (ks.take i) 0).toArray i)
  bw : Below h w wr
theorem svs_at {ks : List Bs} {i : Nat} {k : Bs} (h : ks[i]? = some k) : (svs (ks.map tb))[i]? = some (.string (tb k)) := by
  unfold svs
  rw [List.getElem?_map, List.getElem?_map, h]
  rfl
set_option maxRecDepth 100000 in
set_option maxHeartbeats 4000000 in
theorem rightKeys_any : HKeys := by
  intro P ks K w hks hkl hS
  obtain ⟨KA, Kn, Kc⟩ := K
  have hKn : ks.length = Kn := by
    have := hS.len
    unfold svs at this
    simpa using this
  rw [← rk_all]
  have hmm := @run_makeMap Tryz.prog
  obtain ⟨h, hh⟩ : ∃ h, w.heap.size = h := ⟨_, rfl⟩
  have hb0 := ba1 w (.map #[] 0)
  have hn0 := heap_alloc_new w (.map #[] 0)
  rw [hh] at hb0 hn0
  have HS0 : Hid (SSt w (w.alloc (.map #[] 0)) h ks 0) := Lib.hid ⟨hn0, hb0⟩
  obtain ⟨R0, hR0⟩ : ∃ R0, rkL [] ks = R0 := ⟨_, rfl⟩
  rw [hR0]
  have HR0 : Hid (R0 = rkL (ks.take 0) (ks.drop 0)) := Lib.hid hR0.symm
  have HV := Lib.hid (fun (x : Bs) (hx : x ∈ ks) W => valid_any x (hks x hx) W)
  have HC : Hid (∀ W i k, ks[i]? = some k → Below h w W → W.cell? (KA.getD default |>.add i) = some (.string (tb k))) := Lib.hid (by
    intro W i k hi hb
    have hlt := (List.getElem?_eq_some_iff.1 hi).1
    obtain ⟨b, o, e, _, hl, hc⟩ := hS.rd (by unfold svs; simp only [List.length_map]; omega)
    simp only at e
    subst e
    have := hc i _ (svs_at hi)
    show W.cell? (Addr.add ⟨b, o, none⟩ i) = _
    rw [Addr.add_lit, hb.cell (p := ⟨b, o + i, none⟩) (by simp only; omega)]
    exact this)
  have HA : Hid (0 < Kn → ∃ b o, KA = some ⟨b, o, none⟩) := Lib.hid (by
    intro hp
    obtain ⟨b, o, e, _⟩ := hS.rd (by unfold svs; simp only [List.length_map]; omega)
    exact ⟨b, o, e⟩)
  have HH := Lib.hid hh
  have HKn := Lib.hid hKn
  have hm : Kn ≤ 1000000 := by omega
  clear hb0 hn0 hR0 hks hS hh hKn hkl
  go_enter Tryz.func72, Tryz.ntmps72
  go_wp2_with fail
  rw [HH.out]
  go_loopw [11] (fun e wr => ∃ (i : Nat), i ≤ Kn ∧ e = .int .i64 (i : Int) ∧ Hid (SSt w wr h ks i) ∧ Hid (R0 = rkL (ks.take i) (ks.drop i))) (fun e _ => Kn - (intOf e).toNat)
  case atStart => exact ⟨0, by omega, rfl, HS0, HR0⟩
  case round =>
    obtain ⟨i, hi, rfl, HSt, HRt⟩ := hrel
    by_cases he : i = Kn
    · have hq : R0 = true := by rw [HRt.out, List.drop_eq_nil_of_le (by have := HKn.out; omega)]; rfl
      subst hq
      subst he
      have hb : Below w.heap.size w wr := by rw [HH.out]; exact HSt.out.bw
      have HB := Lib.hid hb
      clear hb HSt HRt HR0 HS0 hmm
      go_wp2
      go_ret
      exact ⟨rfl, HB.out⟩
    · have hlt : i < ks.length := by have := HKn.out; omega
      obtain ⟨k, hk⟩ : ∃ k, ks[i]? = some k := ⟨ks[i], List.getElem?_eq_getElem hlt⟩
      obtain ⟨b, o, hA⟩ := HA.out (by omega)
      subst hA
      have hc := HC.out wr i k hk HSt.out.bw
      replace hc : wr.cell? ⟨b, o + i, none⟩ = some (.string (tb k)) := by
        have e : (Addr.add ⟨b, o, none⟩ i) = ⟨b, o + i, none⟩ := Addr.add_lit _ _ _
        rw [← e]
        exact hc
      have hdr : ks.drop i = k :: ks.drop (i + 1) := by
        rw [List.drop_eq_getElem_cons hlt]
        congr 1
        exact (List.getElem?_eq_some_iff.1 hk).2
      have htk : ks.take (i + 1) = ks.take i ++ [k] := by
        rw [List.take_add_one, hk]
        rfl
      have hst := HRt.out
      rw [hdr, rkL] at hst
      have hi1 : (i : Int) < (Kn : Int) := by omega
      have hi0 : (0 : Int) ≤ (i : Int) := by omega
      have hlk := sslk HSt.out.mp k
      have hmem : k ∈ ks := List.mem_of_getElem? hk
      have hba := ba1 wr (.cells #[] 112)
      have hmp := (hba.block h (Array.getElem?_eq_some_iff.1 HSt.out.mp).1).trans HSt.out.mp
      have hhl := (Array.getElem?_eq_some_iff.1 HSt.out.mp).1
      have hbw : Below h w (wr.alloc (.cells #[] 112)) := HSt.out.bw.trans (hba.mono (by omega))
      have HVk := Lib.hid (HV.out k hmem)
      have HMp := Lib.hid hmp
      have HBw := Lib.hid hbw
      have Htk := Lib.hid htk
      clear HSt HRt HR0 HS0 HC HA hmm hk hmem hba hmp hbw hdr htk hlt HV
      cases hcn : (ks.take i).contains k with
      | true =>
        rw [hcn] at hlk
        have hq : R0 = false := hst.trans (if_pos (.inl hcn))
        subst hq
        clear hst hcn
        go_wp2
        go_ret
        exact ⟨rfl, by rw [HH.out]; exact HBw.out⟩
      | false =>
        rw [hcn] at hlk
        cases hv : validL k with
        | false =>
          rw [hv] at HVk
          have hq : R0 = false := hst.trans (if_pos (.inr hv))
          subst hq
          clear hst hcn hv
          go_wp2_with fail
          refine (HVk.out _).mono ?_
          rintro E w5 ⟨rfl, hb⟩
          have hb5 := HBw.out.trans (hb.mono (by simp; omega))
          have HB5 := Lib.hid hb5
          clear hb5 hb
          go_wp2
          go_ret
          exact ⟨rfl, by rw [HH.out]; exact HB5.out⟩
        | true =>
          rw [hv] at HVk
          have hq : R0 = rkL (ks.take i ++ [k]) (ks.drop (i + 1)) := hst.trans (if_neg (by rw [hcn, hv]; simp))
          have HQ := Lib.hid hq
          have hti : (ks.take i).length = i := by rw [List.length_take]; have := HKn.out; omega
          have HTi := Lib.hid hti
          have Hcn := Lib.hid hcn
          clear hst hcn hv hq hti
          go_wp2_with fail
          refine (HVk.out _).mono ?_
          rintro E w5 ⟨rfl, hb⟩
          have hmp5 := (hb.block h (Array.getElem?_eq_some_iff.1 HMp.out).1).trans HMp.out
          have hput := sput hmp5 HTi.out.symm k Hcn.out
          have hb5 := HBw.out.trans (hb.mono (by simp; omega))
          have hS : SSt w (wmap w5 h (setE (ks.take i ++ [k]) 0).toArray (i + 1)) h ks (i + 1) := by
            refine ⟨by rw [Htk.out]; exact wmap_new hmp5 _ _, ?_⟩
            exact ⟨hb5.os, hb5.tape, hb5.output, by simpa [wmap] using hb5.size, fun b hb => (wmap_blk _ _ _ _ _ (by omega)).trans (hb5.block b hb)⟩
          have HS := Lib.hid hS
          have HQ2 : Hid (R0 = rkL (ks.take (i + 1)) (ks.drop (i + 1))) := Lib.hid (by rw [Htk.out]; exact HQ.out)
          clear hmp5 hb5 hS hb HQ hlk
          go_wp2
          go_roundw
          case rel => exact ⟨i + 1, by omega, by go_num, HS, HQ2⟩
          case measure => simp [intOf]; omega
end Go.Proofs.YtnkhghjcfhpeiaaGreatDoor

/-
  The program's check.right, walked by induction on how great a value is.
-/
namespace Go.Proofs.YtnkhghjcfhpeiaaGreatDoor
open Go.RowKit
theorem wtK_mem : ∀ (ks : List Bs) (x : Bs), x ∈ ks → x.length + 1 ≤ wtK ks
  | [], x, h => by cases h
  | k :: r, x, h => by
    rw [wtK]
    rcases List.mem_cons.1 h with rfl | h
    · omega
    · have := wtK_mem r x h
      omega
theorem wtK_len : ∀ (ks : List Bs), ks.length ≤ wtK ks
  | [] => by rw [wtK]; simp
  | k :: r => by
    have := wtK_len r
    rw [wtK, List.length_cons]
    omega
theorem wtL_mem : ∀ (vs : List Jv) (x : Jv), x ∈ vs → wtJ x ≤ wtL vs
  | [], x, h => by cases h
  | k :: r, x, h => by
    rw [wtL]
    rcases List.mem_cons.1 h with rfl | h
    · omega
    · have := wtL_mem r x h
      omega
theorem wtJ_pos (v : Jv) : 1 ≤ wtJ v := by
  cases v
  rw [wtJ]
  omega
theorem wtL_len : ∀ (vs : List Jv), vs.length ≤ wtL vs
  | [] => by rw [wtL]; simp
  | v :: r => by
    have := wtL_len r
    have := wtJ_pos v
    rw [wtL, List.length_cons]
    omega
/-- what is told of check.right -/
def CkEnds (gc : Nat) (q : Bool × Nat) (w : World) (E : Ending) (w' : World) : Prop := E = .returned (.bool q.1) ∧ Box w' gc 57 #[.int .i64 (q.2 : Int)] ∧ But gc w w'
set_option maxRecDepth 100000 in
set_option maxHeartbeats 8000000 in
theorem ck_step (gc : Nat) (P : Nat → Prop) (hP : ∀ b, P b → b ≠ gc) (N : Nat) (hN : N ≤ 10000)
    (ih : ∀ (v : Jv) (o n : Nat) (K S : Sli) (W : World), wtJ v ≤ N → o ≤ 16 → n ≤ 500 → JV W P v (jx v K S) → Box W gc 57 #[.int .i64 (n : Int)] → Calls Tryz.prog 27 #[.pointer (some ⟨gc, 0, none⟩), jx v K S, .int .i64 (o : Int)] W (CkEnds gc (chkJ o n v) W))
    (v : Jv) (o n : Nat) (K S : Sli) (W : World) (hw : wtJ v ≤ N + 1) (ho : o ≤ 16) (hn : n ≤ 500) (hv : JV W P v (jx v K S)) (hx : Box W gc 57 #[.int .i64 (n : Int)]) :
    Calls Tryz.prog 27 #[.pointer (some ⟨gc, 0, none⟩), jx v K S, .int .i64 (o : Int)] W (CkEnds gc (chkJ o n v) W) := by
  obtain ⟨k, t, ks, vs⟩ := v
  obtain ⟨n1, hn1⟩ : ∃ n1, n + 1 = n1 := ⟨_, rfl⟩
  have hv0 := hv
  rw [JV] at hv
  obtain ⟨K', S', cs, he, hks, hvs, hjl⟩ := hv
  obtain ⟨KA, Kn, Kc⟩ := K
  obtain ⟨SA, Sn, Sc⟩ := S
  obtain ⟨KA', Kn', Kc'⟩ := K'
  obtain ⟨SA', Sn', Sc'⟩ := S'
  simp [jx, Jv.k, Jv.t] at he
  obtain ⟨⟨rfl, rfl, rfl⟩, rfl, rfl, rfl⟩ := he
  have hKn : Kn = ks.length := by
    have := hks.len
    unfold svs at this
    simp at this
    omega
  have hSn : Sn = vs.length := hvs.num hjl
  rw [wtJ] at hw
  have hkl := wtK_len ks
  have hvl := wtL_len vs
  simp only [jx, Jv.k, Jv.t]
  have hgl := hx.lt
  have hbA := ba1 W (.cells #[.int .i64 k, .string (tb t), .slice KA Kn Kc, .slice SA Sn Sc] 25)
  have bv := Box.new W 25 #[.int .i64 k, .string (tb t), .slice KA Kn Kc, .slice SA Sn Sc]
  have bc := hx.up hbA
  obtain ⟨gv, hgv⟩ : ∃ gv, W.heap.size = gv := ⟨_, rfl⟩
  rw [hgv] at bv
  have hne : gv ≠ gc := by omega
  have bv1 := bv.far (p := ⟨gc, 0, none⟩) hne (.int .i64 (n1 : Int))
  have bc1 := bc.set 0 (.int .i64 (n1 : Int))
  simp only [List.setIfInBounds_toArray, List.set_cons_zero] at bc1
  have hbt := (But.of (g := gc) hbA).on (but_cell _ gc 0 (.int .i64 (n1 : Int)))
  have hk1 : SlP ((W.alloc (.cells #[.int .i64 k, .string (tb t), .slice KA Kn Kc, .slice SA Sn Sc] 25)).setCell ⟨gc, 0, none⟩ (.int .i64 (n1 : Int))) P ⟨KA, Kn, Kc⟩ 1 (svs (ks.map tb)) := ⟨hks.len, hks.rd.to (Keeps.but hbt (fun b hp => hP b hp) (fun _ hp _ => hp)), hks.cap, hks.le⟩
  have HRA := Lib.hid (rightAlone_any rightKeys_any P k t ks vs KA SA Kn Kc Sn Sc _ hKn hSn (by omega) (fun x hx => by have := wtK_mem ks x hx; omega) (by omega) hk1)
  have hwr : IntKind.i64.wrap ((n : Int) + 1) = (n1 : Int) := by rw [IntWalk.i64_in _ (by omega)]; omega
  have c0 := bc.c 0 rfl
  have f0 := bc.f 0
  have C1 := Lib.hid bc1
  have V1 := Lib.hid bv1
  have BT := Lib.hid hbt
  rw [chkJ, hn1]
  obtain ⟨c0v, c1v, c2v, c3v⟩ := box4 bv1
  have cn := bc1.c 0 rfl
  have HSn := Lib.hid hSn
  clear bc bv bv1 bc1 hbt hk1 hbA hx hks hkl hvl hv0 hKn hSn
  by_cases h16 : o = 16
  · rw [if_pos (.inl h16)]
    have d1 : decide ((o : Int) = 16) = true := decide_eq_true (by omega)
    have d2 : ((o : Int) == 16) = true := beq_iff_eq.2 (by omega)
    clear h16 HRA hn1
    go_enter Tryz.func27, Tryz.ntmps27
    go_wp2_with fail
    go_ret
    exact ⟨rfl, C1.out, BT.out⟩
  · have d1 : decide ((o : Int) = 16) = false := decide_eq_false (by omega)
    have d2 : ((o : Int) == 16) = false := beq_eq_false_iff_ne.2 (by omega)
    by_cases h5 : 500 < n1
    · rw [if_pos (.inr (.inl h5))]
      have e1 : decide ((500 : Int) < (n1 : Int)) = true := decide_eq_true (by omega)
      clear h16 h5 HRA hn1
      go_enter Tryz.func27, Tryz.ntmps27
      go_wp2_with fail
      go_ret
      exact ⟨rfl, C1.out, BT.out⟩
    · have e1 : decide ((500 : Int) < (n1 : Int)) = false := decide_eq_false (by omega)
      cases ha : aloneJ k t ks vs with
      | false =>
        rw [ha] at HRA
        rw [if_pos (.inr (.inr rfl))]
        clear h16 h5 hn1 ha
        go_enter Tryz.func27, Tryz.ntmps27
        go_wp2_with fail
        refine HRA.out.mono ?_
        rintro E w5 ⟨rfl, hb⟩
        have C5 := Lib.hid (C1.out.up hb)
        have B5 := Lib.hid (BT.out.on (But.of hb))
        clear hb
        go_wp2
        go_ret
        exact ⟨rfl, C5.out, B5.out⟩
      | true =>
        rw [ha] at HRA
        rw [if_neg (by simp [h16, h5])]
        obtain ⟨o1, ho1⟩ : ∃ o1, o + 1 = o1 := ⟨_, rfl⟩
        have hwo : IntKind.i64.wrap ((o : Int) + 1) = (o1 : Int) := by rw [IntWalk.i64_in _ (by omega)]; omega
        rw [ho1]
        obtain ⟨R0, hR0⟩ : ∃ R0, chkL o1 n1 vs = R0 := ⟨_, rfl⟩
        rw [hR0]
        have HR0 : Hid (R0 = chkL o1 n1 (vs.drop 0)) := Lib.hid hR0.symm
        have ho2 : o1 ≤ 16 := by omega
        have hn5 : n1 ≤ 500 := by omega
        have HVS := Lib.hid hvs
        have HJL := Lib.hid hjl
        have HIH := Lib.hid (fun (x : Jv) (hx : x ∈ vs) m K S W (h1 : m ≤ 500) h2 h3 => ih x o1 m K S W (by have := wtL_mem vs x hx; omega) ho2 h1 h2 h3)
        have hSm : Sn ≤ 10000 := by have := HSn.out; have := wtL_len vs; omega
        have HP := Lib.hid hP
        clear h16 h5 ha hR0 hvs hjl ih ho1 hn1 hw hP
        go_enter Tryz.func27, Tryz.ntmps27
        go_wp2_with fail
        refine HRA.out.mono ?_
        rintro E w5 ⟨rfl, hb⟩
        have C5 := Lib.hid (C1.out.up hb)
        have B5 := Lib.hid (BT.out.on (But.of hb))
        clear c0v c1v c2v c3v
        obtain ⟨c0v, c1v, c2v, c3v⟩ := box4 (V1.out.up hb)
        clear hb HRA C1 BT V1 cn
        go_wp2_with fail
        go_loopw [33] (fun e wr => ∃ (i m : Nat), i ≤ Sn ∧ e = .int .i64 (i : Int) ∧ m ≤ 500 ∧ Hid (Box wr gc 57 #[.int .i64 (m : Int)]) ∧ Hid (But gc W wr) ∧ Hid (R0 = chkL o1 m (vs.drop i))) (fun e _ => Sn - (intOf e).toNat)
        case atStart => exact ⟨0, n1, by omega, rfl, hn5, C5, B5, HR0⟩
        case round =>
          obtain ⟨i, m, hi, rfl, hm5, HC, HBu, HRt⟩ := hrel
          by_cases he : i = Sn
          · have hq : R0 = (true, m) := by rw [HRt.out, List.drop_eq_nil_of_le (by have := HSn.out; omega), chkL]
            subst hq
            subst he
            clear HR0 HRt
            go_wp2
            go_ret
            exact ⟨rfl, HC.out, HBu.out⟩
          · have hlt : i < vs.length := by have := HSn.out; omega
            obtain ⟨x, hx⟩ : ∃ x, vs[i]? = some x := ⟨vs[i], List.getElem?_eq_getElem hlt⟩
            have hkp := Keeps.but (P := P) (P' := P) HBu.out (fun b hp => HP.out b hp) (fun _ hp _ => hp)
            have hvs2 : SlP wr P ⟨SA, Sn, Sc⟩ 4 cs := ⟨HVS.out.len, HVS.out.rd.to hkp, HVS.out.cap, HVS.out.le⟩
            obtain ⟨b, off, x0, x1, x2, x3, hA, k0, k1, k2, k3, hjx⟩ := hvs2.kid (JL.to hkp _ _ HJL.out) hx
            simp only at hA
            subst hA
            obtain ⟨⟨KA3, Kn3, Kc3⟩, ⟨SA3, Sn3, Sc3⟩, hjj⟩ := JV.jx hjx
            rw [hjj] at hjx
            simp only [jx, Value.agg.injEq, Array.mk.injEq, List.cons.injEq, and_true] at hjj
            obtain ⟨rfl, rfl, rfl, rfl⟩ := hjj
            have hba := ba1 wr (.cells #[.int .i64 x.k, .string (tb x.t), .slice KA3 Kn3 Kc3, .slice SA3 Sn3 Sc3] 25)
            have HCa := Lib.hid (HIH.out x (List.mem_of_getElem? hx) m ⟨KA3, Kn3, Kc3⟩ ⟨SA3, Sn3, Sc3⟩ _ hm5 (hjx.up hba) (HC.out.up hba))
            have HB2 := Lib.hid (HBu.out.on (But.of hba))
            have hdr : vs.drop i = x :: vs.drop (i + 1) := by
              rw [List.drop_eq_getElem_cons hlt]
              congr 1
              exact (List.getElem?_eq_some_iff.1 hx).2
            have hst := HRt.out
            rw [hdr, chkL] at hst
            have hsp := chkJ_spec x o1 m ho2
            have hi1 : (i : Int) < (Sn : Int) := by omega
            have hi0 : (0 : Int) ≤ (i : Int) := by omega
            clear hdr hx hlt hkp hvs2 hjx hba HC HBu HRt HR0 HIH HVS HJL
            simp only [jx] at HCa
            cases hq : chkJ o1 m x with
            | mk b2 m2 =>
              rw [hq] at hst hsp HCa
              simp only at hst hsp
              cases b2 with
              | true =>
                have hm2 : m2 ≤ 500 := by have := hsp.2 rfl; have := (hsp.1.1 rfl).2; omega
                have HQ : Hid (R0 = chkL o1 m2 (vs.drop (i + 1))) := Lib.hid (hst.trans (if_pos rfl))
                clear hst hsp hq
                go_wp2_with fail
                refine HCa.out.mono ?_
                rintro E w7 ⟨rfl, hc7, hb7⟩
                have C7 := Lib.hid hc7
                have B7 := Lib.hid (HB2.out.on hb7)
                clear hc7 hb7 HCa HB2
                go_wp2
                go_roundw
                case rel => exact ⟨i + 1, m2, by omega, by go_num, hm2, C7, B7, HQ⟩
                case measure => simp [intOf]; omega
              | false =>
                have hq2 : R0 = (false, m2) := hst.trans (if_neg (by decide))
                subst hq2
                clear hst hsp hq
                go_wp2_with fail
                refine HCa.out.mono ?_
                rintro E w7 ⟨rfl, hc7, hb7⟩
                have C7 := Lib.hid hc7
                have B7 := Lib.hid (HB2.out.on hb7)
                clear hc7 hb7 HCa HB2
                go_wp2
                go_ret
                exact ⟨rfl, C7.out, B7.out⟩
end Go.Proofs.YtnkhghjcfhpeiaaGreatDoor

/-
  The program's Right, walked.
-/
namespace Go.Proofs.YtnkhghjcfhpeiaaGreatDoor
open Go.RowKit
theorem ck_any (gc : Nat) (P : Nat → Prop) (hP : ∀ b, P b → b ≠ gc) : ∀ N, N ≤ 10001 → ∀ (v : Jv) (o n : Nat) (K S : Sli) (W : World), wtJ v ≤ N → o ≤ 16 → n ≤ 500 → JV W P v (jx v K S) → Box W gc 57 #[.int .i64 (n : Int)] → Calls Tryz.prog 27 #[.pointer (some ⟨gc, 0, none⟩), jx v K S, .int .i64 (o : Int)] W (CkEnds gc (chkJ o n v) W) := by
  intro N
  induction N with
  | zero =>
    intro _ v o n K S W hw
    have := wtJ_pos v
    omega
  | succ N ih =>
    intro hN v o n K S W hw ho hn hv hx
    exact ck_step gc P hP N (by omega) (ih (by omega)) v o n K S W hw ho hn hv hx
set_option maxRecDepth 100000 in
set_option maxHeartbeats 4000000 in
theorem jpr : JPR := by
  intro v K S W hw hv _
  obtain ⟨KA, Kn, Kc⟩ := K
  obtain ⟨SA, Sn, Sc⟩ := S
  obtain ⟨hb, _, hc, hsz⟩ := two_new W #[.int .i64 v.k, .string (tb v.t), .slice KA Kn Kc, .slice SA Sn Sc] #[.int .i64 0] 25 57
  have bv := (Box.new W 25 #[.int .i64 v.k, .string (tb v.t), .slice KA Kn Kc, .slice SA Sn Sc]).up (ba1 _ (.cells #[.int .i64 0] 57))
  have hv2 : JV W (fun b => b < W.heap.size) v (jx v ⟨KA, Kn, Kc⟩ ⟨SA, Sn, Sc⟩) := JV.to ⟨fun _ _ _ _ => rfl, Nat.le_refl _, fun b _ hl => hl⟩ _ _ hv
  have hv3 := JV.up hv2 hb
  have HC := Lib.hid (ck_any (W.heap.size + 1) (fun b => b < W.heap.size) (fun b hp => by omega) 10000 (by omega) v 0 0 ⟨KA, Kn, Kc⟩ ⟨SA, Sn, Sc⟩ _ hw (by omega) (by omega) hv3 hc)
  have HB := Lib.hid hb
  rw [← chk_right]
  obtain ⟨c0, c1, c2, c3⟩ := box4 bv
  simp only [jx] at HC ⊢
  clear hb hc bv hv hv2 hv3 hw
  obtain ⟨⟨b, m⟩, hq⟩ : ∃ q, chkJ 0 0 v = q := ⟨_, rfl⟩
  rw [hq] at HC ⊢
  clear hq
  go_enter Tryz.func16, Tryz.ntmps16
  go_wp2_with fail
  refine HC.out.mono ?_
  rintro E w1 ⟨rfl, _, hb1⟩
  have HB1 := Lib.hid (HB.out.trans (hb1.low (B := W.heap.size) (by omega) (by omega)))
  clear hb1
  go_wp2
  go_ret
  exact ⟨rfl, HB1.out⟩
end Go.Proofs.YtnkhghjcfhpeiaaGreatDoor

/-
  The program's quoted, walked.
-/
namespace Go.Proofs.YtnkhghjcfhpeiaaGreatDoor
open Go.RowKit
set_option maxRecDepth 100000 in
set_option maxHeartbeats 2000000 in
theorem quoted_any (s : Bs) (hs : s.length ≤ 1000000) (w : World) (hT : TQ w) : Calls Tryz.prog 34 #[.string (tb s)] w (fun E w' => E = .returned (.string (tb (quoteQ s).1)) ∧ Below w.heap.size w w') := by
  have HQ := Lib.hid (quote_any s hs w hT)
  obtain ⟨⟨q, e⟩, hq⟩ : ∃ q, quoteQ s = q := ⟨_, rfl⟩
  rw [hq] at HQ ⊢
  clear hq hT hs
  go_enter Tryz.func34, Tryz.ntmps34
  go_wp2_with fail
  refine HQ.out.mono ?_
  rintro E w1 ⟨rfl, hb⟩
  have HB := Lib.hid hb
  clear hb
  go_wp2
  go_ret
  exact ⟨rfl, HB.out⟩
end Go.Proofs.YtnkhghjcfhpeiaaGreatDoor

/-
  slices.Equal of strings, walked.
-/
namespace Go.Proofs.YtnkhghjcfhpeiaaGreatDoor
open Go.RowKit
theorem slp_cell {w : World} {P : Nat → Prop} {A : Option Addr} {n c : Nat} {ks : List Bs} (h : SlP w P ⟨A, n, c⟩ 1 (svs (ks.map tb))) {i : Nat} {k : Bs} (hi : ks[i]? = some k) : ∃ b o, A = some ⟨b, o, none⟩ ∧ w.cell? ⟨b, o + i, none⟩ = some (.string (tb k)) := by
  have hlt := (List.getElem?_eq_some_iff.1 hi).1
  obtain ⟨b, o, e, _, hl, hc⟩ := h.rd (by unfold svs; simp only [List.length_map]; omega)
  exact ⟨b, o, e, hc i _ (svs_at hi)⟩
theorem eq_snoc {ks ls : List Bs} {i : Nat} {a b : Bs} (ha : ks[i]? = some a) (hb : ls[i]? = some b) (h : ks.take i = ls.take i) (hab : a = b) : ks.take (i + 1) = ls.take (i + 1) := by
  rw [List.take_add_one, List.take_add_one, ha, hb, h, hab]
set_option maxRecDepth 100000 in
set_option maxHeartbeats 4000000 in
theorem sequal_any (P P2 : Nat → Prop) (ks ls : List Bs) (A B : Option Addr) (n c m d : Nat) (w : World) (hn : n = ks.length) (hm : m = ls.length) (hl : n ≤ 1000000) (h1 : SlP w P ⟨A, n, c⟩ 1 (svs (ks.map tb))) (h2 : SlP w P2 ⟨B, m, d⟩ 1 (svs (ls.map tb))) : Calls Tryz.prog 47 #[.slice A n c, .slice B m d] w (BoolEnds (decide (ks = ls)) w) := by
  by_cases hnm : n = m
  · subst hnm
    have hdn : ((n : Int) == (n : Int)) = true := beq_iff_eq.2 rfl
    have HB0 := Lib.hid (Below.refl w.heap.size w)
    have H1 := Lib.hid (fun W (hb : Below w.heap.size w W) => slp_up h1 hb)
    have H2 := Lib.hid (fun W (hb : Below w.heap.size w W) => slp_up h2 hb)
    have HN := Lib.hid hn
    have HM := Lib.hid hm
    clear h1 h2 hn hm
    go_enter Tryz.func47, Tryz.ntmps47
    go_wp2_with fail
    go_loopw [13] (fun e wr => ∃ (i : Nat), i ≤ n ∧ e = .int .i64 (i : Int) ∧ Hid (Below w.heap.size w wr) ∧ Hid (ks.take i = ls.take i)) (fun e _ => n - (intOf e).toNat)
    case atStart => exact ⟨0, by omega, rfl, HB0, Lib.hid rfl⟩
    case round =>
      obtain ⟨i, hi, rfl, HB, HT⟩ := hrel
      by_cases he : i = n
      · have hq : ks = ls := by
          have := HT.out
          rw [he] at this
          have e1 : ks.take n = ks := by rw [HN.out]; exact List.take_length
          have e2 : ls.take n = ls := by rw [HM.out]; exact List.take_length
          rw [e1, e2] at this
          exact this
        have HQ := Lib.hid hq
        subst he
        clear hq HT
        go_wp2
        go_ret
        refine ⟨?_, HB.out⟩
        rw [decide_eq_true HQ.out]
        rfl
      · obtain ⟨a, ha⟩ : ∃ a, ks[i]? = some a := ⟨ks[i]'(by have := HN.out; omega), List.getElem?_eq_getElem _⟩
        obtain ⟨b, hb⟩ : ∃ b, ls[i]? = some b := ⟨ls[i]'(by have := HM.out; omega), List.getElem?_eq_getElem _⟩
        obtain ⟨b1, o1, rfl, k1⟩ := slp_cell (H1.out wr HB.out) ha
        obtain ⟨b2, o2, rfl, k2⟩ := slp_cell (H2.out wr HB.out) hb
        have hi1 : (i : Int) < (n : Int) := by omega
        have hi0 : (0 : Int) ≤ (i : Int) := by omega
        have HA := Lib.hid ha
        have HBb := Lib.hid hb
        clear ha hb
        by_cases hab : a = b
        · have hbq : ((tb a).toList == (tb b).toList) = true := by rw [← beq_toListBytes, tb_beq]; exact decide_eq_true hab
          have HS := Lib.hid (eq_snoc HA.out HBb.out HT.out hab)
          clear hab HT HA HBb H1 H2
          go_wp2_with fail
          go_quiet (fail)
          rename_i nq
          have HB2 := Lib.hid (HB.out.trans ((below_drewN (Below.refl wr.heap.size wr) nq).mono HB.out.size))
          generalize wr.drewN nq = wx at *
          go_wp2
          go_roundw
          case rel => exact ⟨i + 1, by omega, by go_num, HB2, HS⟩
          case measure => simp [intOf]; omega
        · have hbq : ((tb a).toList == (tb b).toList) = false := by rw [← beq_toListBytes, tb_beq]; exact decide_eq_false hab
          have hne : ¬ ks = ls := by
            intro e
            have h3 := HA.out
            rw [e, HBb.out] at h3
            exact hab (Option.some.inj h3).symm
          have HQ := Lib.hid hne
          clear hab HT HA HBb H1 H2 hne
          go_wp2_with fail
          go_quiet (fail)
          rename_i nq
          have HB2 := Lib.hid (HB.out.trans ((below_drewN (Below.refl wr.heap.size wr) nq).mono HB.out.size))
          generalize wr.drewN nq = wx at *
          go_wp2
          go_ret
          refine ⟨?_, HB2.out⟩
          rw [decide_eq_false HQ.out]
          rfl
  · have hd : decide ((n : Int) = (m : Int)) = false := decide_eq_false (by omega)
    have hd2 : ((n : Int) == (m : Int)) = false := beq_eq_false_iff_ne.2 (by omega)
    rw [decide_eq_false (fun e => hnm (by rw [hn, hm, e]))]
    clear hn hm hnm h1 h2 hl
    go_enter Tryz.func47, Tryz.ntmps47
    go_wp2
    go_ret
    exact ⟨rfl, Below.refl _ _⟩
end Go.Proofs.YtnkhghjcfhpeiaaGreatDoor

/-
  The program's sameAlone, walked.
-/
namespace Go.Proofs.YtnkhghjcfhpeiaaGreatDoor
open Go.RowKit
set_option maxRecDepth 100000 in
set_option maxHeartbeats 4000000 in
theorem sameAlone_any (P P2 : Nat → Prop) (k k2 : Int) (t t2 : Bs) (ks ls : List Bs) (KA SA KB SB : Option Addr) (Kn Kc Sn Sc Ln Lc Tn Tc : Nat) (w : World) (hn : Kn = ks.length) (hm : Ln = ls.length) (hl : Kn ≤ 1000000) (h1 : SlP w P ⟨KA, Kn, Kc⟩ 1 (svs (ks.map tb))) (h2 : SlP w P2 ⟨KB, Ln, Lc⟩ 1 (svs (ls.map tb))) : Calls Tryz.prog 26 #[.agg #[.int .i64 k, .string (tb t), .slice KA Kn Kc, .slice SA Sn Sc], .agg #[.int .i64 k2, .string (tb t2), .slice KB Ln Lc, .slice SB Tn Tc]] w (BoolEnds (decide (k = k2) && decide (t = t2) && decide (ks = ls) && decide (Sn = Tn)) w) := by
  obtain ⟨hb, _, bv2, _⟩ := two_new w #[.int .i64 k, .string (tb t), .slice KA Kn Kc, .slice SA Sn Sc] #[.int .i64 k2, .string (tb t2), .slice KB Ln Lc, .slice SB Tn Tc] 25 25
  obtain ⟨_, bv1, _, _⟩ := two_new w #[.int .i64 k, .string (tb t), .slice KA Kn Kc, .slice SA Sn Sc] #[.int .i64 k2, .string (tb t2), .slice KB Ln Lc, .slice SB Tn Tc] 25 25
  have HE := Lib.hid (sequal_any P P2 ks ls KA KB Kn Kc Ln Lc _ hn hm hl (slp_up h1 hb) (slp_up h2 hb))
  have HB := Lib.hid hb
  obtain ⟨c0, c1, c2, c3⟩ := box4 bv1
  obtain ⟨d0, d1, d2, d3⟩ := box4 bv2
  have he : ((Sn : Int) == (Tn : Int)) = decide (Sn = Tn) := by
    rw [Bool.eq_iff_iff]
    simp
    omega
  have hk : (k == k2) = decide (k = k2) := by
    rw [Bool.eq_iff_iff]
    simp
  have ht : ((tb t).toList == (tb t2).toList) = decide (t = t2) := by rw [← beq_toListBytes, tb_beq]
  clear hn hm hl h1 h2 hb
  have bv1' := Lib.hid bv1
  have bv2' := Lib.hid bv2
  clear bv1 bv2
  cases hk' : decide (k = k2) with
  | false =>
    rw [hk'] at hk
    simp only [Bool.false_and]
    clear ht he hk'
    go_enter Tryz.func26, Tryz.ntmps26
    go_wp2_with fail
    go_ret
    exact ⟨rfl, HB.out⟩
  | true =>
    rw [hk'] at hk
    cases ht' : decide (t = t2) with
    | false =>
      rw [ht'] at ht
      simp only [Bool.true_and, Bool.false_and]
      clear he hk' ht'
      go_enter Tryz.func26, Tryz.ntmps26
      go_wp2_with fail
      go_ret
      exact ⟨rfl, HB.out⟩
    | true =>
      rw [ht'] at ht
      simp only [Bool.true_and]
      clear hk' ht'
      cases hq : decide (ks = ls) with
      | false =>
        rw [hq] at HE
        simp only [Bool.false_and]
        clear hq he
        go_enter Tryz.func26, Tryz.ntmps26
        go_wp2_with fail
        refine HE.out.mono ?_
        rintro E w1 ⟨rfl, hb⟩
        have HB1 := Lib.hid (HB.out.trans (hb.mono HB.out.size))
        clear hb
        go_wp2
        go_ret
        exact ⟨rfl, HB1.out⟩
      | true =>
        rw [hq] at HE
        simp only [Bool.true_and]
        clear hq
        go_enter Tryz.func26, Tryz.ntmps26
        go_wp2_with fail
        refine HE.out.mono ?_
        rintro E w1 ⟨rfl, hb⟩
        have HB1 := Lib.hid (HB.out.trans (hb.mono HB.out.size))
        obtain ⟨c0, c1, c2, c3⟩ := box4 (bv1'.out.up hb)
        obtain ⟨d0, d1, d2, d3⟩ := box4 (bv2'.out.up hb)
        clear hb
        go_wp2
        go_ret
        refine ⟨?_, HB1.out⟩
        rw [← he]
        rfl
end Go.Proofs.YtnkhghjcfhpeiaaGreatDoor
