/-
  The document's own reader: value, walked; by induction on the bytes that are left.
-/
import Derived.Test.YtnkhghjcfhpeiaaGreatDoorXg
import Derived.BigQuiet
namespace Go.Proofs.YtnkhghjcfhpeiaaGreatDoor
open Go.RowKit
theorem VdAll.mono {g : Nat} {s : Bs} {N M : Nat} (h : VdAll g s N) (hm : M ≤ N) : VdAll g s M := fun o m l w hl ho hm' hd => h o m l w (by omega) ho hm' hd
theorem num_at (l : Bs) (hl : l.length ≤ 1000000) (W : World) : Calls Tryz.prog 50 #[.string (tb l)] W (fun E w' => E = .returned (.int .i64 (numberL l : Int)) ∧ Below W.heap.size W w') := (rnumber_any l hl W).mono fun _ _ h => ⟨h.1, h.2 ▸ Below.refl _ _⟩
/-- what was handed back is stored as the result -/
theorem ret_ends {w wS w9 : World} {g gr : Nat} {s l : Bs} {m : Nat} {e : Int} {v : Jv} {K S : Sli} (hj : JV w9 (fun b => wS.heap.size ≤ b) v (jx v K S)) (hb : But g w w9) (hd : DS w9 g s l m e) (hx : Box w9 gr 25 #[.int .i64 0, .string ⟨#[]⟩, .slice none 0 0, .slice none 0 0]) (hlt : gr < wS.heap.size) (hle : w.heap.size ≤ gr) (hg : g ≠ gr) (u0 u1 u2 u3 : Value) :
    JV ((((w9.setCell ⟨gr, 0, none⟩ u0).setCell ⟨gr, 1, none⟩ u1).setCell ⟨gr, 2, none⟩ u2).setCell ⟨gr, 3, none⟩ u3) (fun b => w.heap.size ≤ b) v (jx v K S) ∧ But g w ((((w9.setCell ⟨gr, 0, none⟩ u0).setCell ⟨gr, 1, none⟩ u1).setCell ⟨gr, 2, none⟩ u2).setCell ⟨gr, 3, none⟩ u3) ∧ DS ((((w9.setCell ⟨gr, 0, none⟩ u0).setCell ⟨gr, 1, none⟩ u1).setCell ⟨gr, 2, none⟩ u2).setCell ⟨gr, 3, none⟩ u3) g s l m e ∧ Box ((((w9.setCell ⟨gr, 0, none⟩ u0).setCell ⟨gr, 1, none⟩ u1).setCell ⟨gr, 2, none⟩ u2).setCell ⟨gr, 3, none⟩ u3) gr 25 #[u0, u1, u2, u3] := by
  have hP : ∀ b, wS.heap.size ≤ b → b ≠ gr := fun b hp => by omega
  have j := JV.to (keep_set (i := 3) (u := u3) hP) _ _ (JV.to (keep_set (i := 2) (u := u2) hP) _ _ (JV.to (keep_set (i := 1) (u := u1) hP) _ _ (JV.to (keep_set (i := 0) (u := u0) hP) _ _ hj)))
  exact ⟨JV.to (Keeps.same (fun b hp _ => by omega)) _ _ j, but_set4 hb (by omega) _ _ _ _, ds_far4 hd (by omega) _ _ _ _, box_set4 hx _ _ _ _⟩
set_option maxRecDepth 100000 in
set_option maxHeartbeats 16000000 in
theorem svalue_walk (g : Nat) (s : Bs) (o m : Nat) (l : Bs) (w : World) (hs : s.length ≤ 1000000) (ho : o ≤ 16) (hm : m ≤ 500) (hV : ∀ c t, skipB l = c :: t → VdAll g s t.length) (h : DS w g s l m 0) : Calls Tryz.prog 31 #[.pointer (some ⟨g, 0, none⟩), .int .i64 (o : Int)] w (VdE g s (runU (.val o) m l) w) := by
  have zs : (tb s).size = s.length := tb_size s
  have hgl := h.lt
  have HsL := Lib.hid hs
  obtain ⟨ba, hbx, hsz⟩ := one_new w #[.int .i64 0, .string ⟨#[]⟩, .slice none 0 0, .slice none 0 0] 25
  obtain ⟨gr, hgr⟩ : ∃ gr, w.heap.size = gr := ⟨_, rfl⟩
  have HS := Lib.hid (fun W (h : DS W g s l m 0) => sskip_ok g s l m W hs h)
  have HF := Lib.hid (fun W l m e (h : DS W g s l m 0) => (by
    have := sfail_any g s l m 0 e W h
    rw [if_pos rfl] at this
    exact this : Calls Tryz.prog 33 #[.pointer (some ⟨g, 0, none⟩), .int .i64 e] W (DEnds g s W (.tuple #[]) l m e)))
  have HD0 := Lib.hid (h.up ba)
  have HB0 := Lib.hid (But.of (g := g) ba)
  have HG : Hid (g < gr ∧ w.heap.size = gr) := Lib.hid ⟨by omega, hgr⟩
  obtain ⟨R0, hR0⟩ : ∃ R0, runU (.val o) m l = R0 := ⟨_, rfl⟩
  rw [hR0]
  rw [runU_valstep] at hR0
  have hsl := skip_le l
  obtain ⟨l0, hl0⟩ : ∃ q, skipB l = q := ⟨_, rfl⟩
  have hs2 : skipB l0 = l0 := by rw [← hl0, skip_skip]
  rw [hl0] at HS hR0 hV hsl
  have hl0s : l0.length ≤ s.length := by have := h.le; omega
  clear h ba hsz hgl hl0 hsl hs
  go_enter Tryz.func31, Tryz.ntmps31
  go_upto_region 1 with fail
  rw [hgr] at hbx
  have HX0 := Lib.hid hbx
  try rw [hgr]
  clear hbx hgr
  generalize w.alloc (.cells #[.int .i64 0, .string ⟨#[]⟩, .slice none 0 0, .slice none 0 0] 25) = W0 at *
  go_wp2_with fail
  refine (HS.out W0 HD0.out).mono ?_
  rintro E w1 ⟨rfl, hb1, hd1⟩
  obtain ⟨c0, c1, c2, c3⟩ := hd1.cells
  have HD1 := Lib.hid hd1
  have HB1 := Lib.hid (HB0.out.on hb1)
  have HX1 := Lib.hid (HX0.out.but hb1 (by have := HG.out.1; omega))
  clear hd1 hb1 HS HD0 HB0 HX0
  by_cases h16 : 16 ≤ o
  · rw [if_pos h16] at hR0
    have hoi : (16 : Int) ≤ (o : Int) := by omega
    have hd1 : decide ((16 : Int) ≤ (o : Int)) = true := decide_eq_true hoi
    have hd2 : decide (16 ≤ o) = true := decide_eq_true h16
    have HRd : Hid (ResD R0 .zero m l0 32) := Lib.hid (by rw [← hR0]; exact ⟨rfl, rfl, by decide⟩)
    clear hR0 ho hV
    have HFk := Lib.hid (HF.out w1 l0 m 32 HD1.out)
    go_wp2_with fail
    refine HFk.out.mono ?_
    rintro E w2 ⟨rfl, hb2, hd2⟩
    have HX2 := Lib.hid (HX1.out.but hb2 (by have := HG.out.1; omega))
    have HB2 := Lib.hid (HB1.out.on hb2)
    have HD2 := Lib.hid hd2
    try clear c0 c1 c2 c3
    obtain ⟨c0, c1, c2, c3⟩ := hd2.cells
    clear hb2 hd2 HD1 HB1 HX1 HFk
    go_upto_region 6 with fail
    go_quiet (fail)
    rename_i nq
    have hbq := below_drewN (Below.refl w2.heap.size w2) nq
    have HD3 := Lib.hid (HD2.out.up hbq)
    have HB3 := Lib.hid (HB2.out.on (But.of hbq))
    have HX3 := Lib.hid (HX2.out.up hbq)
    clear HD2 HB2 HX2 c0 c1 c2 c3 hbq
    generalize w2.drewN nq = W3 at *
    obtain ⟨c0, c1, c2, c3⟩ := HD3.out.cells
    obtain ⟨d0, d1, d2, d3⟩ := box4 HX3.out
    have f0 := HX3.out.f 0
    have f1 := HX3.out.f 1
    have f2 := HX3.out.f 2
    have f3 := HX3.out.f 3
    obtain ⟨q0, q1, q2, q3⟩ := box4 (box_set4 HX3.out (.int .i64 0) (.string ⟨#[]⟩) (.slice none 0 0) (.slice none 0 0))
    have HBt := Lib.hid (but_set4 (gr := gr) HB3.out (by have := HG.out.2; omega) (.int .i64 0) (.string ⟨#[]⟩) (.slice none 0 0) (.slice none 0 0))
    have HDt := Lib.hid (ds_far4 (gr := gr) HD3.out (by have := HG.out.1; omega) (.int .i64 0) (.string ⟨#[]⟩) (.slice none 0 0) (.slice none 0 0))
    clear HX3 HB3 HD3
    go_wp2
    refine bodyPost_ret (v := .agg #[(.int .i64 0), .string ⟨#[]⟩, .slice none 0 0, .slice none 0 0]) (by simp [results, Tryz.results31, go_sem, q0, q1, q2, q3]) rfl ?_
    exact ⟨.zero, ⟨none, 0, 0⟩, ⟨none, 0, 0⟩, m, l0, 32, HRd.out, by omega, jleaf _ _ _ _, rfl, HBt.out, HDt.out⟩
  · rw [if_neg h16] at hR0
    have hoi : ¬ (16 : Int) ≤ (o : Int) := by omega
    have hd1 : decide ((16 : Int) ≤ (o : Int)) = false := decide_eq_false hoi
    have hd2 : decide (16 ≤ o) = false := decide_eq_false h16
    by_cases h5 : 500 ≤ m
    · rw [if_pos h5] at hR0
      have hmi : (500 : Int) ≤ (m : Int) := by omega
      have he1 : decide ((500 : Int) ≤ (m : Int)) = true := decide_eq_true hmi
      have he2 : decide (500 ≤ m) = true := decide_eq_true h5
      have HRd : Hid (ResD R0 .zero m l0 2) := Lib.hid (by rw [← hR0]; exact ⟨rfl, rfl, by decide⟩)
      clear hR0 ho hV
      have HFk := Lib.hid (HF.out w1 l0 m 2 HD1.out)
      go_wp2_with fail
      refine HFk.out.mono ?_
      rintro E w2 ⟨rfl, hb2, hd2⟩
      have HX2 := Lib.hid (HX1.out.but hb2 (by have := HG.out.1; omega))
      have HB2 := Lib.hid (HB1.out.on hb2)
      have HD2 := Lib.hid hd2
      try clear c0 c1 c2 c3
      obtain ⟨c0, c1, c2, c3⟩ := hd2.cells
      clear hb2 hd2 HD1 HB1 HX1 HFk
      go_upto_region 6 with fail
      go_quiet (fail)
      rename_i nq
      have hbq := below_drewN (Below.refl w2.heap.size w2) nq
      have HD3 := Lib.hid (HD2.out.up hbq)
      have HB3 := Lib.hid (HB2.out.on (But.of hbq))
      have HX3 := Lib.hid (HX2.out.up hbq)
      clear HD2 HB2 HX2 c0 c1 c2 c3 hbq
      generalize w2.drewN nq = W3 at *
      obtain ⟨c0, c1, c2, c3⟩ := HD3.out.cells
      obtain ⟨d0, d1, d2, d3⟩ := box4 HX3.out
      have f0 := HX3.out.f 0
      have f1 := HX3.out.f 1
      have f2 := HX3.out.f 2
      have f3 := HX3.out.f 3
      obtain ⟨q0, q1, q2, q3⟩ := box4 (box_set4 HX3.out (.int .i64 0) (.string ⟨#[]⟩) (.slice none 0 0) (.slice none 0 0))
      have HBt := Lib.hid (but_set4 (gr := gr) HB3.out (by have := HG.out.2; omega) (.int .i64 0) (.string ⟨#[]⟩) (.slice none 0 0) (.slice none 0 0))
      have HDt := Lib.hid (ds_far4 (gr := gr) HD3.out (by have := HG.out.1; omega) (.int .i64 0) (.string ⟨#[]⟩) (.slice none 0 0) (.slice none 0 0))
      clear HX3 HB3 HD3
      go_wp2
      refine bodyPost_ret (v := .agg #[(.int .i64 0), .string ⟨#[]⟩, .slice none 0 0, .slice none 0 0]) (by simp [results, Tryz.results31, go_sem, q0, q1, q2, q3]) rfl ?_
      exact ⟨.zero, ⟨none, 0, 0⟩, ⟨none, 0, 0⟩, m, l0, 2, HRd.out, by omega, jleaf _ _ _ _, rfl, HBt.out, HDt.out⟩
    · rw [if_neg h5] at hR0
      have hmi : ¬ (500 : Int) ≤ (m : Int) := by omega
      have he1 : decide ((500 : Int) ≤ (m : Int)) = false := decide_eq_false hmi
      have he2 : decide (500 ≤ m) = false := decide_eq_false h5
      cases l0 with
      | nil =>
        have HRd : Hid (ResD R0 .zero m [] 31) := Lib.hid (by rw [← hR0]; exact ⟨rfl, rfl, by decide⟩)
        rw [List.length_nil, Nat.sub_zero] at c1
        have hpp : (s.length : Int) ≤ (s.length : Int) := by omega
        have hpd : decide ((s.length : Int) ≤ (s.length : Int)) = true := decide_eq_true hpp
        clear hR0 ho hV
        go_upto_region 6 with fail
        go_quiet (fail)
        rename_i nq
        have hbq := below_drewN (Below.refl w1.heap.size w1) nq
        have HD2 := Lib.hid (HD1.out.up hbq)
        have HB2 := Lib.hid (HB1.out.on (But.of hbq))
        have HX2 := Lib.hid (HX1.out.up hbq)
        clear HD1 HB1 HX1 c0 c1 c2 c3 hbq
        generalize w1.drewN nq = W2 at *
        have HFk := Lib.hid (HF.out W2 [] m 31 HD2.out)
        go_wp2_with fail
        refine HFk.out.mono ?_
        rintro E w3 ⟨rfl, hb2, hd2⟩
        have HX9 := Lib.hid (HX2.out.but hb2 (by have := HG.out.1; omega))
        have HB9 := Lib.hid (HB2.out.on hb2)
        have HD9 := Lib.hid hd2
        try clear c0 c1 c2 c3
        obtain ⟨c0, c1, c2, c3⟩ := hd2.cells
        clear hb2 hd2 HD2 HB2 HX2 HFk
        have HD3 := HD9
        have HB3 := HB9
        have HX3 := HX9
        clear HD9 HB9 HX9
        obtain ⟨d0, d1, d2, d3⟩ := box4 HX3.out
        have f0 := HX3.out.f 0
        have f1 := HX3.out.f 1
        have f2 := HX3.out.f 2
        have f3 := HX3.out.f 3
        obtain ⟨q0, q1, q2, q3⟩ := box4 (box_set4 HX3.out (.int .i64 0) (.string ⟨#[]⟩) (.slice none 0 0) (.slice none 0 0))
        have HBt := Lib.hid (but_set4 (gr := gr) HB3.out (by have := HG.out.2; omega) (.int .i64 0) (.string ⟨#[]⟩) (.slice none 0 0) (.slice none 0 0))
        have HDt := Lib.hid (ds_far4 (gr := gr) HD3.out (by have := HG.out.1; omega) (.int .i64 0) (.string ⟨#[]⟩) (.slice none 0 0) (.slice none 0 0))
        clear HX3 HB3 HD3
        go_wp2
        refine bodyPost_ret (v := .agg #[(.int .i64 0), .string ⟨#[]⟩, .slice none 0 0, .slice none 0 0]) (by simp [results, Tryz.results31, go_sem, q0, q1, q2, q3]) rfl ?_
        exact ⟨.zero, ⟨none, 0, 0⟩, ⟨none, 0, 0⟩, m, [], 31, HRd.out, by omega, jleaf _ _ _ _, rfl, HBt.out, HDt.out⟩
      | cons c t =>
        simp only at hR0
        have hVt := Lib.hid (hV c t rfl)
        have hsf := HD1.out.suf
        obtain ⟨p, hp⟩ : ∃ p, s.length - (c :: t).length = p := ⟨_, rfl⟩
        rw [hp] at c1 hsf
        have HPq := Lib.hid hp
        obtain ⟨hd2', hps, hat⟩ := drop_cons hsf
        have hpi : (p : Int) < (s.length : Int) := by omega
        have hpn : ¬ (s.length : Int) ≤ (p : Int) := by omega
        have hpd : decide ((s.length : Int) ≤ (p : Int)) = false := decide_eq_false hpn
        have hpN : ¬ s.length ≤ p := by omega
        have hpE : decide (s.length ≤ p) = false := decide_eq_false hpN
        have hp0 : (0 : Int) ≤ (p : Int) := by omega
        have hix := fun W => jidx hat W
        have Hsf := Lib.hid hsf
        have Hs2 := Lib.hid hs2
        have hw1 : IntKind.i64.wrap ((m : Int) + 1) = ((m + 1 : Nat) : Int) := by rw [IntWalk.i64_in _ (by omega)]; omega
        obtain ⟨m1, hm1⟩ : ∃ m1, m + 1 = m1 := ⟨_, rfl⟩
        rw [hm1] at hw1 hR0
        have hm15 : m1 ≤ 500 := by omega
        clear hm1 hV hs2 hsf hat hd2' hp
        go_upto_region 6 with fail
        go_quiet (fail)
        rename_i nq
        have hbq := below_drewN (Below.refl w1.heap.size w1) nq
        have HD3 := Lib.hid (HD1.out.up hbq)
        have HB3 := Lib.hid (HB1.out.on (But.of hbq))
        have HX3 := Lib.hid (HX1.out.up hbq)
        clear HD1 HB1 HX1 c0 c1 c2 c3 hbq
        generalize w1.drewN nq = W3 at *
        obtain ⟨c0, c1, c2, c3⟩ := HD3.out.cells
        rw [HPq.out] at c1
        have f2 := HD3.out.bx.f 2
        have HD4 := Lib.hid (HD3.out.setm m1)
        have HB4 := Lib.hid (HB3.out.on (but_cell W3 g 2 (.int .i64 (m1 : Int))))
        have HX4 := Lib.hid (HX3.out.far (p := ⟨g, 2, none⟩) (by have := HG.out.1; simp only; omega) (.int .i64 (m1 : Int)))
        clear HD3 HB3 HX3
        go_upto_region 11 with fail
        clear c0 c1 c2 c3 f2 hw1
        generalize W3.setCell ⟨g, 2, none⟩ (.int .i64 (m1 : Int)) = W4 at *
        obtain ⟨c0, c1, c2, c3⟩ := HD4.out.cells
        rw [HPq.out] at c1
        go_quiet (fail)
        rename_i nq
        have hbq := below_drewN (Below.refl W4.heap.size W4) nq
        have HD5 := Lib.hid (HD4.out.up hbq)
        have HB5 := Lib.hid (HB4.out.on (But.of hbq))
        have HX5 := Lib.hid (HX4.out.up hbq)
        clear HD4 HB4 HX4 c0 c1 c2 c3 hbq hix
        generalize W4.drewN nq = W5 at *
        obtain ⟨c0, c1, c2, c3⟩ := HD5.out.cells
        rw [HPq.out] at c1
        by_cases h34 : c = 34
        · subst h34
          have hc34 : ((UInt8.toNat 34 : Nat) : Int) = 34 := rfl
          rw [hc34]
          have hcl := stext_ok g s (34 :: t) m1 W5 HsL.out HD5.out
          rw [Hs2.out] at hcl
          have HQ := Lib.hid hcl
          have hk : kindR o m1 34 t = (match textR (34 :: t) with | .error e => .error e | .ok (s, r) => .ok (.mk 5 s [] [], m1, r)) := rfl
          rw [hk] at hR0
          have HR0 := Lib.hid hR0
          clear hcl hk hR0
          go_wp2_with fail
          refine HQ.out.mono ?_
          rintro E w9 ⟨x, l2, e2, hxl, hres, rfl, hb9, hd9⟩
          have hRd : ResD R0 (.mk 5 x [] []) m1 l2 e2 := by
            rw [← HR0.out]
            revert hres
            unfold ResX ResD
            cases textR (34 :: t) with
            | error q => exact fun h => h
            | ok q => exact fun h => ⟨by rw [h.1], rfl, h.2.1, h.2.2⟩
          have HRd := Lib.hid hRd
          have HX9 := Lib.hid (HX5.out.but hb9 (by have := HG.out.1; omega))
          obtain ⟨d0, d1, d2, d3⟩ := box4 HX9.out
          have f0 := HX9.out.f 0
          have f1 := HX9.out.f 1
          have f2 := HX9.out.f 2
          have f3 := HX9.out.f 3
          obtain ⟨q0, q1, q2, q3⟩ := box4 (box_set4 HX9.out (.int .i64 5) (.string (tb x)) (.slice none 0 0) (.slice none 0 0))
          have HBt := Lib.hid (but_set4 (gr := gr) (HB5.out.on hb9) (by have := HG.out.2; omega) (.int .i64 5) (.string (tb x)) (.slice none 0 0) (.slice none 0 0))
          have HDt := Lib.hid (ds_far4 (gr := gr) hd9 (by have := HG.out.1; omega) (.int .i64 5) (.string (tb x)) (.slice none 0 0) (.slice none 0 0))
          clear HX9 HB5 HD5 HX5 hb9 hd9 hres hRd c0 c1 c2 c3 HQ HR0
          go_wp2
          refine bodyPost_ret (v := .agg #[(.int .i64 5), .string (tb x), .slice none 0 0, .slice none 0 0]) (by simp [results, Tryz.results31, go_sem, q0, q1, q2, q3]) rfl ?_
          exact ⟨.mk 5 x [] [], ⟨none, 0, 0⟩, ⟨none, 0, 0⟩, m1, l2, e2, HRd.out, by omega, jleaf _ _ _ _, rfl, HBt.out, HDt.out⟩
        · by_cases h45 : c = 45
          · subst h45
            have hc45 : ((UInt8.toNat 45 : Nat) : Int) = 45 := rfl
            rw [hc45]
            have hk : kindR o m1 45 t = (if numberL (45 :: t) = 0 then .error (31, 45 :: t) else .ok (.mk 4 ((45 :: t).take (numberL (45 :: t))) [] [], m1, (45 :: t).drop (numberL (45 :: t)))) := rfl
            rw [hk] at hR0
            clear hk h34
            obtain ⟨n, hn⟩ : ∃ n, numberL (45 :: t) = n := ⟨_, rfl⟩
            have hnl := jn_le (45 :: t)
            have hcl := fun W => num_at (45 :: t) (by have := HsL.out; omega) W
            rw [hn] at hR0 hnl hcl
            have HU := Lib.hid hcl
            have hsz : s.length ≤ 1000000 := HsL.out
            have hxe : (tb s).extract p s.length = tb (45 :: t) := by rw [tb_ext, List.take_length, Hsf.out]
            have hpn1 : (p : Int) ≤ (s.length : Int) := by omega
            obtain ⟨hn1, hn2⟩ := nq_len Hsf.out hnl (by omega)
            obtain ⟨p1, hp1⟩ : ∃ p1, p + n = p1 := ⟨_, rfl⟩
            have hxe2 : (tb s).extract p p1 = tb ((45 :: t).take n) := by rw [tb_ext, ← hp1, List.take_add, List.drop_append_of_le_length (by rw [List.length_take]; omega), List.drop_of_length_le (by rw [List.length_take]; omega), Hsf.out]; rfl
            rw [hp1] at hn1 hn2
            have hwp : IntKind.i64.wrap ((p : Int) + (n : Int)) = (p1 : Int) := by rw [IntWalk.i64_in _ (by omega)]; omega
            have hpp1 : (p : Int) ≤ (p1 : Int) := by omega
            have hps1 : (p1 : Int) ≤ (s.length : Int) := by omega
            have hpp2 : p ≤ p1 := by omega
            have HSet := Lib.hid (fun W (h : DS W g s (45 :: t) m1 0) => h.setp hn1 hn2)
            have HR0 := Lib.hid hR0
            clear hR0 hn hnl hcl hn1 hn2 hp1 Hsf
            go_upto_region 15 with fail
            go_region_held3 (fun W' => Below W5.heap.size W5 W' ∧ W'.cell? ⟨g, 0, none⟩ = some (.string (tb s)) ∧ W'.cell? ⟨g, 1, none⟩ = some (.int .i64 (p : Int)))
              (first | exact ⟨(Below.refl _ _).drew, c0, c1⟩ | exact held2 hbP (by assumption) | fail)
              (first
                | (go_at_call 50; refine (HU.out _).mono ?_; rintro E wP ⟨rfl, hbP⟩)
                | fail)
            rename_i hHeld
            obtain ⟨hd5, k0, k1⟩ := hHeld
            have HD6 := Lib.hid (HD5.out.up hd5)
            have HB6 := Lib.hid (HB5.out.on (But.of hd5))
            have HX6 := Lib.hid (HX5.out.up hd5)
            clear hd5 HD5 HB5 HX5 c0 c1 c2 c3
            by_cases hn0 : n = 0
            · subst hn0
              have HRd : Hid (ResD R0 .zero m1 (45 :: t) 31) := Lib.hid (by rw [← HR0.out]; exact ⟨rfl, rfl, by decide⟩)
              clear HR0 HSet hwp hxe2 hpp1 hps1 hpp2
              have HFk := Lib.hid (HF.out wP (45 :: t) m1 31 HD6.out)
              go_wp2_with fail
              refine HFk.out.mono ?_
              rintro E w2 ⟨rfl, hb2, hd2⟩
              have HX2 := Lib.hid (HX6.out.but hb2 (by have := HG.out.1; omega))
              have HB2 := Lib.hid (HB6.out.on hb2)
              have HD2 := Lib.hid hd2
              try clear c0 c1 c2 c3
              obtain ⟨c0, c1, c2, c3⟩ := hd2.cells
              clear hb2 hd2 HD6 HB6 HX6 HFk
              have HD3 := HD2
              have HB3 := HB2
              have HX3 := HX2
              clear HD2 HB2 HX2
              obtain ⟨d0, d1, d2, d3⟩ := box4 HX3.out
              have f0 := HX3.out.f 0
              have f1 := HX3.out.f 1
              have f2 := HX3.out.f 2
              have f3 := HX3.out.f 3
              obtain ⟨q0, q1, q2, q3⟩ := box4 (box_set4 HX3.out (.int .i64 0) (.string ⟨#[]⟩) (.slice none 0 0) (.slice none 0 0))
              have HBt := Lib.hid (but_set4 (gr := gr) HB3.out (by have := HG.out.2; omega) (.int .i64 0) (.string ⟨#[]⟩) (.slice none 0 0) (.slice none 0 0))
              have HDt := Lib.hid (ds_far4 (gr := gr) HD3.out (by have := HG.out.1; omega) (.int .i64 0) (.string ⟨#[]⟩) (.slice none 0 0) (.slice none 0 0))
              clear HX3 HB3 HD3
              go_wp2
              refine bodyPost_ret (v := .agg #[(.int .i64 0), .string ⟨#[]⟩, .slice none 0 0, .slice none 0 0]) (by simp [results, Tryz.results31, go_sem, q0, q1, q2, q3]) rfl ?_
              exact ⟨.zero, ⟨none, 0, 0⟩, ⟨none, 0, 0⟩, m1, (45 :: t), 31, HRd.out, by omega, jleaf _ _ _ _, rfl, HBt.out, HDt.out⟩
            · have hnE : ((n : Int) == 0) = false := beq_eq_false_iff_ne.2 (by omega)
              have hni : ¬ (n : Int) = 0 := by omega
              have HRd : Hid (ResD R0 (.mk 4 ((45 :: t).take n) [] []) m1 ((45 :: t).drop n) 0) := Lib.hid (by rw [← HR0.out, if_neg hn0]; exact ⟨rfl, rfl, rfl, rfl⟩)
              clear HR0 hn0
              obtain ⟨c0, c1, c2, c3⟩ := HD6.out.cells
              rw [HPq.out] at c1
              go_upto_region 19 with fail
              have hbA := ba1 wP (.cells #[.int .i64 0, .string ⟨#[]⟩, .slice none 0 0, .slice none 0 0] 25)
              have kA0 : (wP.alloc (.cells #[.int .i64 0, .string ⟨#[]⟩, .slice none 0 0, .slice none 0 0] 25)).cell? ⟨g, 0, none⟩ = some (.string (tb s)) := cell_up hbA c0
              have kA1 : (wP.alloc (.cells #[.int .i64 0, .string ⟨#[]⟩, .slice none 0 0, .slice none 0 0] 25)).cell? ⟨g, 1, none⟩ = some (.int .i64 (p : Int)) := cell_up hbA c1
              clear hbA
              go_region
              have hbB := (ba1 wP (.cells #[.int .i64 4, .string (tb ((45 :: t).take n)), .slice none 0 0, .slice none 0 0] 25)).drew
              have HD7 := Lib.hid (HD6.out.up hbB)
              have HB7 := Lib.hid (HB6.out.on (But.of hbB))
              have HX7 := Lib.hid (HX6.out.up hbB)
              have HV7 : Hid (Box (wP.alloc (.cells #[.int .i64 4, .string (tb ((45 :: t).take n)), .slice none 0 0, .slice none 0 0] 25)).drew wP.heap.size 25 #[.int .i64 4, .string (tb ((45 :: t).take n)), .slice none 0 0, .slice none 0 0]) := Lib.hid (Box.new wP 25 #[.int .i64 4, .string (tb ((45 :: t).take n)), .slice none 0 0, .slice none 0 0])
              have hgw : g < wP.heap.size := HD6.out.lt
              clear hbB HD6 HB6 HX6 kA0 kA1 k0 k1 c0 c1 c2 c3
              obtain ⟨gv, hgv⟩ : ∃ gv, wP.heap.size = gv := ⟨_, rfl⟩
              rw [hgv] at HV7 hgw ⊢
              clear hgv
              generalize (wP.alloc (.cells #[.int .i64 4, .string (tb ((45 :: t).take n)), .slice none 0 0, .slice none 0 0] 25)).drew = W7 at *
              obtain ⟨c0, c1, c2, c3⟩ := HD7.out.cells
              rw [HPq.out] at c1
              have f1 := HD7.out.bx.f 1
              have HD8 := Lib.hid (HSet.out W7 HD7.out)
              have HB8 := Lib.hid (HB7.out.on (but_cell W7 g 1 (.int .i64 (p1 : Int))))
              have HX8 := Lib.hid (HX7.out.far (p := ⟨g, 1, none⟩) (by have := HG.out.1; simp only; omega) (.int .i64 (p1 : Int)))
              have HV8 := Lib.hid (HV7.out.far (p := ⟨g, 1, none⟩) (by simp only; omega) (.int .i64 (p1 : Int)))
              clear HD7 HB7 HX7 HV7
              go_upto_region 21 with fail
              clear c0 c1 c2 c3 f1
              generalize W7.setCell ⟨g, 1, none⟩ (.int .i64 (p1 : Int)) = W8 at *
              obtain ⟨v0, v1, v2, v3⟩ := box4 HV8.out
              obtain ⟨d0, d1, d2, d3⟩ := box4 HX8.out
              have f0 := HX8.out.f 0
              have f1 := HX8.out.f 1
              have f2 := HX8.out.f 2
              have f3 := HX8.out.f 3
              obtain ⟨q0, q1, q2, q3⟩ := box4 (box_set4 HX8.out (.int .i64 4) (.string (tb ((45 :: t).take n))) (.slice none 0 0) (.slice none 0 0))
              have HBt := Lib.hid (but_set4 (gr := gr) HB8.out (by have := HG.out.2; omega) (.int .i64 4) (.string (tb ((45 :: t).take n))) (.slice none 0 0) (.slice none 0 0))
              have HDt := Lib.hid (ds_far4 (gr := gr) HD8.out (by have := HG.out.1; omega) (.int .i64 4) (.string (tb ((45 :: t).take n))) (.slice none 0 0) (.slice none 0 0))
              clear HX8 HB8 HD8 HV8 HSet
              go_wp2
              refine bodyPost_ret (v := .agg #[(.int .i64 4), .string (tb ((45 :: t).take n)), .slice none 0 0, .slice none 0 0]) (by simp [results, Tryz.results31, go_sem, q0, q1, q2, q3]) rfl ?_
              exact ⟨.mk 4 ((45 :: t).take n) [] [], ⟨none, 0, 0⟩, ⟨none, 0, 0⟩, m1, _, 0, HRd.out, by omega, jleaf _ _ _ _, rfl, HBt.out, HDt.out⟩
          · have hz34 : ((c.toNat : Int) == 34) = false := beq_eq_false_iff_ne.2 (fun h => h34 (UInt8.toNat_inj.1 (by rw [show (34 : UInt8).toNat = 34 from rfl]; omega)))
            have hz45 : ((c.toNat : Int) == 45) = false := beq_eq_false_iff_ne.2 (fun h => h45 (UInt8.toNat_inj.1 (by rw [show (45 : UInt8).toNat = 45 from rfl]; omega)))
            cases hdg : digB c with
            | true =>
              have hdg2 := hdg
              unfold digB at hdg2
              rw [Bool.and_eq_true, decide_eq_true_eq, decide_eq_true_eq] at hdg2
              have hzl : (48 : Int) ≤ (c.toNat : Int) := by omega
              have hzu : (c.toNat : Int) ≤ 57 := by omega
              have hzd : decide ((48 : Int) ≤ (c.toNat : Int)) = true := decide_eq_true hzl
              have hzv : decide ((c.toNat : Int) ≤ 57) = true := decide_eq_true hzu
              have hk : kindR o m1 c t = (if numberL (c :: t) = 0 then .error (31, c :: t) else .ok (.mk 4 ((c :: t).take (numberL (c :: t))) [] [], m1, (c :: t).drop (numberL (c :: t)))) := by
                have h91 : ¬ c = 91 := by rintro rfl; cases hdg
                have h123 : ¬ c = 123 := by rintro rfl; cases hdg
                unfold kindR leafR
                rw [if_neg h91, if_neg h123]
                simp only
                rw [if_neg h34, if_pos (.inr hdg)]
              rw [hk] at hR0
              clear hk hdg hdg2 h34 h45
              obtain ⟨z, hz⟩ : ∃ z : Int, (c.toNat : Int) = z := ⟨_, rfl⟩
              rw [hz] at hz34 hz45 hzl hzu hzd hzv ⊢
              clear hz
              obtain ⟨n, hn⟩ : ∃ n, numberL (c :: t) = n := ⟨_, rfl⟩
              have hnl := jn_le (c :: t)
              have hcl := fun W => num_at (c :: t) (by have := HsL.out; omega) W
              rw [hn] at hR0 hnl hcl
              have HU := Lib.hid hcl
              have hsz : s.length ≤ 1000000 := HsL.out
              have hxe : (tb s).extract p s.length = tb (c :: t) := by rw [tb_ext, List.take_length, Hsf.out]
              have hpn1 : (p : Int) ≤ (s.length : Int) := by omega
              obtain ⟨hn1, hn2⟩ := nq_len Hsf.out hnl (by omega)
              obtain ⟨p1, hp1⟩ : ∃ p1, p + n = p1 := ⟨_, rfl⟩
              have hxe2 : (tb s).extract p p1 = tb ((c :: t).take n) := by rw [tb_ext, ← hp1, List.take_add, List.drop_append_of_le_length (by rw [List.length_take]; omega), List.drop_of_length_le (by rw [List.length_take]; omega), Hsf.out]; rfl
              rw [hp1] at hn1 hn2
              have hwp : IntKind.i64.wrap ((p : Int) + (n : Int)) = (p1 : Int) := by rw [IntWalk.i64_in _ (by omega)]; omega
              have hpp1 : (p : Int) ≤ (p1 : Int) := by omega
              have hps1 : (p1 : Int) ≤ (s.length : Int) := by omega
              have hpp2 : p ≤ p1 := by omega
              have HSet := Lib.hid (fun W (h : DS W g s (c :: t) m1 0) => h.setp hn1 hn2)
              have HR0 := Lib.hid hR0
              clear hR0 hn hnl hcl hn1 hn2 hp1 Hsf
              go_upto_region 15 with fail
              go_region_held3 (fun W' => Below W5.heap.size W5 W' ∧ W'.cell? ⟨g, 0, none⟩ = some (.string (tb s)) ∧ W'.cell? ⟨g, 1, none⟩ = some (.int .i64 (p : Int)))
                (first | exact ⟨(Below.refl _ _).drew, c0, c1⟩ | exact held2 hbP (by assumption) | fail)
                (first
                  | (go_at_call 50; refine (HU.out _).mono ?_; rintro E wP ⟨rfl, hbP⟩)
                  | fail)
              rename_i hHeld
              obtain ⟨hd5, k0, k1⟩ := hHeld
              have HD6 := Lib.hid (HD5.out.up hd5)
              have HB6 := Lib.hid (HB5.out.on (But.of hd5))
              have HX6 := Lib.hid (HX5.out.up hd5)
              clear hd5 HD5 HB5 HX5 c0 c1 c2 c3
              by_cases hn0 : n = 0
              · subst hn0
                have HRd : Hid (ResD R0 .zero m1 (c :: t) 31) := Lib.hid (by rw [← HR0.out]; exact ⟨rfl, rfl, by decide⟩)
                clear HR0 HSet hwp hxe2 hpp1 hps1 hpp2
                have HFk := Lib.hid (HF.out wP (c :: t) m1 31 HD6.out)
                go_wp2_with fail
                refine HFk.out.mono ?_
                rintro E w2 ⟨rfl, hb2, hd2⟩
                have HX2 := Lib.hid (HX6.out.but hb2 (by have := HG.out.1; omega))
                have HB2 := Lib.hid (HB6.out.on hb2)
                have HD2 := Lib.hid hd2
                try clear c0 c1 c2 c3
                obtain ⟨c0, c1, c2, c3⟩ := hd2.cells
                clear hb2 hd2 HD6 HB6 HX6 HFk
                have HD3 := HD2
                have HB3 := HB2
                have HX3 := HX2
                clear HD2 HB2 HX2
                obtain ⟨d0, d1, d2, d3⟩ := box4 HX3.out
                have f0 := HX3.out.f 0
                have f1 := HX3.out.f 1
                have f2 := HX3.out.f 2
                have f3 := HX3.out.f 3
                obtain ⟨q0, q1, q2, q3⟩ := box4 (box_set4 HX3.out (.int .i64 0) (.string ⟨#[]⟩) (.slice none 0 0) (.slice none 0 0))
                have HBt := Lib.hid (but_set4 (gr := gr) HB3.out (by have := HG.out.2; omega) (.int .i64 0) (.string ⟨#[]⟩) (.slice none 0 0) (.slice none 0 0))
                have HDt := Lib.hid (ds_far4 (gr := gr) HD3.out (by have := HG.out.1; omega) (.int .i64 0) (.string ⟨#[]⟩) (.slice none 0 0) (.slice none 0 0))
                clear HX3 HB3 HD3
                go_wp2
                refine bodyPost_ret (v := .agg #[(.int .i64 0), .string ⟨#[]⟩, .slice none 0 0, .slice none 0 0]) (by simp [results, Tryz.results31, go_sem, q0, q1, q2, q3]) rfl ?_
                exact ⟨.zero, ⟨none, 0, 0⟩, ⟨none, 0, 0⟩, m1, (c :: t), 31, HRd.out, by omega, jleaf _ _ _ _, rfl, HBt.out, HDt.out⟩
              · have hnE : ((n : Int) == 0) = false := beq_eq_false_iff_ne.2 (by omega)
                have hni : ¬ (n : Int) = 0 := by omega
                have HRd : Hid (ResD R0 (.mk 4 ((c :: t).take n) [] []) m1 ((c :: t).drop n) 0) := Lib.hid (by rw [← HR0.out, if_neg hn0]; exact ⟨rfl, rfl, rfl, rfl⟩)
                clear HR0 hn0
                obtain ⟨c0, c1, c2, c3⟩ := HD6.out.cells
                rw [HPq.out] at c1
                go_upto_region 19 with fail
                have hbA := ba1 wP (.cells #[.int .i64 0, .string ⟨#[]⟩, .slice none 0 0, .slice none 0 0] 25)
                have kA0 : (wP.alloc (.cells #[.int .i64 0, .string ⟨#[]⟩, .slice none 0 0, .slice none 0 0] 25)).cell? ⟨g, 0, none⟩ = some (.string (tb s)) := cell_up hbA c0
                have kA1 : (wP.alloc (.cells #[.int .i64 0, .string ⟨#[]⟩, .slice none 0 0, .slice none 0 0] 25)).cell? ⟨g, 1, none⟩ = some (.int .i64 (p : Int)) := cell_up hbA c1
                clear hbA
                go_region
                have hbB := (ba1 wP (.cells #[.int .i64 4, .string (tb ((c :: t).take n)), .slice none 0 0, .slice none 0 0] 25)).drew
                have HD7 := Lib.hid (HD6.out.up hbB)
                have HB7 := Lib.hid (HB6.out.on (But.of hbB))
                have HX7 := Lib.hid (HX6.out.up hbB)
                have HV7 : Hid (Box (wP.alloc (.cells #[.int .i64 4, .string (tb ((c :: t).take n)), .slice none 0 0, .slice none 0 0] 25)).drew wP.heap.size 25 #[.int .i64 4, .string (tb ((c :: t).take n)), .slice none 0 0, .slice none 0 0]) := Lib.hid (Box.new wP 25 #[.int .i64 4, .string (tb ((c :: t).take n)), .slice none 0 0, .slice none 0 0])
                have hgw : g < wP.heap.size := HD6.out.lt
                clear hbB HD6 HB6 HX6 kA0 kA1 k0 k1 c0 c1 c2 c3
                obtain ⟨gv, hgv⟩ : ∃ gv, wP.heap.size = gv := ⟨_, rfl⟩
                rw [hgv] at HV7 hgw ⊢
                clear hgv
                generalize (wP.alloc (.cells #[.int .i64 4, .string (tb ((c :: t).take n)), .slice none 0 0, .slice none 0 0] 25)).drew = W7 at *
                obtain ⟨c0, c1, c2, c3⟩ := HD7.out.cells
                rw [HPq.out] at c1
                have f1 := HD7.out.bx.f 1
                have HD8 := Lib.hid (HSet.out W7 HD7.out)
                have HB8 := Lib.hid (HB7.out.on (but_cell W7 g 1 (.int .i64 (p1 : Int))))
                have HX8 := Lib.hid (HX7.out.far (p := ⟨g, 1, none⟩) (by have := HG.out.1; simp only; omega) (.int .i64 (p1 : Int)))
                have HV8 := Lib.hid (HV7.out.far (p := ⟨g, 1, none⟩) (by simp only; omega) (.int .i64 (p1 : Int)))
                clear HD7 HB7 HX7 HV7
                go_upto_region 21 with fail
                clear c0 c1 c2 c3 f1
                generalize W7.setCell ⟨g, 1, none⟩ (.int .i64 (p1 : Int)) = W8 at *
                obtain ⟨v0, v1, v2, v3⟩ := box4 HV8.out
                obtain ⟨d0, d1, d2, d3⟩ := box4 HX8.out
                have f0 := HX8.out.f 0
                have f1 := HX8.out.f 1
                have f2 := HX8.out.f 2
                have f3 := HX8.out.f 3
                obtain ⟨q0, q1, q2, q3⟩ := box4 (box_set4 HX8.out (.int .i64 4) (.string (tb ((c :: t).take n))) (.slice none 0 0) (.slice none 0 0))
                have HBt := Lib.hid (but_set4 (gr := gr) HB8.out (by have := HG.out.2; omega) (.int .i64 4) (.string (tb ((c :: t).take n))) (.slice none 0 0) (.slice none 0 0))
                have HDt := Lib.hid (ds_far4 (gr := gr) HD8.out (by have := HG.out.1; omega) (.int .i64 4) (.string (tb ((c :: t).take n))) (.slice none 0 0) (.slice none 0 0))
                clear HX8 HB8 HD8 HV8 HSet
                go_wp2
                refine bodyPost_ret (v := .agg #[(.int .i64 4), .string (tb ((c :: t).take n)), .slice none 0 0, .slice none 0 0]) (by simp [results, Tryz.results31, go_sem, q0, q1, q2, q3]) rfl ?_
                exact ⟨.mk 4 ((c :: t).take n) [] [], ⟨none, 0, 0⟩, ⟨none, 0, 0⟩, m1, _, 0, HRd.out, by omega, jleaf _ _ _ _, rfl, HBt.out, HDt.out⟩
            | false =>
              by_cases h91 : c = 91
              · subst h91
                have hc : ((UInt8.toNat 91 : Nat) : Int) = 91 := rfl
                rw [hc]
                have HQ := Lib.hid (slist_any g s o t.length m1 t W5 HsL.out hVt.out (Nat.le_refl _) hm15 (by omega) HD5.out)
                have hk : kindR o m1 91 t = listR o m1 t := rfl
                rw [hk] at hR0
                rw [hR0] at HQ
                clear hR0 hk
                go_wp2_with fail
                refine HQ.out.mono ?_
                clear HQ
                rintro E w9 ⟨v, ⟨KA, Kn, Kc⟩, ⟨SA, Sn, Sc⟩, m2, l2, e2, hres, hm2, hjv, rfl, hb9, hd9⟩
                simp only [jx] at hjv ⊢
                have HX9 := Lib.hid (HX5.out.but hb9 (by have := HG.out.1; omega))
                obtain ⟨d0, d1, d2, d3⟩ := box4 HX9.out
                have f0 := HX9.out.f 0
                have f1 := HX9.out.f 1
                have f2 := HX9.out.f 2
                have f3 := HX9.out.f 3
                obtain ⟨hj, hb, hr, hbx⟩ := ret_ends (v := v) (K := ⟨KA, Kn, Kc⟩) (S := ⟨SA, Sn, Sc⟩) hjv (HB5.out.on hb9) hd9 HX9.out HX5.out.lt (by have := HG.out.2; omega) (by have := HG.out.1; omega) (.int .i64 v.k) (.string (tb v.t)) (.slice KA Kn Kc) (.slice SA Sn Sc)
                have HJe := Lib.hid hj
                have HBe := Lib.hid hb
                have HDe := Lib.hid hr
                have HRe := Lib.hid hres
                obtain ⟨q0, q1, q2, q3⟩ := box4 hbx
                clear hj hb hr hbx hjv hb9 hd9 HX9 HX5 HB5 HD5 hres c0 c1 c2 c3
                go_wp2
                refine bodyPost_ret (v := .agg #[.int .i64 v.k, .string (tb v.t), .slice KA Kn Kc, .slice SA Sn Sc]) (by simp [results, Tryz.results31, go_sem, q0, q1, q2, q3]) rfl ?_
                exact ⟨v, ⟨KA, Kn, Kc⟩, ⟨SA, Sn, Sc⟩, m2, l2, e2, HRe.out, hm2, HJe.out, rfl, HBe.out, HDe.out⟩
              · by_cases h123 : c = 123
                · subst h123
                  have hc : ((UInt8.toNat 123 : Nat) : Int) = 123 := rfl
                  rw [hc]
                  have HQ := Lib.hid (sobject_any g s o t.length m1 t W5 HsL.out hVt.out (Nat.le_refl _) hm15 (by omega) HD5.out)
                  have hk : kindR o m1 123 t = objR o m1 t := rfl
                  rw [hk] at hR0
                  rw [hR0] at HQ
                  clear hR0 hk
                  go_wp2_with fail
                  refine HQ.out.mono ?_
                  clear HQ
                  rintro E w9 ⟨v, ⟨KA, Kn, Kc⟩, ⟨SA, Sn, Sc⟩, m2, l2, e2, hres, hm2, hjv, rfl, hb9, hd9⟩
                  simp only [jx] at hjv ⊢
                  have HX9 := Lib.hid (HX5.out.but hb9 (by have := HG.out.1; omega))
                  obtain ⟨d0, d1, d2, d3⟩ := box4 HX9.out
                  have f0 := HX9.out.f 0
                  have f1 := HX9.out.f 1
                  have f2 := HX9.out.f 2
                  have f3 := HX9.out.f 3
                  obtain ⟨hj, hb, hr, hbx⟩ := ret_ends (v := v) (K := ⟨KA, Kn, Kc⟩) (S := ⟨SA, Sn, Sc⟩) hjv (HB5.out.on hb9) hd9 HX9.out HX5.out.lt (by have := HG.out.2; omega) (by have := HG.out.1; omega) (.int .i64 v.k) (.string (tb v.t)) (.slice KA Kn Kc) (.slice SA Sn Sc)
                  have HJe := Lib.hid hj
                  have HBe := Lib.hid hb
                  have HDe := Lib.hid hr
                  have HRe := Lib.hid hres
                  obtain ⟨q0, q1, q2, q3⟩ := box4 hbx
                  clear hj hb hr hbx hjv hb9 hd9 HX9 HX5 HB5 HD5 hres c0 c1 c2 c3
                  go_wp2
                  refine bodyPost_ret (v := .agg #[.int .i64 v.k, .string (tb v.t), .slice KA Kn Kc, .slice SA Sn Sc]) (by simp [results, Tryz.results31, go_sem, q0, q1, q2, q3]) rfl ?_
                  exact ⟨v, ⟨KA, Kn, Kc⟩, ⟨SA, Sn, Sc⟩, m2, l2, e2, HRe.out, hm2, HJe.out, rfl, HBe.out, HDe.out⟩
                · have hz91 : ((c.toNat : Int) == 91) = false := beq_eq_false_iff_ne.2 (fun h => h91 (UInt8.toNat_inj.1 (by rw [show (91 : UInt8).toNat = 91 from rfl]; omega)))
                  have hz123 : ((c.toNat : Int) == 123) = false := beq_eq_false_iff_ne.2 (fun h => h123 (UInt8.toNat_inj.1 (by rw [show (123 : UInt8).toNat = 123 from rfl]; omega)))
                  have hk : kindR o m1 c t = wordR m1 (c :: t) := by
                    unfold kindR leafR
                    rw [if_neg h91, if_neg h123]
                    simp only
                    rw [if_neg h34, if_neg (by simp [h45, hdg])]
                  rw [hk] at hR0
                  unfold digB at hdg
                  obtain ⟨z, hz⟩ : ∃ z : Int, (c.toNat : Int) = z := ⟨_, rfl⟩
                  have hzr : z < 48 ∨ (48 ≤ z ∧ 57 < z) := by
                    rw [Bool.and_eq_false_iff, decide_eq_false_iff_not, decide_eq_false_iff_not] at hdg
                    omega
                  have HQ := Lib.hid (sword_ok g s (c :: t) m1 W5 (by omega) HsL.out HD5.out)
                  rw [hR0] at HQ
                  rw [hz] at hz34 hz45 hz91 hz123 ⊢
                  clear hR0 hk hz hdg h34 h45 h91 h123
                  rcases hzr with hz1 | ⟨hz1, hz2⟩
                  · have hzl : ¬ (48 : Int) ≤ z := by omega
                    have hzd : decide ((48 : Int) ≤ z) = false := decide_eq_false hzl
                    go_wp2_with fail
                    refine HQ.out.mono ?_
                    clear HQ
                    rintro E w9 ⟨v, ⟨KA, Kn, Kc⟩, ⟨SA, Sn, Sc⟩, m2, l2, e2, hres, hm2, hjv, rfl, hb9, hd9⟩
                    simp only [jx] at hjv ⊢
                    have HX9 := Lib.hid (HX5.out.but hb9 (by have := HG.out.1; omega))
                    obtain ⟨d0, d1, d2, d3⟩ := box4 HX9.out
                    have f0 := HX9.out.f 0
                    have f1 := HX9.out.f 1
                    have f2 := HX9.out.f 2
                    have f3 := HX9.out.f 3
                    obtain ⟨hj, hb, hr, hbx⟩ := ret_ends (v := v) (K := ⟨KA, Kn, Kc⟩) (S := ⟨SA, Sn, Sc⟩) hjv (HB5.out.on hb9) hd9 HX9.out HX5.out.lt (by have := HG.out.2; omega) (by have := HG.out.1; omega) (.int .i64 v.k) (.string (tb v.t)) (.slice KA Kn Kc) (.slice SA Sn Sc)
                    have HJe := Lib.hid hj
                    have HBe := Lib.hid hb
                    have HDe := Lib.hid hr
                    have HRe := Lib.hid hres
                    obtain ⟨q0, q1, q2, q3⟩ := box4 hbx
                    clear hj hb hr hbx hjv hb9 hd9 HX9 HX5 HB5 HD5 hres c0 c1 c2 c3
                    go_wp2
                    refine bodyPost_ret (v := .agg #[.int .i64 v.k, .string (tb v.t), .slice KA Kn Kc, .slice SA Sn Sc]) (by simp [results, Tryz.results31, go_sem, q0, q1, q2, q3]) rfl ?_
                    exact ⟨v, ⟨KA, Kn, Kc⟩, ⟨SA, Sn, Sc⟩, m2, l2, e2, HRe.out, hm2, HJe.out, rfl, HBe.out, HDe.out⟩
                  · have hzl : ¬ z ≤ 57 := by omega
                    have hzd : decide ((48 : Int) ≤ z) = true := decide_eq_true hz1
                    have hzv : decide (z ≤ 57) = false := decide_eq_false hzl
                    go_wp2_with fail
                    refine HQ.out.mono ?_
                    clear HQ
                    rintro E w9 ⟨v, ⟨KA, Kn, Kc⟩, ⟨SA, Sn, Sc⟩, m2, l2, e2, hres, hm2, hjv, rfl, hb9, hd9⟩
                    simp only [jx] at hjv ⊢
                    have HX9 := Lib.hid (HX5.out.but hb9 (by have := HG.out.1; omega))
                    obtain ⟨d0, d1, d2, d3⟩ := box4 HX9.out
                    have f0 := HX9.out.f 0
                    have f1 := HX9.out.f 1
                    have f2 := HX9.out.f 2
                    have f3 := HX9.out.f 3
                    obtain ⟨hj, hb, hr, hbx⟩ := ret_ends (v := v) (K := ⟨KA, Kn, Kc⟩) (S := ⟨SA, Sn, Sc⟩) hjv (HB5.out.on hb9) hd9 HX9.out HX5.out.lt (by have := HG.out.2; omega) (by have := HG.out.1; omega) (.int .i64 v.k) (.string (tb v.t)) (.slice KA Kn Kc) (.slice SA Sn Sc)
                    have HJe := Lib.hid hj
                    have HBe := Lib.hid hb
                    have HDe := Lib.hid hr
                    have HRe := Lib.hid hres
                    obtain ⟨q0, q1, q2, q3⟩ := box4 hbx
                    clear hj hb hr hbx hjv hb9 hd9 HX9 HX5 HB5 HD5 hres c0 c1 c2 c3
                    go_wp2
                    refine bodyPost_ret (v := .agg #[.int .i64 v.k, .string (tb v.t), .slice KA Kn Kc, .slice SA Sn Sc]) (by simp [results, Tryz.results31, go_sem, q0, q1, q2, q3]) rfl ?_
                    exact ⟨v, ⟨KA, Kn, Kc⟩, ⟨SA, Sn, Sc⟩, m2, l2, e2, HRe.out, hm2, HJe.out, rfl, HBe.out, HDe.out⟩
/-- value, for texts of whatever length -/
theorem vd_all (g : Nat) (s : Bs) (hs : s.length ≤ 1000000) : ∀ N, VdAll g s N := by
  intro N
  induction N with
  | zero =>
    intro o m l w hl ho hm hd
    refine svalue_walk g s o m l w hs ho hm (fun c t hk => ?_) hd
    have := skip_mem hk
    omega
  | succ N ih =>
    intro o m l w hl ho hm hd
    refine svalue_walk g s o m l w hs ho hm (fun c t hk => ih.mono ?_) hd
    have := skip_mem hk
    omega
end Go.Proofs.YtnkhghjcfhpeiaaGreatDoor
