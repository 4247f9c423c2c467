/-
  The document's own Parse, walked.
-/
import Derived.Test.YtnkhghjcfhpeiaaGreatDoorXh
import Derived.Test.YtnkhghjcfhpeiaaGreatDoorJI
namespace Go.Proofs.YtnkhghjcfhpeiaaGreatDoor
open Go.RowKit
theorem But.low11 {g B : Nat} {w w' : World} (h : But g w w') (hB : B ≤ g) (hw : B ≤ w.heap.size) : Below B w w' := ⟨h.os, h.tape, h.output, h.size, fun k hk => h.block k (by omega) (by omega)⟩
def parUn (n : Nat) (r : Res) : Jv × Int × Nat := match r with
  | .error (e, l) => (.zero, e, n - l.length)
  | .ok (v, _, l) => match skipB l with
    | [] => (v, 0, 0)
    | c :: r => (.zero, 31, n - (c :: r).length)
theorem parse_unU (s : Bs) : parseJ s = if 4000 < s.length then (.zero, 2, 0) else parUn s.length (runU (.val 0) 0 s) := by
  rw [parse_runU]
  rfl
theorem DS.start (w : World) (s : Bs) : DS (w.alloc (.cells #[.string (tb s), .int .i64 0, .int .i64 0, .int .i64 0] 61)) w.heap.size s s 0 0 := by
  refine ⟨?_, by rw [Nat.sub_self]; rfl, Nat.le_refl _⟩
  rw [Nat.sub_self]
  exact Box.new w 61 #[.string (tb s), .int .i64 0, .int .i64 0, .int .i64 0]
set_option maxRecDepth 100000 in
set_option maxHeartbeats 16000000 in
theorem rparse11_any (s : Bs) (w : World) (hs : s.length ≤ 1000000) : Calls Tryz.prog 20 #[.string (tb s)] w (ParEnds (parseJ s) w) := by
  have zs : (tb s).size = s.length := tb_size s
  obtain ⟨ba, hbx, hsz⟩ := one_new w #[.int .i64 0, .string ⟨#[]⟩, .slice none 0 0, .slice none 0 0] 25
  obtain ⟨gr, hgr⟩ : ∃ gr, w.heap.size = gr := ⟨_, rfl⟩
  have HG := Lib.hid hgr
  have HSz : Hid ((w.alloc (.cells #[.int .i64 0, .string ⟨#[]⟩, .slice none 0 0, .slice none 0 0] 25)).heap.size = gr + 1) := Lib.hid (by rw [hsz, hgr])
  have HB0 := Lib.hid ba
  rw [hgr] at hbx
  have HX0 := Lib.hid hbx
  clear hsz hbx ba
  rw [parse_unU]
  by_cases h4 : 4000 < s.length
  · rw [if_pos h4]
    have h4i : (4000 : Int) < (s.length : Int) := by omega
    have hd1 : decide ((4000 : Int) < (s.length : Int)) = true := decide_eq_true h4i
    have hd2 : decide (4000 < s.length) = true := decide_eq_true h4
    go_enter Tryz.func20, Tryz.ntmps20
    go_upto_region 1 with fail
    try rw [hgr]
    rw [hgr] at HB0
    clear hgr HSz
    generalize w.alloc (.cells #[.int .i64 0, .string ⟨#[]⟩, .slice none 0 0, .slice none 0 0] 25) = W0 at *
    obtain ⟨d0, d1, d2, d3⟩ := box4 HX0.out
    have f0 := HX0.out.f 0
    have f1 := HX0.out.f 1
    have f2 := HX0.out.f 2
    have f3 := HX0.out.f 3
    obtain ⟨q0, q1, q2, q3⟩ := box4 (box_set4 HX0.out (.int .i64 0) (.string ⟨#[]⟩) (.slice none 0 0) (.slice none 0 0))
    have HBt := Lib.hid (below_set4 HB0.out (Nat.le_refl gr) (.int .i64 0) (.string ⟨#[]⟩) (.slice none 0 0) (.slice none 0 0))
    clear HX0 HB0
    go_wp2
    refine bodyPost_ret (v := .tuple #[.agg #[.int .i64 0, .string ⟨#[]⟩, .slice none 0 0, .slice none 0 0], .int .i64 2, .int .i64 0]) (by simp [results, Tryz.results20, go_sem, q0, q1, q2, q3]) rfl ?_
    exact ⟨⟨none, 0, 0⟩, ⟨none, 0, 0⟩, rfl, jleaf _ _ _ _, by rw [HG.out]; exact HBt.out⟩
  · rw [if_neg h4]
    have h4i : ¬ (4000 : Int) < (s.length : Int) := by omega
    have hd1 : decide ((4000 : Int) < (s.length : Int)) = false := decide_eq_false h4i
    have hd2 : decide (4000 < s.length) = false := decide_eq_false h4
    have HV : Hid (∀ g W, DS W g s s 0 0 → Calls Tryz.prog 31 #[.pointer (some ⟨g, 0, none⟩), .int .i64 0] W (VdE g s (runU (.val 0) 0 s) W)) := Lib.hid (fun g W h => vd_all g s hs s.length 0 0 s W (Nat.le_refl _) (by omega) (by omega) h)
    have HS := Lib.hid (fun g l m W (h : DS W g s l m 0) => sskip_ok g s l m W hs h)
    have HSe := Lib.hid (fun g l m e (he : e ≠ 0) W (h : DS W g s l m e) => sskip_er g s l m e he W h)
    obtain ⟨R, hR⟩ : ∃ R, runU (.val 0) 0 s = R := ⟨_, rfl⟩
    rw [hR] at HV ⊢
    clear hR
    obtain ⟨Q, hQ⟩ : ∃ Q, parUn s.length R = Q := ⟨_, rfl⟩
    rw [hQ]
    have HQ0 := Lib.hid hQ
    clear hQ
    go_enter Tryz.func20, Tryz.ntmps20
    go_upto_region 1 with fail
    try rw [hgr]
    rw [hgr] at HB0
    clear hgr
    generalize w.alloc (.cells #[.int .i64 0, .string ⟨#[]⟩, .slice none 0 0, .slice none 0 0] 25) = W0 at *
    go_upto_region 4 with fail
    have hbA := ba1 W0 (.cells #[.string (tb s), .int .i64 0, .int .i64 0, .int .i64 0] 61)
    have hd0 := DS.start W0 s
    have HX1 := Lib.hid (HX0.out.up hbA)
    have hB1 := HB0.out.trans (hbA.mono (by have := HSz.out; omega))
    have HB1 := Lib.hid hB1
    have hs1 := HSz.out
    rw [hs1] at hd0
    try rw [hs1]
    obtain ⟨g, hg⟩ : ∃ g, gr + 1 = g := ⟨_, rfl⟩
    try rw [hg] at hd0
    try rw [hg]
    have hgg : gr < g := by omega
    have hne : gr ≠ g := by omega
    have hne2 : g ≠ gr := by omega
    have HGg := Lib.hid hgg
    have HD1 := Lib.hid hd0
    clear hbA hB1 HB0 HX0 HSz hs1 hd0 hg hgg
    generalize W0.alloc (.cells #[.string (tb s), .int .i64 0, .int .i64 0, .int .i64 0] 61) = W1 at *
    go_wp2_with fail
    refine (HV.out g W1 HD1.out).mono ?_
    rintro E w2 ⟨v, ⟨KA, Kn, Kc⟩, ⟨SA, Sn, Sc⟩, m2, l2, e2, hres, hm2, hjv, rfl, hb2, hd2⟩
    simp only [jx] at hjv ⊢
    have hlt1 := HX1.out.lt
    have hgl1 := HD1.out.lt
    have hx2 := HX1.out.but hb2 (by omega)
    have hB2 := HB1.out.trans (hb2.low11 (B := gr) (by have := HGg.out; omega) (by omega))
    have hJ2 : JV w2 (fun b => g < b) v (.agg #[.int .i64 v.k, .string (tb v.t), .slice KA Kn Kc, .slice SA Sn Sc]) := JV.to (Keeps.same (fun b hp _ => by show g < b; omega)) _ _ hjv
    clear HV HX1 HB1 hjv hm2 hb2 hlt1 hgl1 HD1
    go_upto_region 5 with fail
    have hbA := ba1 w2 (.cells #[.int .i64 v.k, .string (tb v.t), .slice KA Kn Kc, .slice SA Sn Sc] 25)
    have HX3 := Lib.hid (hx2.up hbA)
    have HB3 := Lib.hid (hB2.trans (hbA.mono (by have := hx2.lt; omega)))
    have HJ3 := Lib.hid (hJ2.up hbA)
    have HV3 := Lib.hid (Box.new w2 25 #[.int .i64 v.k, .string (tb v.t), .slice KA Kn Kc, .slice SA Sn Sc])
    have HD3 := Lib.hid (hd2.up hbA)
    have hgl := hd2.lt
    clear hbA hx2 hB2 hJ2 hd2
    obtain ⟨gv, hgv⟩ : ∃ gv, w2.heap.size = gv := ⟨_, rfl⟩
    rw [hgv] at HV3 hgl
    try rw [hgv]
    have HGv := Lib.hid hgl
    clear hgv hgl
    generalize w2.alloc (.cells #[.int .i64 v.k, .string (tb v.t), .slice KA Kn Kc, .slice SA Sn Sc] 25) = W3 at *
    cases R with
    | error er =>
      obtain ⟨e, r⟩ := er
      have hqq : Q = (.zero, e, s.length - r.length) := HQ0.out.symm
      subst hqq
      clear HQ0
      obtain ⟨rfl, rfl, he0⟩ := hres
      have hee : (e2 == 0) = false := beq_eq_false_iff_ne.2 he0
      have heb : (e2 != 0) = true := by rw [bne, hee]; rfl
      have hed : decide (e2 = 0) = false := decide_eq_false he0
      have HQ := Lib.hid (HSe.out g l2 m2 e2 he0 W3 HD3.out)
      go_wp2_with fail
      refine HQ.out.mono ?_
      rintro E w4 ⟨rfl, hb4, hd4⟩
      have HX4 := Lib.hid (HX3.out.but hb4 (by have := HGg.out; omega))
      have HV4 := Lib.hid (HV3.out.but hb4 (by have := HGv.out; omega))
      have HJ4 := Lib.hid (JV.to (Keeps.but hb4 (P' := fun b => g < b) (fun b hp => by omega) (fun _ hp _ => hp)) _ _ HJ3.out)
      have HB4 := Lib.hid (HB3.out.trans (hb4.low11 (B := gr) (by have := HGg.out; omega) (by have := HX3.out.lt; omega)))
      have HD4 := Lib.hid hd4
      obtain ⟨c0, c1, c2, c3⟩ := hd4.cells
      clear HQ hb4 hd4 HX3 HV3 HJ3 HB3 HD3
      clear HS HSe
      obtain ⟨d0, d1, d2, d3⟩ := box4 HX4.out
      have f0 := HX4.out.f 0
      have f1 := HX4.out.f 1
      have f2 := HX4.out.f 2
      have f3 := HX4.out.f 3
      obtain ⟨q0, q1, q2, q3⟩ := box4 (box_set4 HX4.out (.int .i64 0) (.string ⟨#[]⟩) (.slice none 0 0) (.slice none 0 0))
      have HBt := Lib.hid (below_set4 HB4.out (Nat.le_refl gr) (.int .i64 0) (.string ⟨#[]⟩) (.slice none 0 0) (.slice none 0 0))
      clear HX4 HB4 HV4 HJ4 HD4
      go_upto_region 9 with fail
      go_region
      go_wp2
      refine bodyPost_ret (v := .tuple #[.agg #[.int .i64 0, .string ⟨#[]⟩, .slice none 0 0, .slice none 0 0], .int .i64 e2, .int .i64 ((s.length - l2.length : Nat) : Int)]) (by simp [results, Tryz.results20, go_sem, q0, q1, q2, q3]) rfl ?_
      refine ⟨⟨none, 0, 0⟩, ⟨none, 0, 0⟩, ?_, jleaf _ _ _ _, by rw [HG.out]; exact HBt.out.drew⟩
      rfl
    | ok q =>
      obtain ⟨v', m', l'⟩ := q
      obtain ⟨rfl, rfl, rfl, rfl⟩ := hres
      have HQ := Lib.hid (HS.out g l2 m2 W3 HD3.out)
      go_wp2_with fail
      refine HQ.out.mono ?_
      rintro E w4 ⟨rfl, hb4, hd4⟩
      have HX4 := Lib.hid (HX3.out.but hb4 (by have := HGg.out; omega))
      have HV4 := Lib.hid (HV3.out.but hb4 (by have := HGv.out; omega))
      have HJ4 := Lib.hid (JV.to (Keeps.but hb4 (P' := fun b => g < b) (fun b hp => by omega) (fun _ hp _ => hp)) _ _ HJ3.out)
      have HB4 := Lib.hid (HB3.out.trans (hb4.low11 (B := gr) (by have := HGg.out; omega) (by have := HX3.out.lt; omega)))
      have HD4 := Lib.hid hd4
      obtain ⟨c0, c1, c2, c3⟩ := hd4.cells
      clear HQ hb4 hd4 HX3 HV3 HJ3 HB3 HD3
      clear HS HSe
      cases hk : skipB l2 with
      | nil =>
        rw [hk] at c1
        rw [List.length_nil, Nat.sub_zero] at c1
        have hpp : ¬ (s.length : Int) < (s.length : Int) := by omega
        have hpd : decide ((s.length : Int) < (s.length : Int)) = false := decide_eq_false hpp
        have hq : parUn s.length (.ok (v, m2, l2)) = (v, 0, 0) := by unfold parUn; simp only; rw [hk]
        obtain rfl : Q = (v, 0, 0) := HQ0.out.symm.trans hq
        clear hk hq HQ0
        obtain ⟨d0, d1, d2, d3⟩ := box4 HX4.out
        have f0 := HX4.out.f 0
        have f1 := HX4.out.f 1
        have f2 := HX4.out.f 2
        have f3 := HX4.out.f 3
        obtain ⟨v0, v1, v2, v3⟩ := box4 HV4.out
        obtain ⟨q0, q1, q2, q3⟩ := box4 (box_set4 HX4.out (.int .i64 v.k) (.string (tb v.t)) (.slice KA Kn Kc) (.slice SA Sn Sc))
        have HBt := Lib.hid (below_set4 HB4.out (Nat.le_refl gr) (.int .i64 v.k) (.string (tb v.t)) (.slice KA Kn Kc) (.slice SA Sn Sc))
        have hP : ∀ b, g < b → b ≠ gr := fun b hp => by have := HGg.out; omega
        have j := JV.to (keep_set (i := 3) (u := .slice SA Sn Sc) hP) _ _ (JV.to (keep_set (i := 2) (u := .slice KA Kn Kc) hP) _ _ (JV.to (keep_set (i := 1) (u := .string (tb v.t)) hP) _ _ (JV.to (keep_set (i := 0) (u := .int .i64 v.k) hP) _ _ HJ4.out)))
        have HJ := Lib.hid (JV.to (Keeps.same (P' := anyB) (fun b hp _ => trivial)) _ _ j)
        clear HX4 HB4 HV4 HJ4 HD4 j hP
        go_wp2
        refine bodyPost_ret (v := .tuple #[.agg #[.int .i64 v.k, .string (tb v.t), .slice KA Kn Kc, .slice SA Sn Sc], .int .i64 0, .int .i64 0]) (by simp [results, Tryz.results20, go_sem, q0, q1, q2, q3]) rfl ?_
        exact ⟨⟨KA, Kn, Kc⟩, ⟨SA, Sn, Sc⟩, rfl, HJ.out, by rw [HG.out]; exact HBt.out⟩
      | cons c r =>
        rw [hk] at c1 HD4
        have hq : parUn s.length (.ok (v, m2, l2)) = (.zero, 31, s.length - (c :: r).length) := by unfold parUn; simp only; rw [hk]
        obtain rfl : Q = (.zero, 31, s.length - (c :: r).length) := HQ0.out.symm.trans hq
        clear HQ0
        have hle := HD4.out.le
        obtain ⟨p, hp⟩ : ∃ p, s.length - (c :: r).length = p := ⟨_, rfl⟩
        rw [hp] at c1
        have HP := Lib.hid hp
        have hlc : 0 < (c :: r).length := by simp
        have hpp : (p : Int) < (s.length : Int) := by omega
        have hpd : decide ((p : Int) < (s.length : Int)) = true := decide_eq_true hpp
        have hpn : p < s.length := by omega
        have hpe : decide (p < s.length) = true := decide_eq_true hpn
        rw [hp]
        have hF := sfail_any g s (c :: r) m2 0 31 w4 HD4.out
        rw [if_pos rfl] at hF
        have HF := Lib.hid hF
        clear hk hq hle hp hlc hF
        go_wp2_with fail
        refine HF.out.mono ?_
        rintro E w5 ⟨rfl, hb5, hd5⟩
        have HX5 := Lib.hid (HX4.out.but hb5 (by have := HGg.out; omega))
        have HB5 := Lib.hid (HB4.out.trans (hb5.low11 (B := gr) (by have := HGg.out; omega) (by have := HX4.out.lt; omega)))
        have HV5 := HV4
        have HJ5 := HJ4
        have HD5 := Lib.hid hd5
        clear c0 c1 c2 c3
        obtain ⟨c0, c1, c2, c3⟩ := hd5.cells
        rw [HP.out] at c1
        clear hb5 hd5 HX4 HV4 HJ4 HB4 HD4 HF
        obtain ⟨d0, d1, d2, d3⟩ := box4 HX5.out
        have f0 := HX5.out.f 0
        have f1 := HX5.out.f 1
        have f2 := HX5.out.f 2
        have f3 := HX5.out.f 3
        obtain ⟨q0, q1, q2, q3⟩ := box4 (box_set4 HX5.out (.int .i64 0) (.string ⟨#[]⟩) (.slice none 0 0) (.slice none 0 0))
        have HBt := Lib.hid (below_set4 HB5.out (Nat.le_refl gr) (.int .i64 0) (.string ⟨#[]⟩) (.slice none 0 0) (.slice none 0 0))
        clear HX5 HB5 HV5 HJ5 HD5
        go_upto_region 9 with fail
        go_region
        go_wp2
        refine bodyPost_ret (v := .tuple #[.agg #[.int .i64 0, .string ⟨#[]⟩, .slice none 0 0, .slice none 0 0], .int .i64 31, .int .i64 (p : Int)]) (by simp [results, Tryz.results20, go_sem, q0, q1, q2, q3]) rfl ?_
        refine ⟨⟨none, 0, 0⟩, ⟨none, 0, 0⟩, ?_, jleaf _ _ _ _, by rw [HG.out]; exact HBt.out.drew⟩
        show Ending.returned _ = Ending.returned (.tuple #[_, _, .int .i64 ((s.length - (c :: r).length : Nat) : Int)])
        rw [HP.out]
        rfl
theorem rpj : RPJ := fun s W hs _ => rparse11_any s W hs
end Go.Proofs.YtnkhghjcfhpeiaaGreatDoor
