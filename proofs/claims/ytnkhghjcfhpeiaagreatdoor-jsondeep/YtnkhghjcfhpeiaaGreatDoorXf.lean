/-
  The document's own reader: value behind an error; a list.
-/
import Derived.Test.YtnkhghjcfhpeiaaGreatDoorXe
namespace Go.Proofs.YtnkhghjcfhpeiaaGreatDoor
open Go.RowKit
theorem one_new (w : World) (a : Array Value) (t : TypeId) : Below w.heap.size w (w.alloc (.cells a t)) ∧ Box (w.alloc (.cells a t)) w.heap.size t a ∧ (w.alloc (.cells a t)).heap.size = w.heap.size + 1 := ⟨ba1 w (.cells a t), Box.new w t a, by simp⟩
set_option maxRecDepth 100000 in
set_option maxHeartbeats 4000000 in
/-- value behind an error -/
theorem svalue_er (g : Nat) (s l : Bs) (m : Nat) (e : Int) (he : e ≠ 0) (o : Nat) (w : World) (h : DS w g s l m e) : Calls Tryz.prog 31 #[.pointer (some ⟨g, 0, none⟩), .int .i64 (o : Int)] w (DEnds g s w (jx .zero ⟨none, 0, 0⟩ ⟨none, 0, 0⟩) l m e) := by
  have hgl := h.lt
  have hee : (e == 0) = false := beq_eq_false_iff_ne.2 he
  have hen : (e != 0) = true := by rw [bne, hee]; rfl
  have hed : decide (e = 0) = false := decide_eq_false he
  obtain ⟨ba, hbx, hsz⟩ := one_new w #[.int .i64 0, .string ⟨#[]⟩, .slice none 0 0, .slice none 0 0] 25
  obtain ⟨gr, hgr⟩ : ∃ gr, w.heap.size = gr := ⟨_, rfl⟩
  have HS := Lib.hid (fun W (h : DS W g s l m e) => sskip_er g s l m e he W h)
  have HD0 := Lib.hid (h.up ba)
  have HB0 := Lib.hid (But.of (g := g) ba)
  have HG : Hid (g < gr ∧ w.heap.size = gr) := Lib.hid ⟨by omega, hgr⟩
  clear h ba hsz hgl
  go_enter Tryz.func31, Tryz.ntmps31
  go_upto_region 1 with fail
  rw [hgr] at hbx
  have HX0 := Lib.hid hbx
  try rw [hgr]
  clear hbx hgr
  generalize w.alloc (.cells #[.int .i64 0, .string ⟨#[]⟩, .slice none 0 0, .slice none 0 0] 25) = W0 at *
  go_wp2_with fail
  refine (HS.out W0 HD0.out).mono ?_
  rintro E w1 ⟨rfl, hb1, hd1⟩
  obtain ⟨c0, c1, c2, c3⟩ := hd1.cells
  have HD1 := Lib.hid hd1
  have HB1 := Lib.hid (HB0.out.on hb1)
  have HX1 := Lib.hid (HX0.out.but hb1 (by have := HG.out.1; omega))
  clear hd1 hb1 HS HD0 HB0 HX0
  go_upto_region 6 with fail
  go_quiet (fail)
  rename_i nq
  have hbq := below_drewN (Below.refl w1.heap.size w1) nq
  have HD3 := Lib.hid (HD1.out.up hbq)
  have HB3 := Lib.hid (HB1.out.on (But.of hbq))
  have HX3 := Lib.hid (HX1.out.up hbq)
  clear HD1 HB1 HX1 c0 c1 c2 c3 hbq
  generalize w1.drewN nq = W2 at *
  obtain ⟨c0, c1, c2, c3⟩ := HD3.out.cells
  obtain ⟨d0, d1, d2, d3⟩ := box4 HX3.out
  have f0 := HX3.out.f 0
  have f1 := HX3.out.f 1
  have f2 := HX3.out.f 2
  have f3 := HX3.out.f 3
  obtain ⟨q0, q1, q2, q3⟩ := box4 (box_set4 HX3.out (.int .i64 0) (.string ⟨#[]⟩) (.slice none 0 0) (.slice none 0 0))
  have HBt := Lib.hid (but_set4 (gr := gr) HB3.out (by have := HG.out.2; omega) (.int .i64 0) (.string ⟨#[]⟩) (.slice none 0 0) (.slice none 0 0))
  have HDt := Lib.hid (ds_far4 (gr := gr) HD3.out (by have := HG.out.1; omega) (.int .i64 0) (.string ⟨#[]⟩) (.slice none 0 0) (.slice none 0 0))
  clear HX3 HB3 HD3
  go_wp2
  refine bodyPost_ret (v := .agg #[(.int .i64 0), .string ⟨#[]⟩, .slice none 0 0, .slice none 0 0]) (by simp [results, Tryz.results31, go_sem, q0, q1, q2, q3]) rfl ?_
  exact ⟨rfl, HBt.out, HDt.out⟩
/-- value, behind an error or not -/
theorem svalue_both (g : Nat) (s : Bs) (N o m : Nat) (l : Bs) (e : Int) (I : Res) (w : World) (hV : VdAll g s N) (hl : l.length ≤ N) (ho : o ≤ 16) (hm : m ≤ 500) (h : DS w g s l m e) (hI : (e = 0 ∧ I = runU (.val o) m l) ∨ (e ≠ 0 ∧ I = .error (e, l))) : Calls Tryz.prog 31 #[.pointer (some ⟨g, 0, none⟩), .int .i64 (o : Int)] w (VdE g s I w) := by
  rcases hI with ⟨rfl, rfl⟩ | ⟨he, rfl⟩
  · exact hV o m l w hl ho hm h
  · refine (svalue_er g s l m e he o w h).mono ?_
    rintro E w' ⟨rfl, hb, hd⟩
    exact ⟨.zero, ⟨none, 0, 0⟩, ⟨none, 0, 0⟩, m, l, e, ⟨rfl, rfl, he⟩, by omega, jleaf _ _ _ _, rfl, hb, hd⟩
set_option maxRecDepth 100000 in
set_option maxHeartbeats 8000000 in
theorem slist_any (g : Nat) (s : Bs) (o N m : Nat) (t : Bs) (w : World) (hs : s.length ≤ 1000000) (hV : VdAll g s N) (hl : t.length ≤ N) (hm : m ≤ 500) (ho : o + 1 ≤ 16) (h : DS w g s (91 :: t) m 0) :
    Calls Tryz.prog 53 #[.pointer (some ⟨g, 0, none⟩), .int .i64 (o : Int)] w (VdE g s (listR o m t) w) := by
  have hgl := h.lt
  have HV := Lib.hid hV
  have HN1 : Hid (∀ W, DS W g s (91 :: t) m 0 → Calls Tryz.prog 77 #[.pointer (some ⟨g, 0, none⟩), .int .u8 91] W (DEnds g s W (.tuple #[]) t m 0)) := Lib.hid (fun W hd => by
    have h1 := sneed_ok g s (91 :: t) m 91 W hs hd
    have h2 : needD 91 (91 :: t) = (t, 0) := by unfold needD; rw [is_head (by decide)]; rfl
    rw [h2] at h1
    exact h1)
  have HI1 : Hid (∀ W l m, DS W g s l m 0 → Calls Tryz.prog 78 #[.pointer (some ⟨g, 0, none⟩), .int .u8 93] W (DEnds g s W (.bool (isD 93 l).1) (isD 93 l).2 m 0)) := Lib.hid (fun W l m hd => sis_ok g s l m 93 W hs hd)
  have HC : Hid (∀ W l m, DS W g s l m 0 → Calls Tryz.prog 78 #[.pointer (some ⟨g, 0, none⟩), .int .u8 44] W (DEnds g s W (.bool (isD 44 l).1) (isD 44 l).2 m 0)) := Lib.hid (fun W l m hd => sis_ok g s l m 44 W hs hd)
  have HCe : Hid (∀ W l m e, e ≠ 0 → DS W g s l m e → Calls Tryz.prog 78 #[.pointer (some ⟨g, 0, none⟩), .int .u8 44] W (DEnds g s W (.bool false) l m e)) := Lib.hid (fun W l m e he hd => sis_er g s l m e he 44 W hd)
  have HN : Hid (∀ W l m, DS W g s l m 0 → Calls Tryz.prog 77 #[.pointer (some ⟨g, 0, none⟩), .int .u8 93] W (DEnds g s W (.tuple #[]) (needD 93 l).1 m (needD 93 l).2)) := Lib.hid (fun W l m hd => sneed_ok g s l m 93 W hs hd)
  have HNe : Hid (∀ W l m e, e ≠ 0 → DS W g s l m e → Calls Tryz.prog 77 #[.pointer (some ⟨g, 0, none⟩), .int .u8 93] W (DEnds g s W (.tuple #[]) l m e)) := Lib.hid (fun W l m e he hd => sneed_er g s l m e he 93 W hd)
  obtain ⟨R0, hR0⟩ : ∃ R0, listR o m t = R0 := ⟨_, rfl⟩
  rw [hR0]
  rw [listR_is] at hR0
  have HR0 := Lib.hid hR0.symm
  obtain ⟨ba, hbx, hsz⟩ := one_new w #[.int .i64 0, .string ⟨#[]⟩, .slice none 0 0, .slice none 0 0] 25
  have HB := Lib.hid ba
  have HX := Lib.hid hbx
  have HD0 := Lib.hid (h.up ba)
  clear h ba hbx hR0 hV
  go_enter Tryz.func53, Tryz.ntmps53
  go_upto_region 1 with fail
  obtain ⟨gr, hgr⟩ : ∃ gr, w.heap.size = gr := ⟨_, rfl⟩
  rw [hgr] at HX ⊢
  generalize w.alloc (.cells #[.int .i64 0, .string ⟨#[]⟩, .slice none 0 0, .slice none 0 0] 25) = W1 at *
  go_upto_region 2 with fail
  obtain ⟨gv, hgv⟩ : ∃ gv, gr + 1 = gv := ⟨_, rfl⟩
  rw [hgv]
  obtain ⟨W2, hW2⟩ : ∃ W2, W2 = W1.alloc (.cells #[.int .i64 6, .string ⟨#[]⟩, .slice none 0 0, .slice none 0 0] 25) := ⟨_, rfl⟩
  have HL2 := Lib.hid (ld_new (g := g) (gr := gr) (gv := gv) HB.out HX.out hgr.symm (by omega) (by omega) hgl hW2)
  have hD2 : DS W2 g s (91 :: t) m 0 := by
    rw [hW2]
    exact HD0.out.up (ba1 W1 _)
  have HD2 := Lib.hid hD2
  rw [← hW2]
  clear hD2 hW2 HB HX HD0 hsz hgr hgv
  go_wp2_with fail
  refine (HN1.out _ HD2.out).mono ?_
  rintro E w3 ⟨rfl, hb3, hd3⟩
  have HL3 := Lib.hid (HL2.out.call hb3 HD2.out.bx)
  have HI3 := Lib.hid (HI1.out w3 t m hd3)
  have HD3 := Lib.hid hd3
  have hisl := is_le 93 t
  clear hb3 hd3 HL2 HD2 HN1 HI1
  obtain ⟨⟨b3, l3⟩, hi3⟩ : ∃ q, isD 93 t = q := ⟨_, rfl⟩
  have hR1 := HR0.out
  rw [hi3] at hR1 HI3 hisl
  simp only at hR1 HI3 hisl
  clear hi3 HR0
  cases b3 with
  | true =>
    rw [if_pos rfl] at hR1
    have HRd : Hid (ResD R0 (.mk 6 [] [] []) m l3 0) := Lib.hid (by rw [hR1]; exact ⟨rfl, rfl, rfl, rfl⟩)
    clear hR1
    go_wp2_with fail
    refine HI3.out.mono ?_
    rintro E w4 ⟨rfl, hb4, hd4⟩
    have HL4 := Lib.hid (HL3.out.call hb4 HD3.out.bx)
    have HD4 := Lib.hid hd4
    clear hb4 hd4 HL3 HD3 HI3
    obtain ⟨c0, c1, c2, c3⟩ := box4 HL4.out.bx
    obtain ⟨d0, d1, d2, d3⟩ := box4 HL4.out.res
    have f0 := HL4.out.res.f 0
    have f1 := HL4.out.res.f 1
    have f2 := HL4.out.res.f 2
    have f3 := HL4.out.res.f 3
    obtain ⟨hj, hb, hr, hbx⟩ := HL4.out.ends HD4.out (.int .i64 6) (.string ⟨#[]⟩) (.slice none 0 0) (.slice none 0 0)
    have HJe := Lib.hid hj
    have HBe := Lib.hid hb
    have HDe := Lib.hid hr
    obtain ⟨q0, q1, q2, q3⟩ := box4 hbx
    clear hj hb hr hbx HL4 HD4
    go_wp2
    refine bodyPost_ret (v := .agg #[.int .i64 6, .string ⟨#[]⟩, .slice none 0 0, .slice none 0 0]) (by simp [results, Tryz.results53, go_sem, q0, q1, q2, q3]) rfl ?_
    exact ⟨.mk 6 [] [] [], ⟨none, 0, 0⟩, ⟨none, 0, 0⟩, m, _, _, HRd.out, by omega, HJe.out, rfl, HBe.out, HDe.out⟩
  | false =>
    rw [if_neg (by decide)] at hR1
    have HQ0 := Lib.hid hR1
    clear hR1
    go_wp2_with fail
    refine HI3.out.mono ?_
    rintro E w4 ⟨rfl, hb4, hd4⟩
    have HL4 := Lib.hid (HL3.out.call hb4 HD3.out.bx)
    have HD4 := Lib.hid hd4
    have hl3 : l3.length ≤ N := by omega
    clear hb4 hd4 HL3 HD3 HI3
    go_wp2_with fail
    go_loopg [12] (t.length + 1) (fun k _ wr => ∃ (l1 : Bs) (m1 : Nat) (S : Sli) (vs : List Jv) (cs : List Value), l1.length < k ∧ l1.length ≤ N ∧ m1 ≤ 500 ∧ vs.length ≤ m1 ∧ Hid (LD w wr g gr gv 6 ⟨none, 0, 0⟩ [] S vs cs) ∧ Hid (DS wr g s l1 m1 0) ∧ Hid (R0 = runU (.items o vs) m1 l1))
    case atStart => exact ⟨l3, m, ⟨none, 0, 0⟩, [], [], by omega, hl3, hm, Nat.zero_le _, HL4, HD4, HQ0⟩
    case round =>
      obtain ⟨l1, m1, S, vs, cs, hlk, hl1, hm1, hct, HLr, HDr, HRr⟩ := hrel
      clear HL4 HD4 HQ0 hl3 hisl
      obtain ⟨SA, Sn, Sc⟩ := S
      have hRi := HRr.out
      rw [items_is] at hRi
      obtain ⟨I, hI⟩ : ∃ I, runU (.val (o + 1)) m1 l1 = I := ⟨_, rfl⟩
      rw [hI] at hRi
      have HSt := Lib.hid hRi
      obtain ⟨o1, ho1⟩ : ∃ o1, o + 1 = o1 := ⟨_, rfl⟩
      have hwo : IntKind.i64.wrap ((o : Int) + 1) = (o1 : Int) := by rw [IntWalk.i64_in _ (by omega)]; omega
      have HVc : Hid (∀ W', DS W' g s l1 m1 0 → Calls Tryz.prog 31 #[.pointer (some ⟨g, 0, none⟩), .int .i64 (o1 : Int)] W' (VdE g s I W')) := Lib.hid (fun W' q => by
        have := HV.out (o + 1) m1 l1 W' hl1 ho hm1 q
        rw [hI, ho1] at this
        exact this)
      have HLn : Hid (∀ v m' l', I = .ok (v, m', l') → l'.length < l1.length ∧ m1 + 1 ≤ m' ∧ m' ≤ 500) := Lib.hid (fun v m' l' q => by
        rw [← hI] at q
        exact ⟨runU_len q, runU_more q⟩)
      have hSn : Sn ≤ 500 := by
        have e1 := HLr.out.vrow.1
        have e2 := HLr.out.jl.len
        simp only at e1
        omega
      have HLd := Lib.hid (HLr.out.up (Below.refl _ _).drew)
      have HDd := Lib.hid (HDr.out.up (Below.refl _ _).drew)
      obtain ⟨c0, c1, c2, c3⟩ := HDr.out.cells
      clear hRi hI ho1 HRr
      go_upto_region 6 with fail
      clear c0 c1 c2 c3
      have k1 : wr.cell? ⟨gv, 3, none⟩ = some (.slice SA Sn Sc) := HLr.out.bx.c 3 rfl
      obtain ⟨iV, hi, hz0, hz1, hz2⟩ := info_parts infoV
      go_region_law (first
        | (go_simp; go_at_call 31; refine (HVc.out wr.drew HDd.out).mono ?_; rintro E w5 ⟨v, K3, S3, m2, l2, e2, hres, hm2, hjv, rfl, hb5, hd5⟩; have h5 := HLd.out.call hb5 HDd.out.bx; have hap := HLd.out.apart hjv; have hbA := ba1 w5 (.cells #[.int .i64 v.k, .string (tb v.t), .slice K3.A K3.n K3.c, .slice S3.A S3.n S3.c] 25); have h6 := h5.up hbA; have hap6 := hap.up hbA; have hd6 := hd5.up hbA; have k5 : w5.cell? ⟨gv, 3, none⟩ = some (.slice SA Sn Sc) := h5.bx.c 3 rfl; have k6 : (w5.alloc (.cells #[.int .i64 v.k, .string (tb v.t), .slice K3.A K3.n K3.c, .slice S3.A S3.n S3.c] 25)).cell? ⟨gv, 3, none⟩ = some (.slice SA Sn Sc) := h6.bx.c 3 rfl; have hgs : gv + 1 ≤ (w5.alloc (.cells #[.int .i64 v.k, .string (tb v.t), .slice K3.A K3.n K3.c, .slice S3.A S3.n S3.c] 25)).heap.size := h6.bx.lt; have HSrc := Lib.hid (src_one w5 25 [.int .i64 v.k, .string (tb v.t), .slice K3.A K3.n K3.c, .slice S3.A S3.n S3.c] 1 4 rfl); have HOn : Hid (∀ u ∈ [Value.int .i64 v.k, .string (tb v.t), .slice K3.A K3.n K3.c, .slice S3.A S3.n S3.c], u.oneCell' = true) := Lib.hid (by intro u hu; simp only [List.mem_cons, List.not_mem_nil, or_false] at hu; rcases hu with rfl | rfl | rfl | rfl <;> rfl))
        | (refine step_app _ (by rfl) _ _ 23 (by rfl) (gv + 1) 25 iV _ 4 72 (by decide) Tryz.underlying23 hi hz0 hz1 hz2 rfl (.slice SA Sn Sc) Sn cs (by rfl) h6.vrow (some ⟨w5.heap.size, 0, none⟩) 1 1 [.int .i64 v.k, .string (tb v.t), .slice K3.A K3.n K3.c, .slice S3.A S3.n S3.c] (by rfl) HSrc.out HOn.out ?_ ?_ hgs (Sn + 1) rfl ?_; (unfold maxLen; omega); omega; intro A' c' w7 q1 q2 q3; obtain ⟨h8, hd8, k8, f8⟩ := h6.kid hd6 hap6 q1 q2 q3)
        | fail)
      all_goals
        have HL8 := Lib.hid h8
        have HD8 := Lib.hid hd8
        have HRes := Lib.hid hres
        clear h8 hd8 hres q1 q2 q3 h5 h6 hap hap6 hbA k5 k6 hb5 hd5 hd6 hjv HLd HDd HLr HDr k1 k8 f8 HSrc HOn hgs
        generalize w7.setCell ⟨gv, 3, none⟩ (.slice A' (Sn + 1) c') = W8 at *
        by_cases he : e2 = 0
        · subst he
          have hIo : I = .ok (v, m2, l2) := by
            have h1 := HRes.out
            unfold ResD at h1
            split at h1
            · exact absurd rfl h1.2.2
            · obtain ⟨rfl, rfl, rfl, _⟩ := h1
              rfl
          have hSt := HSt.out
          rw [hIo] at hSt
          simp only at hSt
          obtain ⟨hln1, hln2, hln3⟩ := HLn.out v m2 l2 hIo
          have hisl := is_le 44 l2
          have HC8 := Lib.hid (HC.out W8 l2 m2 HD8.out)
          clear hIo HRes HSt HLn HC
          obtain ⟨⟨b4, l4⟩, hi4⟩ : ∃ q, isD 44 l2 = q := ⟨_, rfl⟩
          rw [hi4] at hSt HC8 hisl
          simp only at hSt HC8 hisl
          have HM2 := Lib.hid hln3
          cases b4 with
          | true =>
            rw [if_pos rfl] at hSt
            have HQ := Lib.hid hSt
            clear hSt hi4
            go_wp2_with fail
            refine HC8.out.mono ?_
            rintro E w9 ⟨rfl, hb9, hd9⟩
            have HL9 := Lib.hid (HL8.out.call hb9 HD8.out.bx)
            have HD9 := Lib.hid hd9
            clear hb9 hd9 HL8 HD8 HC8
            go_wp2_with fail
            go_roundg (gk - 1)
            case measure => omega
            case rel => exact ⟨l4, m2, ⟨A', Sn + 1, c'⟩, vs ++ [v], _, by omega, by omega, hln3, by rw [List.length_append]; simp only [List.length_cons, List.length_nil]; omega, HL9, HD9, HQ⟩
          | false =>
            rw [if_neg (by decide)] at hSt
            have HQ := Lib.hid hSt
            clear hSt hi4
            go_wp2_with fail
            refine HC8.out.mono ?_
            rintro E w9 ⟨rfl, hb9, hd9⟩
            have HL9 := Lib.hid (HL8.out.call hb9 HD8.out.bx)
            have HN9 := Lib.hid (HN.out w9 l4 m2 hd9)
            have HD9 := Lib.hid hd9
            clear hb9 hd9 HL8 HD8 HC8
            go_wp2_with fail
            refine HN9.out.mono ?_
            rintro E w10 ⟨rfl, hb10, hd10⟩
            have HL10 := Lib.hid (HL9.out.call hb10 HD9.out.bx)
            have hRd : ResD R0 (.mk 6 [] [] (vs ++ [v])) m2 (needD 93 l4).1 (needD 93 l4).2 := by
              rw [HQ.out]
              unfold needD
              cases hq : (isD 93 l4).1 with
              | true => exact ⟨rfl, rfl, rfl, rfl⟩
              | false => exact ⟨rfl, rfl, by simp⟩
            have HRd := Lib.hid hRd
            have HD10 := Lib.hid hd10
            clear hb10 hd10 HL9 HD9 HN9 hRd HQ
            obtain ⟨c0, c1, c2, c3⟩ := box4 HL10.out.bx
            obtain ⟨d0, d1, d2, d3⟩ := box4 HL10.out.res
            have f0 := HL10.out.res.f 0
            have f1 := HL10.out.res.f 1
            have f2 := HL10.out.res.f 2
            have f3 := HL10.out.res.f 3
            obtain ⟨hj, hb, hr, hbx⟩ := HL10.out.ends HD10.out (.int .i64 6) (.string ⟨#[]⟩) (.slice none 0 0) (.slice A' (Sn + 1) c')
            have HJe := Lib.hid hj
            have HBe := Lib.hid hb
            have HDe := Lib.hid hr
            obtain ⟨q0, q1, q2, q3⟩ := box4 hbx
            clear hj hb hr hbx HL10 HD10
            go_wp2
            refine bodyPost_ret (v := .agg #[.int .i64 6, .string ⟨#[]⟩, .slice none 0 0, .slice A' (Sn + 1) c']) (by simp [results, Tryz.results53, go_sem, q0, q1, q2, q3]) rfl ?_
            exact ⟨.mk 6 [] [] (vs ++ [v]), ⟨none, 0, 0⟩, ⟨A', (Sn + 1), c'⟩, m2, _, _, HRd.out, by have := HM2.out; omega, HJe.out, rfl, HBe.out, HDe.out⟩
        · have hIe : I = .error (e2, l2) := by
            have h1 := HRes.out
            unfold ResD at h1
            split at h1
            · obtain ⟨rfl, rfl, _⟩ := h1
              rfl
            · exact absurd h1.2.2.2 he
          have hSt := HSt.out
          rw [hIe] at hSt
          have hRd : ResD R0 (.mk 6 [] [] (vs ++ [v])) m2 l2 e2 := by rw [hSt]; exact ⟨rfl, rfl, he⟩
          have HRd := Lib.hid hRd
          have HC8 := Lib.hid (HCe.out W8 l2 m2 e2 he HD8.out)
          have HE := Lib.hid he
          clear hIe hSt HRes HSt HLn HC hRd he
          go_wp2_with fail
          refine HC8.out.mono ?_
          rintro E w9 ⟨rfl, hb9, hd9⟩
          have HL9 := Lib.hid (HL8.out.call hb9 HD8.out.bx)
          have HN9 := Lib.hid (HNe.out w9 l2 m2 e2 HE.out hd9)
          have HD9 := Lib.hid hd9
          clear hb9 hd9 HL8 HD8 HC8
          go_wp2_with fail
          refine HN9.out.mono ?_
          rintro E w10 ⟨rfl, hb10, hd10⟩
          have HL10 := Lib.hid (HL9.out.call hb10 HD9.out.bx)
          have HD10 := Lib.hid hd10
          clear hb10 hd10 HL9 HD9 HN9
          obtain ⟨c0, c1, c2, c3⟩ := box4 HL10.out.bx
          obtain ⟨d0, d1, d2, d3⟩ := box4 HL10.out.res
          have f0 := HL10.out.res.f 0
          have f1 := HL10.out.res.f 1
          have f2 := HL10.out.res.f 2
          have f3 := HL10.out.res.f 3
          obtain ⟨hj, hb, hr, hbx⟩ := HL10.out.ends HD10.out (.int .i64 6) (.string ⟨#[]⟩) (.slice none 0 0) (.slice A' (Sn + 1) c')
          have HJe := Lib.hid hj
          have HBe := Lib.hid hb
          have HDe := Lib.hid hr
          obtain ⟨q0, q1, q2, q3⟩ := box4 hbx
          clear hj hb hr hbx HL10 HD10
          go_wp2
          refine bodyPost_ret (v := .agg #[.int .i64 6, .string ⟨#[]⟩, .slice none 0 0, .slice A' (Sn + 1) c']) (by simp [results, Tryz.results53, go_sem, q0, q1, q2, q3]) rfl ?_
          exact ⟨.mk 6 [] [] (vs ++ [v]), ⟨none, 0, 0⟩, ⟨A', (Sn + 1), c'⟩, m2, _, _, HRd.out, hm2, HJe.out, rfl, HBe.out, HDe.out⟩
end Go.Proofs.YtnkhghjcfhpeiaaGreatDoor
