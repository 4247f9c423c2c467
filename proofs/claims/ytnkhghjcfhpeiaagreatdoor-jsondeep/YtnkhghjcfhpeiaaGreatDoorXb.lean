/-
  The document's own reader: skip behind an error, is, need.
-/
import Derived.Test.YtnkhghjcfhpeiaaGreatDoorXa
namespace Go.Proofs.YtnkhghjcfhpeiaaGreatDoor
open Go.RowKit
set_option maxRecDepth 100000 in
set_option maxHeartbeats 2000000 in
theorem sskip_er (g : Nat) (s l : Bs) (m : Nat) (e : Int) (he : e ≠ 0) (w : World) (h : DS w g s l m e) : Calls Tryz.prog 32 #[.pointer (some ⟨g, 0, none⟩)] w (DEnds g s w (.tuple #[]) l m e) := by
  have hee : (e == 0) = false := beq_eq_false_iff_ne.2 he
  have H := Lib.hid h
  clear h he
  go_enter Tryz.func32, Tryz.ntmps32
  go_wp2_with fail
  go_loopg [2] 1 (fun _ _ wr => wr = w)
  case atStart => exact rfl
  case round =>
    obtain rfl := hrel
    obtain ⟨c0, c1, c2, c3⟩ := H.out.cells
    go_wp2_with fail
    simp only [List.append]
    go_quiet (fail)
    rename_i nq
    have hbq := below_drewN (Below.refl wr.heap.size wr) nq
    have HD3 := Lib.hid (H.out.up hbq)
    have HB3 := Lib.hid (But.of (g := g) hbq)
    clear H c0 c1 c2 c3 hbq
    go_wp2
    exact ⟨rfl, .tuple #[], end_unit rfl, rfl, HB3.out, HD3.out⟩
/-- what is tells, and what is left -/
def isD (c : UInt8) (l : Bs) : Bool × Bs := match skipB l with | [] => (false, []) | x :: r => if x = c then (true, r) else (false, x :: r)
set_option maxRecDepth 100000 in
set_option maxHeartbeats 4000000 in
theorem sis_ok (g : Nat) (s l : Bs) (m : Nat) (c : UInt8) (w : World) (hs : s.length ≤ 1000000) (h : DS w g s l m 0) : Calls Tryz.prog 78 #[.pointer (some ⟨g, 0, none⟩), .int .u8 (c.toNat : Int)] w (DEnds g s w (.bool (isD c l).1) (isD c l).2 m 0) := by
  have zs : (tb s).size = s.length := tb_size s
  have HS := Lib.hid (sskip_ok g s l m w hs h)
  clear h
  cases hsk : skipB l with
  | nil =>
    have hi : isD c l = (false, []) := by unfold isD; rw [hsk]
    rw [hi]
    rw [hsk] at HS
    clear hsk hi
    go_enter Tryz.func78, Tryz.ntmps78
    go_wp2_with fail
    refine HS.out.mono ?_
    rintro E w1 ⟨rfl, hb1, hd1⟩
    obtain ⟨c0, c1, c2, c3⟩ := hd1.cells
    rw [List.length_nil, Nat.sub_zero] at c1
    have hpp : ¬ (s.length : Int) < (s.length : Int) := by omega
    have HD1 := Lib.hid hd1
    have HB1 := Lib.hid hb1
    clear hd1 hb1 HS
    go_wp2_with fail
    go_quiet (fail)
    rename_i nq
    have hbq := below_drewN (Below.refl w1.heap.size w1) nq
    have HD3 := Lib.hid (HD1.out.up hbq)
    have HB3 := Lib.hid (HB1.out.on (But.of hbq))
    clear HD1 HB1 c0 c1 c2 c3 hbq
    go_wp2
    go_ret
    exact ⟨rfl, HB3.out, HD3.out⟩
  | cons x r =>
    rw [hsk] at HS
    obtain ⟨I, hI⟩ : ∃ I, isD c l = I := ⟨_, rfl⟩
    have hi : I = if x = c then (true, r) else (false, x :: r) := by rw [← hI]; unfold isD; rw [hsk]
    rw [hI]
    have Hi := Lib.hid hi
    clear hsk hI hi
    go_enter Tryz.func78, Tryz.ntmps78
    go_wp2_with fail
    refine HS.out.mono ?_
    rintro E w1 ⟨rfl, hb1, hd1⟩
    obtain ⟨c0, c1, c2, c3⟩ := hd1.cells
    have hsf := hd1.suf
    obtain ⟨p, hp⟩ : ∃ p, s.length - (x :: r).length = p := ⟨_, rfl⟩
    rw [hp] at c1 hsf
    have HPq := Lib.hid hp
    obtain ⟨hd2, hps, hat⟩ := drop_cons hsf
    have hpi : (p : Int) < (s.length : Int) := by omega
    have hp0 : (0 : Int) ≤ (p : Int) := by omega
    have hix := fun W => jidx hat W
    obtain ⟨p1, hp1⟩ : ∃ p1, p + 1 = p1 := ⟨_, rfl⟩
    have hwp : IntKind.i64.wrap ((p : Int) + 1) = (p1 : Int) := by rw [IntWalk.i64_in _ (by omega)]; omega
    rw [hp1] at hd2
    have HSet := Lib.hid (fun W (h : DS W g s (x :: r) m 0) => h.setp hd2 (by omega))
    have HD1 := Lib.hid hd1
    have HB1 := Lib.hid hb1
    have hxc : ((x.toNat : Int) == (c.toNat : Int)) = decide (x = c) := by
      rw [Bool.eq_iff_iff]
      simp only [beq_iff_eq, decide_eq_true_eq]
      exact ⟨fun h => UInt8.toNat_inj.1 (by omega), fun h => by rw [h]⟩
    clear hd1 hb1 HS hp hsf hps hat hp1 hd2
    generalize (x.toNat : Int) = z at *
    generalize (c.toNat : Int) = y at *
    by_cases hc : x = c
    · have hq : I = (true, r) := by rw [Hi.out, if_pos hc]
      subst hq
      rw [decide_eq_true hc] at hxc
      clear hc Hi
      go_wp2_with fail
      go_quiet (fail)
      rename_i nq
      have hbq := below_drewN (Below.refl w1.heap.size w1) nq
      have HD3 := Lib.hid (HD1.out.up hbq)
      have HB3 := Lib.hid (HB1.out.on (But.of hbq))
      clear HD1 HB1 c0 c1 c2 c3 hbq
      generalize w1.drewN nq = W2 at *
      have HD2 := Lib.hid (HSet.out W2 HD3.out)
      have HB2 := Lib.hid (HB3.out.on (but_cell W2 g 1 (.int .i64 (p1 : Int))))
      have f1 := HD3.out.bx.f 1
      obtain ⟨c0, c1, c2, c3⟩ := HD3.out.cells
      rw [HPq.out] at c1
      go_wp2
      go_ret
      exact ⟨rfl, HB2.out, HD2.out⟩
    · have hq : I = (false, x :: r) := by rw [Hi.out, if_neg hc]
      subst hq
      rw [decide_eq_false hc] at hxc
      clear hc Hi
      go_wp2_with fail
      go_quiet (fail)
      rename_i nq
      have hbq := below_drewN (Below.refl w1.heap.size w1) nq
      have HD3 := Lib.hid (HD1.out.up hbq)
      have HB3 := Lib.hid (HB1.out.on (But.of hbq))
      clear HD1 HB1 c0 c1 c2 c3 hbq
      go_wp2
      go_ret
      exact ⟨rfl, HB3.out, HD3.out⟩
set_option maxRecDepth 100000 in
set_option maxHeartbeats 4000000 in
theorem sis_er (g : Nat) (s l : Bs) (m : Nat) (e : Int) (he : e ≠ 0) (c : UInt8) (w : World) (h : DS w g s l m e) : Calls Tryz.prog 78 #[.pointer (some ⟨g, 0, none⟩), .int .u8 (c.toNat : Int)] w (DEnds g s w (.bool false) l m e) := by
  have hee : (e == 0) = false := beq_eq_false_iff_ne.2 he
  have HS := Lib.hid (sskip_er g s l m e he w h)
  clear h he
  go_enter Tryz.func78, Tryz.ntmps78
  go_wp2_with fail
  refine HS.out.mono ?_
  rintro E w1 ⟨rfl, hb1, hd1⟩
  obtain ⟨c0, c1, c2, c3⟩ := hd1.cells
  have HD1 := Lib.hid hd1
  have HB1 := Lib.hid hb1
  clear hd1 hb1 HS
  go_wp2_with fail
  go_quiet (fail)
  rename_i nq
  have hbq := below_drewN (Below.refl w1.heap.size w1) nq
  have HD3 := Lib.hid (HD1.out.up hbq)
  have HB3 := Lib.hid (HB1.out.on (But.of hbq))
  clear HD1 HB1 c0 c1 c2 c3 hbq
  go_wp2
  go_ret
  exact ⟨rfl, HB3.out, HD3.out⟩
/-- what is left behind a need, and the error -/
def needD (c : UInt8) (l : Bs) : Bs × Int := if (isD c l).1 = true then ((isD c l).2, 0) else ((isD c l).2, 31)
set_option maxRecDepth 100000 in
set_option maxHeartbeats 2000000 in
theorem sneed_ok (g : Nat) (s l : Bs) (m : Nat) (c : UInt8) (w : World) (hs : s.length ≤ 1000000) (h : DS w g s l m 0) : Calls Tryz.prog 77 #[.pointer (some ⟨g, 0, none⟩), .int .u8 (c.toNat : Int)] w (DEnds g s w (.tuple #[]) (needD c l).1 m (needD c l).2) := by
  have HI := Lib.hid (sis_ok g s l m c w hs h)
  unfold needD
  obtain ⟨⟨b, l1⟩, hI⟩ : ∃ I, isD c l = I := ⟨_, rfl⟩
  rw [hI] at HI ⊢
  clear h hI
  generalize (c.toNat : Int) = y at *
  cases b with
  | true =>
    simp only [if_true]
    go_enter Tryz.func77, Tryz.ntmps77
    go_wp2_with fail
    refine HI.out.mono ?_
    rintro E w1 ⟨rfl, hb1, hd1⟩
    have HD1 := Lib.hid hd1
    have HB1 := Lib.hid hb1
    clear hd1 hb1 HI
    go_wp2
    exact ⟨rfl, .tuple #[], end_unit rfl, rfl, HB1.out, HD1.out⟩
  | false =>
    simp only [Bool.false_eq_true, if_false]
    go_enter Tryz.func77, Tryz.ntmps77
    go_wp2_with fail
    refine HI.out.mono ?_
    rintro E w1 ⟨rfl, hb1, hd1⟩
    have HF := Lib.hid (sfail_any g s l1 m 0 31 w1 hd1)
    have HB1 := Lib.hid hb1
    clear hd1 hb1 HI
    go_wp2_with fail
    refine HF.out.mono ?_
    rintro E w2 ⟨rfl, hb2, hd2⟩
    have HD2 := Lib.hid hd2
    have HB2 := Lib.hid (HB1.out.on hb2)
    clear hd2 hb2 HF
    go_wp2
    exact ⟨rfl, .tuple #[], end_unit rfl, rfl, HB2.out, HD2.out⟩
set_option maxRecDepth 100000 in
set_option maxHeartbeats 2000000 in
theorem sneed_er (g : Nat) (s l : Bs) (m : Nat) (e : Int) (he : e ≠ 0) (c : UInt8) (w : World) (h : DS w g s l m e) : Calls Tryz.prog 77 #[.pointer (some ⟨g, 0, none⟩), .int .u8 (c.toNat : Int)] w (DEnds g s w (.tuple #[]) l m e) := by
  have HI := Lib.hid (sis_er g s l m e he c w h)
  have HF0 := Lib.hid (fun W (h : DS W g s l m e) => sfail_any g s l m e 31 W h)
  rw [if_neg he] at HF0
  clear h he
  generalize (c.toNat : Int) = y at *
  go_enter Tryz.func77, Tryz.ntmps77
  go_wp2_with fail
  refine HI.out.mono ?_
  rintro E w1 ⟨rfl, hb1, hd1⟩
  have HF := Lib.hid (HF0.out w1 hd1)
  have HB1 := Lib.hid hb1
  clear hd1 hb1 HI HF0
  go_wp2_with fail
  refine HF.out.mono ?_
  rintro E w2 ⟨rfl, hb2, hd2⟩
  have HD2 := Lib.hid hd2
  have HB2 := Lib.hid (HB1.out.on hb2)
  clear hd2 hb2 HF
  go_wp2
  exact ⟨rfl, .tuple #[], end_unit rfl, rfl, HB2.out, HD2.out⟩
end Go.Proofs.YtnkhghjcfhpeiaaGreatDoor
