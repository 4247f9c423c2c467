/-
  The walks of the document's own SameReader and SameMessages where both are the same.
-/
import Derived.Test.YtdlihfbaepjliaaGreatDoorJMc
import Derived.Test.YtdlihfbaepjliaaGreatDoorJHdU
namespace Go.Proofs.YtdlihfbaepjliaaGreatDoor
open Go.RowKit
theorem heads_c (H : Hd) (S T : Sli) (w : World) (hS : Fs w S (mkF H.fs)) (hT : Fs w T (mkF H.fs)) : Calls Tryz.prog 25 #[.agg #[.string (tb H.m), .string (tb H.t), .int .i64 H.st, .string (tb H.r), .int .i64 H.mi, .slice S.A S.n S.c], .agg #[.string (tb H.m), .string (tb H.t), .int .i64 H.st, .string (tb H.r), .int .i64 H.mi, .slice T.A T.n T.c]] w (BoolEnds true w) :=
  heads_same (tb H.m) (tb H.t) H.st (tb H.r) H.mi S T (mkF H.fs) w hS hT
set_option maxRecDepth 100000 in
set_option maxHeartbeats 4000000 in
theorem rsameR_same (a : Bool) (q : ByteArray) (hd : ByteArray) (k : Int) (z : Int) (b : ByteArray) (cs : Int) (cl : Int) (cn : ByteArray) (cm : Int) (m : ByteArray) (t : ByteArray) (st : Int) (r : ByteArray) (mi : Int) (A : Option Addr) (n : Nat) (c : Nat) (e : Int) (A2 : Option Addr) (n2 c2 : Nat) (fs : List Fd) (w : World) (h1 : Fs w ⟨A, n, c⟩ fs) (h2 : Fs w ⟨A2, n2, c2⟩ fs) : Calls Tryz.prog 21 #[.agg #[.bool a, .string q, .string hd, .int .i64 k, .int .i64 z, .string b, .int .i64 cs, .int .i64 cl, .string cn, .int .i64 cm, .string m, .string t, .int .i64 st, .string r, .int .i64 mi, .slice A n c, .int .i64 e], .agg #[.bool a, .string q, .string hd, .int .i64 k, .int .i64 z, .string b, .int .i64 cs, .int .i64 cl, .string cn, .int .i64 cm, .string m, .string t, .int .i64 st, .string r, .int .i64 mi, .slice A2 n2 c2, .int .i64 e]] w (BoolEnds true w) := by
  have hb := ba2 w (.cells #[.bool a, .string q, .string hd, .int .i64 k, .int .i64 z, .string b, .int .i64 cs, .int .i64 cl, .string cn, .int .i64 cm, .string m, .string t, .int .i64 st, .string r, .int .i64 mi, .slice A n c, .int .i64 e] 32) (.cells #[.bool a, .string q, .string hd, .int .i64 k, .int .i64 z, .string b, .int .i64 cs, .int .i64 cl, .string cn, .int .i64 cm, .string m, .string t, .int .i64 st, .string r, .int .i64 mi, .slice A2 n2 c2, .int .i64 e] 32)
  have HC := Lib.hid (heads_same m t st r mi ⟨A, n, c⟩ ⟨A2, n2, c2⟩ fs _ (h1.up hb) (h2.up hb))
  simp only at HC
  clear h1 h2
  go_enter Tryz.func21, Tryz.ntmps21
  go_wp2_with fail
  refine HC.out.mono ?_
  rintro E w1 ⟨rfl, hb1⟩
  go_wp2
  go_ret
  exact ⟨rfl, bon hb hb1⟩
theorem rsameR_c (R : Rr) (S T : Sli) (w : World) (h1 : Fs w S (mkF R.now.fs)) (h2 : Fs w T (mkF R.now.fs)) : Calls Tryz.prog 21 #[.agg (rcs R S), .agg (rcs R T)] w (BoolEnds true w) :=
  rsameR_same R.a (tb R.q) (tb R.hd) R.k R.z (tb R.b) R.ck.s R.ck.l (tb R.ck.ln) R.ck.m (tb R.now.m) (tb R.now.t) R.now.st (tb R.now.r) R.now.mi S.A S.n S.c R.e T.A T.n T.c (mkF R.now.fs) w h1 h2
theorem held14 {W0 W W' : World} {p0 : Addr} {v0 : Value} {p1 : Addr} {v1 : Value} {p2 : Addr} {v2 : Value} {p3 : Addr} {v3 : Value} {p4 : Addr} {v4 : Value} {p5 : Addr} {v5 : Value} {p6 : Addr} {v6 : Value} {p7 : Addr} {v7 : Value} {p8 : Addr} {v8 : Value} {p9 : Addr} {v9 : Value} {p10 : Addr} {v10 : Value} {p11 : Addr} {v11 : Value} {p12 : Addr} {v12 : Value} {p13 : Addr} {v13 : Value} (hb : Below W.heap.size W W') (h : Below W0.heap.size W0 W ∧ W.cell? p0 = some v0 ∧ W.cell? p1 = some v1 ∧ W.cell? p2 = some v2 ∧ W.cell? p3 = some v3 ∧ W.cell? p4 = some v4 ∧ W.cell? p5 = some v5 ∧ W.cell? p6 = some v6 ∧ W.cell? p7 = some v7 ∧ W.cell? p8 = some v8 ∧ W.cell? p9 = some v9 ∧ W.cell? p10 = some v10 ∧ W.cell? p11 = some v11 ∧ W.cell? p12 = some v12 ∧ W.cell? p13 = some v13) : Below W0.heap.size W0 W' ∧ W'.cell? p0 = some v0 ∧ W'.cell? p1 = some v1 ∧ W'.cell? p2 = some v2 ∧ W'.cell? p3 = some v3 ∧ W'.cell? p4 = some v4 ∧ W'.cell? p5 = some v5 ∧ W'.cell? p6 = some v6 ∧ W'.cell? p7 = some v7 ∧ W'.cell? p8 = some v8 ∧ W'.cell? p9 = some v9 ∧ W'.cell? p10 = some v10 ∧ W'.cell? p11 = some v11 ∧ W'.cell? p12 = some v12 ∧ W'.cell? p13 = some v13 := by
  obtain ⟨hh0, hh1, hh2, hh3, hh4, hh5, hh6, hh7, hh8, hh9, hh10, hh11, hh12, hh13, hh14⟩ := h
  exact ⟨bon hh0 hb, cell_up hb hh1, cell_up hb hh2, cell_up hb hh3, cell_up hb hh4, cell_up hb hh5, cell_up hb hh6, cell_up hb hh7, cell_up hb hh8, cell_up hb hh9, cell_up hb hh10, cell_up hb hh11, cell_up hb hh12, cell_up hb hh13, cell_up hb hh14⟩
set_option maxRecDepth 100000 in
set_option maxHeartbeats 4000000 in
theorem rsameM_c (A C : Sli) (ms ns : List MS7) (w : World) (hA : Ms w A ms) (hC : Ms w C ns) (he : ms.map (·.1) = ns.map (·.1)) : Calls Tryz.prog 22 #[.slice A.A A.n A.c, .slice C.A C.n C.c] w (BoolEnds true w) := by
  have hn : A.n = C.n := by
    have := congrArg List.length he
    rw [List.length_map, List.length_map, hA.len, hC.len] at this
    exact this
  obtain ⟨AA, n, Ac⟩ := A
  obtain ⟨CA, n2, Cc⟩ := C
  simp only at hn
  subst hn
  have hle := hA.le
  simp only at hle
  have HA := Lib.hid hA
  have HC := Lib.hid hC
  have HE := Lib.hid he
  unfold maxLen at hle
  clear hA hC he
  go_enter Tryz.func22, Tryz.ntmps22
  go_wp2_with fail
  go_loopw [5] (fun i wr => ∃ k : Nat, k ≤ n ∧ i = .int .i64 (k : Int) ∧ Hid (Below w.heap.size w wr)) (fun i _ => n - (intOf i).toNat)
  case atStart => exact ⟨0, Nat.zero_le _, rfl, Lib.hid (Below.refl _ _)⟩
  case round =>
    obtain ⟨k, hk, rfl, HB⟩ := hrel
    by_cases hlt : k < n
    · obtain ⟨b1, o1, x, hA1, hx, hxm, hbl1, ha⟩ := (HA.out.up HB.out).cell (k := k) hlt
      obtain ⟨b2, o2, y, hA2, hy, hym, hbl2, hc⟩ := (HC.out.up HB.out).cell (k := k) hlt
      have hxy : x.1 = y.1 := by
        have h1 : (ms.map (·.1))[k]? = some x.1 := by rw [List.getElem?_map, hx]; rfl
        have h2 : (ns.map (·.1))[k]? = some y.1 := by rw [List.getElem?_map, hy]; rfl
        rw [HE.out, h2] at h1
        exact (Option.some.inj h1).symm
      obtain ⟨M, S1⟩ := x
      obtain ⟨M2, S2⟩ := y
      simp only at hxy
      subst hxy
      simp only at hA1 hA2
      subst hA1
      subst hA2
      have HF1 := Lib.hid ((HA.out.up HB.out).fs _ hxm)
      have HF2 := Lib.hid ((HC.out.up HB.out).fs _ hym)
      simp only at HF1 HF2
      have a0 : wr.cell? ⟨b1, o1 + k * 7 + 0, none⟩ = some (.string (tb M.h.m)) := by rw [Nat.add_assoc]; exact ha 0 _ rfl
      have a1 : wr.cell? ⟨b1, o1 + k * 7 + 1, none⟩ = some (.string (tb M.h.t)) := by rw [Nat.add_assoc]; exact ha 1 _ rfl
      have a2 : wr.cell? ⟨b1, o1 + k * 7 + 2, none⟩ = some (.int .i64 M.h.st) := by rw [Nat.add_assoc]; exact ha 2 _ rfl
      have a3 : wr.cell? ⟨b1, o1 + k * 7 + 3, none⟩ = some (.string (tb M.h.r)) := by rw [Nat.add_assoc]; exact ha 3 _ rfl
      have a4 : wr.cell? ⟨b1, o1 + k * 7 + 4, none⟩ = some (.int .i64 M.h.mi) := by rw [Nat.add_assoc]; exact ha 4 _ rfl
      have a5 : wr.cell? ⟨b1, o1 + k * 7 + 5, none⟩ = some (.slice S1.A S1.n S1.c) := by rw [Nat.add_assoc]; exact ha 5 _ rfl
      have a6 : wr.cell? ⟨b1, o1 + k * 7 + 6, none⟩ = some (.string (tb M.b)) := by rw [Nat.add_assoc]; exact ha 6 _ rfl
      have az : wr.cell? ⟨b1, o1 + k * 7, none⟩ = some (.string (tb M.h.m)) := a0
      have c0 : wr.cell? ⟨b2, o2 + k * 7 + 0, none⟩ = some (.string (tb M.h.m)) := by rw [Nat.add_assoc]; exact hc 0 _ rfl
      have c1 : wr.cell? ⟨b2, o2 + k * 7 + 1, none⟩ = some (.string (tb M.h.t)) := by rw [Nat.add_assoc]; exact hc 1 _ rfl
      have c2 : wr.cell? ⟨b2, o2 + k * 7 + 2, none⟩ = some (.int .i64 M.h.st) := by rw [Nat.add_assoc]; exact hc 2 _ rfl
      have c3 : wr.cell? ⟨b2, o2 + k * 7 + 3, none⟩ = some (.string (tb M.h.r)) := by rw [Nat.add_assoc]; exact hc 3 _ rfl
      have c4 : wr.cell? ⟨b2, o2 + k * 7 + 4, none⟩ = some (.int .i64 M.h.mi) := by rw [Nat.add_assoc]; exact hc 4 _ rfl
      have c5 : wr.cell? ⟨b2, o2 + k * 7 + 5, none⟩ = some (.slice S2.A S2.n S2.c) := by rw [Nat.add_assoc]; exact hc 5 _ rfl
      have c6 : wr.cell? ⟨b2, o2 + k * 7 + 6, none⟩ = some (.string (tb M.b)) := by rw [Nat.add_assoc]; exact hc 6 _ rfl
      have cz : wr.cell? ⟨b2, o2 + k * 7, none⟩ = some (.string (tb M.h.m)) := c0
      have HHd := Lib.hid (fun (W : World) (hW : Below wr.heap.size wr W) => heads_c M.h S1 S2 W (HF1.out.up hW) (HF2.out.up hW))
      have hki : (k : Int) < (n : Int) := by omega
      have hk0 : (0 : Int) ≤ (k : Int) := by omega
      clear ha hc hx hy hxm hym HF1 HF2
      go_upto_region 6 with fail
      go_region_held3 (fun W' => Below wr.heap.size wr W' ∧ W'.cell? ⟨b1, o1 + k * 7, none⟩ = some (.string (tb M.h.m)) ∧ W'.cell? ⟨b1, o1 + k * 7 + 1, none⟩ = some (.string (tb M.h.t)) ∧ W'.cell? ⟨b1, o1 + k * 7 + 2, none⟩ = some (.int .i64 M.h.st) ∧ W'.cell? ⟨b1, o1 + k * 7 + 3, none⟩ = some (.string (tb M.h.r)) ∧ W'.cell? ⟨b1, o1 + k * 7 + 4, none⟩ = some (.int .i64 M.h.mi) ∧ W'.cell? ⟨b1, o1 + k * 7 + 5, none⟩ = some (.slice S1.A S1.n S1.c) ∧ W'.cell? ⟨b1, o1 + k * 7 + 6, none⟩ = some (.string (tb M.b)) ∧ W'.cell? ⟨b2, o2 + k * 7, none⟩ = some (.string (tb M.h.m)) ∧ W'.cell? ⟨b2, o2 + k * 7 + 1, none⟩ = some (.string (tb M.h.t)) ∧ W'.cell? ⟨b2, o2 + k * 7 + 2, none⟩ = some (.int .i64 M.h.st) ∧ W'.cell? ⟨b2, o2 + k * 7 + 3, none⟩ = some (.string (tb M.h.r)) ∧ W'.cell? ⟨b2, o2 + k * 7 + 4, none⟩ = some (.int .i64 M.h.mi) ∧ W'.cell? ⟨b2, o2 + k * 7 + 5, none⟩ = some (.slice S2.A S2.n S2.c) ∧ W'.cell? ⟨b2, o2 + k * 7 + 6, none⟩ = some (.string (tb M.b)))
        (first | exact ⟨(Below.refl _ _).drew, az, a1, a2, a3, a4, a5, a6, cz, c1, c2, c3, c4, c5, c6⟩ | exact held14 hbP (by assumption) | fail)
        (first
          | (go_at_call 25; refine (HHd.out _ ((Below.refl wr.heap.size wr).drew)).mono ?_; rintro E wP ⟨rfl, hbP⟩)
          | fail)
      rename_i hHeld
      have hd := bon HB.out hHeld.1
      clear hHeld
      go_wp2_with fail
      go_roundw
      case rel => exact ⟨k + 1, by omega, by go_num, Lib.hid hd⟩
      case measure => simp [intOf]; omega
    · have : k = n := by omega
      subst this
      go_wp2
      go_ret
      exact ⟨rfl, HB.out⟩
end Go.Proofs.YtdlihfbaepjliaaGreatDoor
