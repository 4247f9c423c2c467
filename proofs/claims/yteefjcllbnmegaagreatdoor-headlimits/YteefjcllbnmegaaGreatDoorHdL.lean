/-
  The walks of Print: the document's own, and head's.
-/
import Derived.Test.YteefjcllbnmegaaGreatDoorHdK
namespace Go.Proofs.YteefjcllbnmegaaGreatDoor
open Go.RowKit

/-- a text and an error are handed back -/
def PrintEnds (q : Bs × Int) (w : World) (e : Ending) (w' : World) : Prop := ∃ s : ByteArray, e = .returned (.tuple #[.string s, .int .i64 q.2]) ∧ dl s = q.1 ∧ Below w.heap.size w w'
theorem right_bounds {m t : ByteArray} {st : Int} {r : ByteArray} {mi : Int} {fs : List Fd} {a : Bool} (h : rightB (hdOf m t st r mi fs) a = true) : mi ≤ 1 ∧ st ≤ 599 := by
  obtain ⟨h1, _, _, h4⟩ := kind_parts h
  have h1' : mi = 0 ∨ mi = 1 := h1
  refine ⟨by omega, ?_⟩
  unfold kindB at h4
  cases a with
  | false =>
    rw [if_neg (by decide)] at h4
    simp only [Bool.and_eq_true, decide_eq_true_eq] at h4
    have : st = 0 := h4.1.2
    omega
  | true =>
    rw [if_pos rfl] at h4
    simp only [Bool.and_eq_true, statB, decide_eq_true_eq] at h4
    exact h4.1.1.1.2
theorem print_bad {h : Hd} {a : Bool} (hr : rightB h a = false) : printH h a = ([], 1) := by
  rw [printH, if_neg (by rw [hr]; simp)]
theorem print_long {h : Hd} {a : Bool} (hr : rightB h a = true) (hl : ¬ (textH h a).length ≤ 2004) : printH h a = ([], 2) := by
  rw [printH, if_pos hr, if_neg hl]
theorem print_ok {h : Hd} {a : Bool} (hr : rightB h a = true) (hl : (textH h a).length ≤ 2004) : printH h a = (textH h a, 0) := by
  rw [printH, if_pos hr, if_pos hl]
theorem text_len (h : Hd) (a : Bool) : 4 ≤ (textH h a).length := by
  rw [text_eq, List.length_append]
  simp

theorem verT_len {mi : Int} (h : mi ≤ 1) : (verT mi).length ≤ 607 := by
  unfold verT
  have := text_small (n := mi) (by omega) (x := ⟨(textN mi 10).toArray⟩) (dl_mk _)
  rw [← dl_len, dl_mk] at this
  simp only [List.length_append, List.length_cons, List.length_nil]
  omega
theorem line_max {m t : ByteArray} {st : Int} {r : ByteArray} {mi : Int} {fs : List Fd} {a : Bool} {s : ByteArray} (h : dl s = firstT (hdOf m t st r mi fs) a) (hm : m.size ≤ 4096) (ht : t.size ≤ 4096) (hr : r.size ≤ 4096) (hmi : mi ≤ 1) (hst : st ≤ 599) : s.size ≤ 10000 := by
  have h1 := verT_len hmi
  have h2 := text_small hst (x := ⟨(textN st 10).toArray⟩) (dl_mk _)
  rw [← dl_len, dl_mk] at h2
  rw [← dl_len, h, firstT]
  have e1 : (hdOf m t st r mi fs).m.length = m.size := dl_len m
  have e2 : (hdOf m t st r mi fs).t.length = t.size := dl_len t
  have e3 : (hdOf m t st r mi fs).r.length = r.size := dl_len r
  have e4 : (hdOf m t st r mi fs).mi = mi := rfl
  have e5 : (hdOf m t st r mi fs).st = st := rfl
  rw [e4, e5]
  split
  · simp only [List.length_append, List.length_cons, List.length_nil, e3]
    omega
  · simp only [List.length_append, List.length_cons, List.length_nil, e1, e2]
    omega
theorem fT_len (fs : List Fd) (h : Few fs) : (fT fs).length ≤ fs.length * 9000 := by
  induction fs with
  | nil => simp [fT, dls]
  | cons f r ih =>
    have h1 := h f (by simp)
    have h2 := ih (fun g hg => h g (by simp [hg]))
    have e : fT (f :: r) = fieldT (dl f.1, dl f.2) ++ fT r := by simp [fT, dls]
    rw [e, List.length_append]
    have e2 : (fieldT (dl f.1, dl f.2)).length = f.1.size + 2 + f.2.size + 2 := by
      simp only [fieldT, crlf, List.length_append, List.length_cons, List.length_nil]
      rw [dl_len, dl_len]
    simp only [List.length_cons]
    omega
theorem text_max {m t : ByteArray} {st : Int} {r : ByteArray} {mi : Int} {fs : List Fd} {a : Bool} {s : ByteArray} {n : Nat} (h : dl s = textH (hdOf m t st r mi fs) a) (hf : Few fs) (hl : fs.length = n) (hn : n ≤ 4096) (hm : m.size ≤ 4096) (ht : t.size ≤ 4096) (hr : r.size ≤ 4096) (hmi : mi ≤ 1) (hst : st ≤ 599) : s.size ≤ 4611686018427387904 := by
  have h1 := fT_len fs hf
  have h2 := line_max (s := ⟨(firstT (hdOf m t st r mi []) a).toArray⟩) (dl_mk _) hm ht hr hmi hst
  rw [← dl_len, dl_mk] at h2
  rw [← dl_len, h, text_parts]
  simp only [List.length_append, crlf, List.length_cons, List.length_nil]
  rw [hl] at h1
  omega

section
variable (m t : ByteArray) (st : Int) (r : ByteArray) (mi : Int) (A : Option Addr) (n c : Nat) (fs : List Fd) (a : Bool) (w : World) (hm : m.size ≤ 4096) (ht : t.size ≤ 4096) (hr : r.size ≤ 4096) (hL : Fs w ⟨A, n, c⟩ fs) (hn : n ≤ 4096) (hf : Few fs)
include hm ht hr hL hn hf

set_option maxRecDepth 100000 in
set_option maxHeartbeats 2000000 in
theorem rprint_any : Calls Tryz.prog 19 #[.agg #[.string m, .string t, .int .i64 st, .string r, .int .i64 mi, .slice A n c], .bool a] w (PrintEnds (printH (hdOf m t st r mi fs) a) w) := by
  have hb0 := ba1 w (.cells #[.string m, .string t, .int .i64 st, .string r, .int .i64 mi, .slice A n c] 30)
  have HC := Lib.hid (rright_any m t st r mi A n c fs a _ hm ht hr (hL.up hb0) hn hf)
  have HL := Lib.hid hL
  have HF := Lib.hid hf
  clear hL hf
  obtain ⟨b, hb⟩ : ∃ b, rightB (hdOf m t st r mi fs) a = b := ⟨_, rfl⟩
  rw [hb] at HC
  have HB := Lib.hid hb
  clear hb
  go_enter Tryz.func19, Tryz.ntmps19
  go_wp2_with fail
  refine HC.out.mono ?_
  rintro e w1 ⟨rfl, hb1⟩
  have bx := (Box.new w 30 #[.string m, .string t, .int .i64 st, .string r, .int .i64 mi, .slice A n c]).up hb1
  have hbw := bon hb0 hb1
  obtain ⟨c0, c1, c2, c3, c4, c5⟩ := bx.six
  obtain ⟨g, hg⟩ : ∃ g, w.heap.size = g := ⟨_, rfl⟩
  rw [hg] at c0 c1 c2 c3 c4 c5 ⊢
  clear hg bx hb0 hb1
  cases b with
  | false =>
    have HE := Lib.hid (print_bad HB.out)
    go_wp2
    refine bodyPost_ret (v := .tuple #[.string ⟨#[]⟩, .int .i64 1]) (by simp [results, Tryz.results19, go_sem]) rfl ?_
    exact ⟨_, by rw [HE.out], by rw [HE.out], hbw⟩
  | true =>
    obtain ⟨hmi, hst⟩ := right_bounds HB.out
    go_wp2_with fail
    refine (rtextH_any m t st r mi A n c fs a _ hm ht hr hmi hst (HL.out.up hbw) hn HF.out).mono ?_
    rintro e w2 ⟨s, rfl, hs, hb2⟩
    have h4 := text_len (hdOf m t st r mi fs) a
    rw [← hs, dl_len] at h4
    by_cases hl : s.size ≤ 2004
    · have HE := Lib.hid (print_ok HB.out (by rw [← hs, dl_len]; exact hl))
      have HS := Lib.hid hs
      clear hs
      have hli : ¬ (2000 : Int) < (s.size : Int) - 4 := by omega
      go_wp2
      refine bodyPost_ret (v := .tuple #[.string s, .int .i64 0]) (by simp [results, Tryz.results19, go_sem]) rfl ?_
      exact ⟨_, by rw [HE.out], by rw [HE.out]; exact HS.out, bon hbw hb2⟩
    · have HE := Lib.hid (print_long HB.out (by rw [← hs, dl_len]; exact hl))
      have hsz : s.size ≤ 4611686018427387904 := text_max hs HF.out HL.out.len hn hm ht hr hmi hst
      clear hs
      have hli : (2000 : Int) < (s.size : Int) - 4 := by omega
      go_wp2
      refine bodyPost_ret (v := .tuple #[.string ⟨#[]⟩, .int .i64 2]) (by simp [results, Tryz.results19, go_sem]) rfl ?_
      exact ⟨_, by rw [HE.out], by rw [HE.out], bon hbw hb2⟩

set_option maxRecDepth 100000 in
set_option maxHeartbeats 2000000 in
theorem print_any (hT : Tabs w) : Calls Tryz.prog 13 #[.agg #[.string m, .string t, .int .i64 st, .string r, .int .i64 mi, .slice A n c], .bool a] w (PrintEnds (printH (hdOf m t st r mi fs) a) w) := by
  have hb0 := ba1 w (.cells #[.string m, .string t, .int .i64 st, .string r, .int .i64 mi, .slice A n c] 30)
  have HC := Lib.hid (right_any m t st r mi A n c fs a _ hm ht hr (hL.up hb0) hn hf)
  have HL := Lib.hid hL
  have HF := Lib.hid hf
  have hlen : Hid (fs.length = n) := Lib.hid hL.len
  clear hL hf
  obtain ⟨b, hb⟩ : ∃ b, rightB (hdOf m t st r mi fs) a = b := ⟨_, rfl⟩
  rw [hb] at HC
  have HB := Lib.hid hb
  clear hb
  go_enter Tryz.func13, Tryz.ntmps13
  go_wp2_with fail
  refine HC.out.mono ?_
  rintro e w1 ⟨rfl, hb1⟩
  have bx := (Box.new w 30 #[.string m, .string t, .int .i64 st, .string r, .int .i64 mi, .slice A n c]).up hb1
  have hbw := bon hb0 hb1
  obtain ⟨c0, c1, c2, c3, c4, c5⟩ := bx.six
  obtain ⟨g, hg⟩ : ∃ g, w.heap.size = g := ⟨_, rfl⟩
  rw [hg] at c0 c1 c2 c3 c4 c5 bx ⊢
  have HG := Lib.hid hg
  clear hg hb0 hb1
  cases b with
  | false =>
    have HE := Lib.hid (print_bad HB.out)
    go_wp2
    refine bodyPost_ret (v := .tuple #[.string ⟨#[]⟩, .int .i64 1]) (by simp [results, Tryz.results13, go_sem]) rfl ?_
    exact ⟨_, by rw [HE.out], by rw [HE.out], hbw⟩
  | true =>
    obtain ⟨hmi, hst⟩ := right_bounds HB.out
    go_wp2_with fail
    refine (line_any m t st r mi A n c [] a _ hm ht hr hmi hst (hT.up hbw)).mono ?_
    rintro e w2 ⟨s1, rfl, hs1, hb2⟩
    have bW := bx.up hb2
    have hbW := bon hbw hb2
    obtain ⟨_, _, _, _, _, d5⟩ := bW.six
    have z2 : crB.size = 2 := rfl
    have z3 : coB.size = 2 := rfl
    have hs1z : s1.size ≤ 10000 := line_max hs1 hm ht hr hmi hst
    have hs2 : (s1 ++ crB).size = s1.size + 2 := by rw [ByteArray.size_append, z2]
    have HE0 : Hid (dl (s1 ++ crB) = firstT (hdOf m t st r mi []) a ++ crlf) := Lib.hid (by rw [dl_app, hs1]; rfl)
    have hs0 : (s1 ++ crB).size ≤ 12000 := by omega
    clear c0 c1 c2 c3 c4 c5 bx bW hb2 hbw hs1
    go_wp2_with fail
    clear hs2
    generalize s1 ++ crB = s0 at *
    go_loopw [20, 6] (fun i u wr => ∃ (k : Nat) (v : ByteArray), k ≤ n ∧ i = .int .i64 (k : Int) ∧ u = .string v ∧ v.size ≤ 12000 + k * 9000 ∧ Hid (dl v = dl s0 ++ fT (fs.take k)) ∧ Hid (Below w.heap.size w wr)) (fun i _ _ => n - (intOf i).toNat)
    case atStart => exact ⟨0, s0, Nat.zero_le _, rfl, rfl, by omega, Lib.hid (by simp [fT, dls]), Lib.hid hbW⟩
    case round =>
      obtain ⟨k, v, hk, rfl, rfl, hvs, HVk, HBw⟩ := hrel
      by_cases hlt : k < n
      · obtain ⟨b, o, x, y, hA, hb, hx, e1, e2⟩ := (HL.out.up HBw.out).cell (k := k) hlt
        simp only at hA
        subst hA
        obtain ⟨zx, zy⟩ := HF.out _ (List.mem_of_getElem? hx)
        simp only at zx zy
        have HS := Lib.hid (fT_succ hx)
        clear hx
        have hki : (k : Int) < (n : Int) := by omega
        have hk0 : (0 : Int) ≤ (k : Int) := by omega
        have k1 := fun W => run_string_add_sum (P := Tryz.prog) W x coB (by omega)
        have hV1 : (x ++ coB).size = x.size + 2 := by rw [ByteArray.size_append, z3]
        have k2 := fun W => run_string_add_sum (P := Tryz.prog) W (x ++ coB) y (by omega)
        have hV2 : (x ++ coB ++ y).size = x.size + 2 + y.size := by rw [ByteArray.size_append, hV1]
        have k3 := fun W => run_string_add_sum (P := Tryz.prog) W (x ++ coB ++ y) crB (by omega)
        have hV3 : (x ++ coB ++ y ++ crB).size = x.size + 2 + y.size + 2 := by rw [ByteArray.size_append, hV2, z2]
        have k4 := fun W => run_string_add_sum (P := Tryz.prog) W v (x ++ coB ++ y ++ crB) (by omega)
        have HN : Hid (dl (v ++ (x ++ coB ++ y ++ crB)) = dl s0 ++ fT (fs.take (k + 1))) := Lib.hid (by
          rw [dl_app, HVk.out, dl_app, dl_app, dl_app, HS.out]
          simp [crlf]
          rfl)
        have hV4 : (v ++ (x ++ coB ++ y ++ crB)).size ≤ 12000 + (k + 1) * 9000 := by rw [ByteArray.size_append, hV3]; omega
        have HB2 := Lib.hid (bon HBw.out (ba1 wr (.cells #[.string x, .string y] 36)))
        clear hV1 hV2 hV3
        go_wp2
        go_roundw
        case rel => exact ⟨k + 1, _, by omega, by go_num, rfl, hV4, HN, HB2⟩
        case measure => simp [intOf]; omega
      · obtain rfl : k = n := by omega
        have hki : ¬ (k : Int) < (k : Int) := by omega
        have HEE : Hid (dl (v ++ crB) = textH (hdOf m t st r mi fs) a) := Lib.hid (by
          rw [dl_app, HVk.out, text_parts, HE0.out, List.take_of_length_le (by rw [hlen.out]; exact Nat.le_refl _)]
          rfl)
        have k4 := fun W => run_string_add_sum (P := Tryz.prog) W v crB (by omega)
        have hV : (v ++ crB).size = v.size + 2 := by rw [ByteArray.size_append, z2]
        clear HVk
        have HP : Hid (printH (hdOf m t st r mi fs) a = if (v ++ crB).size ≤ 2004 then (textH (hdOf m t st r mi fs) a, 0) else ([], 2)) := Lib.hid (by
          rw [printH, if_pos HB.out, ← HEE.out, dl_len])
        have hvz : (v ++ crB).size ≤ 50000000 := by omega
        clear hV
        generalize v ++ crB = V at *
        by_cases hl : V.size ≤ 2004
        · rw [if_pos hl] at HP
          have hli : ¬ (2004 : Int) < (V.size : Int) := by omega
          go_wp2
          refine bodyPost_ret (v := .tuple #[.string V, .int .i64 0]) (by simp [results, Tryz.results13, go_sem]) rfl ?_
          exact ⟨_, by rw [HP.out], by rw [HP.out]; exact HEE.out, HBw.out⟩
        · rw [if_neg hl] at HP
          have hli : (2004 : Int) < (V.size : Int) := by omega
          go_wp2
          refine bodyPost_ret (v := .tuple #[.string ⟨#[]⟩, .int .i64 2]) (by simp [results, Tryz.results13, go_sem]) rfl ?_
          exact ⟨_, by rw [HP.out], by rw [HP.out], HBw.out⟩
end
end Go.Proofs.YteefjcllbnmegaaGreatDoor
