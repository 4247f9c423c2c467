/-
  The walks of the laws HeadText and HeadAny.
-/
import Derived.Test.YteefjcllbnmegaaDoorHdM
namespace Go.Proofs.YteefjcllbnmegaaDoor
open Go.RowKit

set_option maxRecDepth 100000 in
set_option maxHeartbeats 2000000 in
theorem headText_any (s : ByteArray) (hs : s.size ≤ 4611686018427387904) (w : World) (hT : Tabs w) : Calls Tryd.prog 3 #[.string s] w (BoolEnds true w) := by
  have hcase : (400 < s.size ∧ s.size ≤ 2000) ∨ (s.size ≤ 400) ∨ (400 < s.size ∧ 2000 < s.size) := by omega
  rcases hcase with ⟨h1, h2⟩ | h1 | ⟨h1, h2⟩
  · go_enter Tryd.func3, Tryd.ntmps3
    go_wp2_with fail
    refine (awake_any _ hT).mono ?_
    rintro e w1 ⟨rfl, hb1⟩
    go_wp2
    go_ret
    exact ⟨by rfl, hb1⟩
  all_goals
    go_enter Tryd.func3, Tryd.ntmps3
    go_wp2_with fail
    refine (awake_any _ hT).mono ?_
    rintro e w1 ⟨rfl, hb1⟩
    go_wp2_with fail
    refine (same_any s hs _ (hT.up hb1)).mono ?_
    rintro e w2 ⟨rfl, hb2⟩
    go_wp2
    go_ret
    exact ⟨by rfl, bon hb1 hb2⟩

/-- how many bytes fields have -/
def szF (fs : List Fd) : Nat := (fs.map fun f => f.1.size + f.2.size + 1).sum
theorem szF_succ {fs : List Fd} {k : Nat} {x y : ByteArray} (h : fs[k]? = some (x, y)) : szF (fs.take (k + 1)) = szF (fs.take k) + (x.size + y.size + 1) := by
  unfold szF
  rw [List.take_add_one, h]
  simp
theorem szF_mem (fs : List Fd) : ∀ f ∈ fs, f.1.size + f.2.size + 1 ≤ szF fs := by
  induction fs with
  | nil => intro f hf; cases hf
  | cons g r ih =>
    intro f hf
    have e : szF (g :: r) = g.1.size + g.2.size + 1 + szF r := by simp [szF]
    rcases List.mem_cons.1 hf with rfl | hf
    · omega
    · have := ih f hf; omega
theorem szF_len (fs : List Fd) : fs.length ≤ szF fs := by
  induction fs with
  | nil => exact Nat.zero_le _
  | cons g r ih =>
    have e : szF (g :: r) = g.1.size + g.2.size + 1 + szF r := by simp [szF]
    simp only [List.length_cons]
    omega
/-- texts that a call may be handed -/
def Much (fs : List Fd) : Prop := ∀ f ∈ fs, f.1.size ≤ 140737488355328 ∧ f.2.size ≤ 140737488355328
/-- a number is handed back that tells how long all is -/
def SizeEnds (N : Nat) (w : World) (e : Ending) (w' : World) : Prop := ∃ z : Nat, e = .returned (.int .i64 (z : Int)) ∧ (z ≤ 3000 → N = z) ∧ z ≤ 1125899906842624 ∧ Below w.heap.size w w'

set_option maxRecDepth 100000 in
set_option maxHeartbeats 2000000 in
theorem size_any (m t : ByteArray) (st : Int) (r : ByteArray) (mi : Int) (A : Option Addr) (n c : Nat) (fs : List Fd) (w : World) (hm : m.size ≤ 140737488355328) (ht : t.size ≤ 140737488355328) (hr : r.size ≤ 140737488355328) (hL : Fs w ⟨A, n, c⟩ fs) (hf : Much fs) :
    Calls Tryd.prog 9 #[.agg #[.string m, .string t, .int .i64 st, .string r, .int .i64 mi, .slice A n c]] w (SizeEnds (m.size + t.size + r.size + szF fs) w) := by
  have hn := Nat.le_trans hL.le.1 hL.le.2
  unfold maxLen at hn
  have HL := Lib.hid (hL.up (ba1 w (.cells #[.string m, .string t, .int .i64 st, .string r, .int .i64 mi, .slice A n c] 26)))
  have HF := Lib.hid hf
  have hlen : Hid (fs.length = n) := Lib.hid hL.len
  clear hL hf
  simp only at hn
  go_enter Tryd.func9, Tryd.ntmps9
  go_wp2_with fail
  have hb0 := ba1 w (.cells #[.string m, .string t, .int .i64 st, .string r, .int .i64 mi, .slice A n c] 26)
  have bx := Box.new w 26 #[.string m, .string t, .int .i64 st, .string r, .int .i64 mi, .slice A n c]
  obtain ⟨g, hg⟩ : ∃ g, w.heap.size = g := ⟨_, rfl⟩
  rw [hg] at bx ⊢
  clear hg
  generalize w.alloc (.cells #[.string m, .string t, .int .i64 st, .string r, .int .i64 mi, .slice A n c] 26) = W0 at *
  go_loopw [4, 3] (fun i z wr => ∃ (k N : Nat), k ≤ n ∧ i = .int .i64 (k : Int) ∧ z = .int .i64 (N : Int) ∧ N ≤ 1125899906842624 ∧ Hid (N = m.size + t.size + r.size + szF (fs.take k)) ∧ Hid (Below W0.heap.size W0 wr)) (fun i _ _ => n - (intOf i).toNat)
  case atStart => exact ⟨0, m.size + t.size + r.size, Nat.zero_le _, rfl, by go_num, by omega, Lib.hid (by simp [szF]), Lib.hid (Below.refl _ _)⟩
  case round =>
    obtain ⟨k, N, hk, rfl, rfl, hN, HN, HB⟩ := hrel
    obtain ⟨_, _, _, _, _, c5⟩ := (bx.up HB.out).six
    by_cases hlt : k < n
    · have hki : (k : Int) < (n : Int) := by omega
      have hk0 : (0 : Int) ≤ (k : Int) := by omega
      by_cases h5 : N < 5000
      · obtain ⟨b, o, x, y, hA, hb, hx, e1, e2⟩ := (HL.out.up HB.out).cell (k := k) hlt
        simp only at hA
        subst hA
        obtain ⟨zx, zy⟩ := HF.out _ (List.mem_of_getElem? hx)
        simp only at zx zy
        have HS := Lib.hid (szF_succ hx)
        clear hx
        have h5i : (N : Int) < 5000 := by omega
        have HR : Hid (N + x.size + y.size + 1 = m.size + t.size + r.size + szF (fs.take (k + 1))) := Lib.hid (by have := HN.out; rw [HS.out]; omega)
        have hN2 : N + x.size + y.size + 1 ≤ 1125899906842624 := by omega
        have t1 : IntKind.i64.wrap ((N : Int) + (x.size : Int)) = (N : Int) + (x.size : Int) := IntWalk.i64_in _ (by omega)
        have t2 : IntKind.i64.wrap ((N : Int) + (x.size : Int) + (y.size : Int)) = (N : Int) + (x.size : Int) + (y.size : Int) := IntWalk.i64_in _ (by omega)
        have t3 : IntKind.i64.wrap ((N : Int) + (x.size : Int) + (y.size : Int) + 1) = (N : Int) + (x.size : Int) + (y.size : Int) + 1 := IntWalk.i64_in _ (by omega)
        go_wp2_with fail
        go_quiet (fail)
        clear t1 t2 t3
        go_wp2
        go_roundw
        case rel => exact ⟨k + 1, N + x.size + y.size + 1, by omega, by go_num, by go_num, hN2, HR, Lib.hid (below_drewN HB.out _)⟩
        case measure => simp [intOf]; omega
      · have h5i : ¬ (N : Int) < 5000 := by omega
        go_wp2
        go_ret
        exact ⟨N, rfl, fun h => by omega, hN, bon hb0 HB.out⟩
    · obtain rfl : k = n := by omega
      have hki : ¬ (k : Int) < (k : Int) := by omega
      have HE : Hid (m.size + t.size + r.size + szF fs = N) := Lib.hid (by rw [HN.out, List.take_of_length_le (by rw [hlen.out]; exact Nat.le_refl _)])
      clear HN
      go_wp2
      go_ret
      exact ⟨N, rfl, fun _ => HE.out, hN, bon hb0 HB.out⟩

set_option maxRecDepth 100000 in
set_option maxHeartbeats 2000000 in
theorem headAny_any (m t : ByteArray) (st : Int) (r : ByteArray) (mi : Int) (A : Option Addr) (n c : Nat) (fs : List Fd) (w : World) (hm : m.size ≤ 140737488355328) (ht : t.size ≤ 140737488355328) (hr : r.size ≤ 140737488355328) (hL : Fs w ⟨A, n, c⟩ fs) (hf : Much fs) (hT : Tabs w) :
    Calls Tryd.prog 4 #[.agg #[.string m, .string t, .int .i64 st, .string r, .int .i64 mi, .slice A n c]] w (BoolEnds true w) := by
  have hb0 := ba1 w (.cells #[.string m, .string t, .int .i64 st, .string r, .int .i64 mi, .slice A n c] 26)
  have HL := Lib.hid hL
  have HF := Lib.hid hf
  clear hL hf
  go_enter Tryd.func4, Tryd.ntmps4
  go_wp2_with fail
  refine (awake_any _ (hT.up hb0)).mono ?_
  rintro e w1 ⟨rfl, hb1⟩
  have bx1 := (Box.new w 26 #[.string m, .string t, .int .i64 st, .string r, .int .i64 mi, .slice A n c]).up hb1
  have hw1 := bon hb0 hb1
  obtain ⟨g, hg⟩ : ∃ g, w.heap.size = g := ⟨_, rfl⟩
  rw [hg] at bx1 ⊢
  clear hg hb0 hb1
  obtain ⟨c0, c1, c2, c3, c4, c5⟩ := bx1.six
  go_wp2_with fail
  refine (size_any m t st r mi A n c fs _ hm ht hr (HL.out.up hw1) HF.out).mono ?_
  rintro e w2 ⟨z, rfl, hz, hzb, hb2⟩
  have HZ := Lib.hid hz
  have bx2 := bx1.up hb2
  have hw2 := bon hw1 hb2
  clear hz c0 c1 c2 c3 c4 c5 bx1 hw1 hb2
  obtain ⟨c0, c1, c2, c3, c4, c5⟩ := bx2.six
  by_cases hbig : 3000 < z
  · have hbi : (3000 : Int) < (z : Int) := by omega
    go_wp2
    go_ret
    exact ⟨by rfl, hw2⟩
  · have hbi : ¬ (3000 : Int) < (z : Int) := by omega
    have hN := HZ.out (by omega)
    have hl := szF_len fs
    have hfew : Few fs := fun f hfm => by
      have := szF_mem fs f hfm
      omega
    have hnl := HL.out.len
    simp only at hnl
    have HTo := Lib.hid (told_any m t st r mi A n c fs _ (by omega) (by omega) (by omega) (HL.out.up hw2) (by omega) hfew (hT.up hw2))
    clear hN hl hfew hnl
    go_wp2_with fail
    refine HTo.out.mono ?_
    rintro e w3 ⟨rfl, hb3⟩
    go_wp2
    go_ret
    exact ⟨by rfl, bon hw2 hb3⟩
end Go.Proofs.YteefjcllbnmegaaDoor
