/-
  The walks of the laws' own head and awake.
-/
import Derived.Test.YtginijeajenghaaDoorFrD
import Derived.Test.YtginijeajenghaaDoorFrE
namespace Go.Proofs.YtginijeajenghaaDoor
open Go.RowKit

abbrev aw3 : Fd := (⟨#[99, 111, 110, 116, 101, 110, 116, 45, 108, 101, 110, 103, 116, 104]⟩, ⟨#[51]⟩)
abbrev awC : Fd := (⟨#[67, 111, 110, 110, 101, 99, 116, 105, 111, 110]⟩, ⟨#[97, 44, 32, 67, 108, 111, 115, 101]⟩)
theorem aw_1 : reqF (rightB (hdOf ⟨#[80, 79, 83, 84]⟩ ⟨#[47]⟩ 0 ⟨#[]⟩ 1 [aw3]) false) (frH [aw3] 1) = (2, 3, 0) := by decide +kernel
theorem aw_2 : reqF (rightB (hdOf ⟨#[80, 79, 83, 84]⟩ ⟨#[47]⟩ 0 ⟨#[]⟩ 1 [aw3, aw3]) false) (frH [aw3, aw3] 1) = (0, 0, 22) := by decide +kernel
theorem aw_3 : ansF (rightB (hdOf ⟨#[]⟩ ⟨#[]⟩ 200 ⟨#[]⟩ 1 []) true) (bareB 200 (dl ⟨#[71, 69, 84]⟩)) (frH [] 1) = (4, 0, 0) := by decide +kernel
theorem aw_4 : ansF (rightB (hdOf ⟨#[]⟩ ⟨#[]⟩ 200 ⟨#[]⟩ 1 []) true) (bareB 200 (dl ⟨#[72, 69, 65, 68]⟩)) (frH [] 1) = (1, 0, 0) := by decide +kernel
theorem aw_5 : staysH [] 1 = true := by decide +kernel
theorem aw_6 : staysH [awC] 1 = false := by decide +kernel
theorem few_of {fs : List Fd} (h : fs.all (fun f => decide (f.1.size ≤ 4096) && decide (f.2.size ≤ 4096)) = true) : Few fs := fun f hf => by
  have := List.all_eq_true.1 h f hf
  simpa using this
theorem Fs.nil (w : World) : Fs w ⟨none, 0, 0⟩ [] := ⟨rfl, fun h => absurd h (by simp [fvs]), fun _ => rfl, Nat.le_refl _, Nat.zero_le _⟩

set_option maxRecDepth 100000 in
set_option maxHeartbeats 1000000 in
/-- the laws' own head: a request with these fields -/
theorem lhead_any (A : Option Addr) (n c : Nat) (w : World) : Calls Tryd.prog 11 #[.slice A n c] w fun e w' => e = .returned (.agg #[.string ⟨#[80, 79, 83, 84]⟩, .string ⟨#[47]⟩, .int .i64 0, .string ⟨#[]⟩, .int .i64 1, .slice A n c]) ∧ Below w.heap.size w w' := by
  obtain ⟨q0, q1, q2, q3, q4, q5⟩ := (Box.new w 25 #[.string ⟨#[80, 79, 83, 84]⟩, .string ⟨#[47]⟩, .int .i64 0, .string ⟨#[]⟩, .int .i64 1, .slice A n c]).six
  have hb := ba1 w (.cells #[.string ⟨#[80, 79, 83, 84]⟩, .string ⟨#[47]⟩, .int .i64 0, .string ⟨#[]⟩, .int .i64 1, .slice A n c] 25)
  go_enter Tryd.func11, Tryd.ntmps11
  go_wp2
  refine bodyPost_ret (v := .agg #[.string ⟨#[80, 79, 83, 84]⟩, .string ⟨#[47]⟩, .int .i64 0, .string ⟨#[]⟩, .int .i64 1, .slice A n c]) (by simp [results, Tryd.results11, go_sem, q0, q1, q2, q3, q4, q5]) rfl ?_
  exact ⟨rfl, hb⟩

set_option maxRecDepth 100000 in
set_option maxHeartbeats 4000000 in
theorem awake_any (w : World) : Calls Tryd.prog 10 #[] w (BoolEnds true w) := by
  have H1 : Hid (∀ A n c W, Fs W ⟨A, n, c⟩ [aw3] → Calls Tryd.prog 12 #[.agg #[.string ⟨#[80, 79, 83, 84]⟩, .string ⟨#[47]⟩, .int .i64 0, .string ⟨#[]⟩, .int .i64 1, .slice A n c]] W (FrEnds (2, 3, 0) W)) := Lib.hid (fun A n c W h => by
    rw [← aw_1]
    exact request_any ⟨#[80, 79, 83, 84]⟩ ⟨#[47]⟩ 0 ⟨#[]⟩ 1 A n c [aw3] W (by decide) (by decide) (by decide) h (by have := h.len; simp at this; omega) (few_of (by decide +kernel)))
  have H2 : Hid (∀ A n c W, Fs W ⟨A, n, c⟩ [aw3, aw3] → Calls Tryd.prog 12 #[.agg #[.string ⟨#[80, 79, 83, 84]⟩, .string ⟨#[47]⟩, .int .i64 0, .string ⟨#[]⟩, .int .i64 1, .slice A n c]] W (FrEnds (0, 0, 22) W)) := Lib.hid (fun A n c W h => by
    rw [← aw_2]
    exact request_any ⟨#[80, 79, 83, 84]⟩ ⟨#[47]⟩ 0 ⟨#[]⟩ 1 A n c [aw3, aw3] W (by decide) (by decide) (by decide) h (by have := h.len; simp at this; omega) (few_of (by decide +kernel)))
  have H3 : Hid (∀ W, Calls Tryd.prog 18 #[.agg #[.string ⟨#[]⟩, .string ⟨#[]⟩, .int .i64 200, .string ⟨#[]⟩, .int .i64 1, .slice none 0 0], .string ⟨#[71, 69, 84]⟩] W (FrEnds (4, 0, 0) W)) := Lib.hid (fun W => by
    rw [← aw_3]
    exact answer_any ⟨#[]⟩ ⟨#[]⟩ 200 ⟨#[]⟩ 1 none 0 0 [] W (by decide) (by decide) (by decide) (Fs.nil W) (by decide) (few_of rfl) ⟨#[71, 69, 84]⟩)
  have H4 : Hid (∀ W, Calls Tryd.prog 18 #[.agg #[.string ⟨#[]⟩, .string ⟨#[]⟩, .int .i64 200, .string ⟨#[]⟩, .int .i64 1, .slice none 0 0], .string ⟨#[72, 69, 65, 68]⟩] W (FrEnds (1, 0, 0) W)) := Lib.hid (fun W => by
    rw [← aw_4]
    exact answer_any ⟨#[]⟩ ⟨#[]⟩ 200 ⟨#[]⟩ 1 none 0 0 [] W (by decide) (by decide) (by decide) (Fs.nil W) (by decide) (few_of rfl) ⟨#[72, 69, 65, 68]⟩)
  have H5 : Hid (∀ W, Calls Tryd.prog 15 #[.agg #[.string ⟨#[80, 79, 83, 84]⟩, .string ⟨#[47]⟩, .int .i64 0, .string ⟨#[]⟩, .int .i64 1, .slice none 0 0]] W (BoolEnds true W)) := Lib.hid (fun W => by
    rw [← aw_5]
    exact stays_any ⟨#[80, 79, 83, 84]⟩ ⟨#[47]⟩ 0 ⟨#[]⟩ 1 none 0 0 [] W (Fs.nil W) (by decide) (few_of rfl))
  have H6 : Hid (∀ A n c W, Fs W ⟨A, n, c⟩ [awC] → Calls Tryd.prog 15 #[.agg #[.string ⟨#[80, 79, 83, 84]⟩, .string ⟨#[47]⟩, .int .i64 0, .string ⟨#[]⟩, .int .i64 1, .slice A n c]] W (BoolEnds false W)) := Lib.hid (fun A n c W h => by
    rw [← aw_6]
    exact stays_any ⟨#[80, 79, 83, 84]⟩ ⟨#[47]⟩ 0 ⟨#[]⟩ 1 A n c [awC] W h (by have := h.len; simp at this; omega) (few_of (by decide +kernel)))
  have hb0 := ba1 w (.cells #[.string ⟨#[99, 111, 110, 116, 101, 110, 116, 45, 108, 101, 110, 103, 116, 104]⟩, .string ⟨#[51]⟩] 32)
  have bx := Box.new w 32 #[.string ⟨#[99, 111, 110, 116, 101, 110, 116, 45, 108, 101, 110, 103, 116, 104]⟩, .string ⟨#[51]⟩]
  go_enter Tryd.func10, Tryd.ntmps10
  go_upto_region 2 with fail
  obtain ⟨g, hg⟩ : ∃ g, w.heap.size = g := ⟨_, rfl⟩
  rw [hg] at bx ⊢
  clear hg
  generalize w.alloc (.cells #[.string ⟨#[99, 111, 110, 116, 101, 110, 116, 45, 108, 101, 110, 103, 116, 104]⟩, .string ⟨#[51]⟩] 32) = W0 at *
  obtain ⟨a0, a1, _, _⟩ := bx.two
  go_wp2_with fail
  have hd1 := ba1 W0 (.cells #[.string ⟨#[99, 111, 110, 116, 101, 110, 116, 45, 108, 101, 110, 103, 116, 104]⟩, .string ⟨#[51]⟩] 32)
  have fs1 := Fs.new W0 [aw3] 1 rfl (by decide)
  have bx1 := bx.up hd1
  have hb1 := bon hb0 hd1
  refine (lhead_any _ 1 1 _).mono ?_
  rintro e w2 ⟨rfl, hc2⟩
  have bx2 := bx1.up hc2
  have hb2 := bon hb1 hc2
  have fs2 := fs1.up hc2
  clear bx bx1 hb0 hb1 fs1 hc2 hd1 a0 a1
  go_wp2_with fail
  refine (H1.out _ 1 1 _ fs2).mono ?_
  rintro e w3 ⟨rfl, hc3⟩
  simp only
  go_upto_region 3 with fail
  have hd3 := bon hc3 (ba1 w3 (.cells #[.int .i64 2, .int .i64 3] 38))
  have bx3 := bx2.up hd3
  have hb3 := bon hb2 hd3
  have f3 := Box.new w3 38 #[.int .i64 2, .int .i64 3]
  obtain ⟨gf, hg⟩ : ∃ g, w3.heap.size = g := ⟨_, rfl⟩
  rw [hg] at f3 ⊢
  clear hg bx2 hb2 fs2 hc3 hd3
  generalize w3.alloc (.cells #[.int .i64 2, .int .i64 3] 38) = W3 at *
  obtain ⟨a0, a1, _, _⟩ := bx3.two
  go_wp2_with fail
  have hd4 := ba1 W3 (.cells #[.string ⟨#[99, 111, 110, 116, 101, 110, 116, 45, 108, 101, 110, 103, 116, 104]⟩, .string ⟨#[51]⟩, .string ⟨#[99, 111, 110, 116, 101, 110, 116, 45, 108, 101, 110, 103, 116, 104]⟩, .string ⟨#[51]⟩] 32)
  have fs4 := Fs.new W3 [aw3, aw3] 2 rfl (by decide)
  have f4 := f3.up hd4
  have hb4 := bon hb3 hd4
  refine (lhead_any _ 2 2 _).mono ?_
  rintro e w5 ⟨rfl, hc5⟩
  have f5 := f4.up hc5
  have hb5 := bon hb4 hc5
  have fs5 := fs4.up hc5
  clear bx3 hb3 f3 hd4 fs4 f4 hb4 hc5 a0 a1
  go_wp2_with fail
  refine (H2.out _ 2 2 _ fs5).mono ?_
  rintro e w6 ⟨rfl, hc6⟩
  simp only
  go_upto_region 4 with fail
  have hd6 := bon hc6 (ba1 w6 (.cells #[.int .i64 0, .int .i64 0] 38))
  have f6 := f5.up hd6
  have hb6 := bon hb5 hd6
  obtain ⟨gz, hg⟩ : ∃ g, w6.heap.size = g := ⟨_, rfl⟩
  rw [hg]
  clear hg f5 hb5 fs5 hc6 hd6
  generalize w6.alloc (.cells #[.int .i64 0, .int .i64 0] 38) = W6 at *
  go_wp2_with fail
  refine (H3.out _).mono ?_
  rintro e w7 ⟨rfl, hc7⟩
  simp only
  go_upto_region 5 with fail
  have hd7 := bon hc7 (ba1 w7 (.cells #[.int .i64 4, .int .i64 0] 38))
  have f7 := f6.up hd7
  have hb7 := bon hb6 hd7
  have h7 := Box.new w7 38 #[.int .i64 4, .int .i64 0]
  obtain ⟨gh, hg⟩ : ∃ g, w7.heap.size = g := ⟨_, rfl⟩
  rw [hg] at h7 ⊢
  clear hg f6 hb6 hc7 hd7
  generalize w7.alloc (.cells #[.int .i64 4, .int .i64 0] 38) = W7 at *
  go_wp2_with fail
  refine (H4.out _).mono ?_
  rintro e w8 ⟨rfl, hc8⟩
  simp only
  go_upto_region 6 with fail
  have hd8 := bon hc8 (ba1 w8 (.cells #[.int .i64 1, .int .i64 0] 38))
  have f8 := f7.up hd8
  have h8 := h7.up hd8
  have hb8 := bon hb7 hd8
  have k8 := Box.new w8 38 #[.int .i64 1, .int .i64 0]
  obtain ⟨gk, hg⟩ : ∃ g, w8.heap.size = g := ⟨_, rfl⟩
  rw [hg] at k8 ⊢
  clear hg f7 h7 hb7 hc8 hd8
  generalize w8.alloc (.cells #[.int .i64 1, .int .i64 0] 38) = W8 at *
  obtain ⟨p0, p1, _, _⟩ := Fr2 f8
  obtain ⟨p2, p3, _, _⟩ := Fr2 h8
  obtain ⟨p4, p5, _, _⟩ := Fr2 k8
  go_wp2_with fail
  refine (lhead_any _ 0 0 _).mono ?_
  rintro e w9 ⟨rfl, hc9⟩
  have hb9 := bon hb8 hc9
  clear p0 p1 p2 p3 p4 p5 f8 h8 k8 hb8 hc9
  go_wp2_with fail
  refine (H5.out _).mono ?_
  rintro e w10 ⟨rfl, hc10⟩
  have hb10 := bon hb9 hc10
  clear hb9 hc10
  go_wp2_with fail
  have hd11 := ba1 w10 (.cells #[.string ⟨#[67, 111, 110, 110, 101, 99, 116, 105, 111, 110]⟩, .string ⟨#[97, 44, 32, 67, 108, 111, 115, 101]⟩] 32)
  have fs11 := Fs.new w10 [awC] 1 rfl (by decide)
  have hb11 := bon hb10 hd11
  refine (lhead_any _ 1 1 _).mono ?_
  rintro e w12 ⟨rfl, hc12⟩
  have hb12 := bon hb11 hc12
  have fs12 := fs11.up hc12
  clear hb10 hd11 fs11 hb11 hc12
  go_wp2_with fail
  refine (H6.out _ 1 1 _ fs12).mono ?_
  rintro e w13 ⟨rfl, hc13⟩
  go_wp2
  go_ret
  exact ⟨by rfl, bon hb12 hc13⟩

end Go.Proofs.YtginijeajenghaaDoor
