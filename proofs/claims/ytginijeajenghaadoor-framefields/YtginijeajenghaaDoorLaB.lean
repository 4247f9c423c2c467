/-
  The walk of the law FrameFields.
-/
import Derived.Test.YtginijeajenghaaDoorFrG
import Derived.Test.YtginijeajenghaaDoorFrH
namespace Go.Proofs.YtginijeajenghaaDoor
open Go.RowKit

/-- how many bytes fields have -/
def szG (fs : List Fd) : Nat := (fs.map fun f => f.1.size + f.2.size).sum
theorem szG_succ {fs : List Fd} {k : Nat} {x y : ByteArray} (h : fs[k]? = some (x, y)) : szG (fs.take (k + 1)) = szG (fs.take k) + (x.size + y.size) := by
  unfold szG
  rw [List.take_add_one, h]
  simp
theorem szG_mem (fs : List Fd) : ∀ f ∈ fs, f.1.size + f.2.size ≤ szG fs := by
  induction fs with
  | nil => intro f hf; cases hf
  | cons g r ih =>
    intro f hf
    have e : szG (g :: r) = g.1.size + g.2.size + szG r := by simp [szG]
    rcases List.mem_cons.1 hf with rfl | hf
    · omega
    · have := ih f hf; omega
/-- texts that a call may be handed -/
def Much (fs : List Fd) : Prop := ∀ f ∈ fs, f.1.size ≤ 140737488355328 ∧ f.2.size ≤ 140737488355328

set_option maxRecDepth 100000 in
set_option maxHeartbeats 4000000 in
theorem frameFields_any (A : Option Addr) (n c : Nat) (fs : List Fd) (st mi : Int) (mt : ByteArray) (w : World) (hL : Fs w ⟨A, n, c⟩ fs) (hf : Much fs) : Calls Tryd.prog 4 #[.slice A n c, .int .i64 st, .int .i64 mi, .string mt] w (BoolEnds true w) := by
  have hn := Nat.le_trans hL.le.1 hL.le.2
  unfold maxLen at hn
  have HL := Lib.hid hL
  have HF := Lib.hid hf
  have hlen : Hid (fs.length = n) := Lib.hid hL.len
  clear hL hf
  simp only at hn
  go_enter Tryd.func4, Tryd.ntmps4
  go_wp2_with fail
  go_loopw [10, 9] (fun i z wr => ∃ (k N : Nat), k ≤ n ∧ i = .int .i64 (k : Int) ∧ z = .int .i64 (N : Int) ∧ N ≤ 1125899906842624 ∧ Hid (N = szG (fs.take k)) ∧ Hid (Below w.heap.size w wr)) (fun i _ _ => n - (intOf i).toNat)
  case atStart => exact ⟨0, 0, Nat.zero_le _, rfl, rfl, by omega, Lib.hid rfl, Lib.hid (Below.refl _ _)⟩
  case round =>
    obtain ⟨k, N, hk, rfl, rfl, hN, HN, HB⟩ := hrel
    by_cases hgo : k < n ∧ N ≤ 800
    · obtain ⟨hlt, h8⟩ := hgo
      have hki : (k : Int) < (n : Int) := by omega
      have hk0 : (0 : Int) ≤ (k : Int) := by omega
      have h8i : (N : Int) ≤ 800 := by omega
      obtain ⟨b, o, x, y, hA, hb, hx, e1, e2⟩ := (HL.out.up HB.out).cell (k := k) hlt
      simp only at hA
      subst hA
      obtain ⟨zx, zy⟩ := HF.out _ (List.mem_of_getElem? hx)
      simp only at zx zy
      have HS := Lib.hid (szG_succ hx)
      clear hx
      have HR : Hid (N + x.size + y.size = szG (fs.take (k + 1))) := Lib.hid (by have := HN.out; rw [HS.out]; omega)
      have hN2 : N + x.size + y.size ≤ 1125899906842624 := by omega
      have t1 : IntKind.i64.wrap ((N : Int) + (x.size : Int)) = (N : Int) + (x.size : Int) := IntWalk.i64_in _ (by omega)
      have t2 : IntKind.i64.wrap ((N : Int) + (x.size : Int) + (y.size : Int)) = (N : Int) + (x.size : Int) + (y.size : Int) := IntWalk.i64_in _ (by omega)
      go_wp2_with fail
      go_quiet (fail)
      clear t1 t2
      go_wp2
      go_roundw
      case rel => exact ⟨k + 1, N + x.size + y.size, by omega, by go_num, by go_num, hN2, HR, Lib.hid (below_drewN HB.out _)⟩
      case measure => simp [intOf]; omega
    · have hcase : (¬ k < n) ∨ (k < n ∧ 800 < N) := by omega
      have HBIG : Hid (N ≤ 800 → n ≤ 25 → fs.length = n ∧ Few fs) := Lib.hid (fun h1 h2 => by
        obtain rfl : k = n := by omega
        have e := HN.out
        rw [List.take_of_length_le (by rw [hlen.out]; exact Nat.le_refl _)] at e
        refine ⟨hlen.out, fun f hfm => ?_⟩
        have := szG_mem fs f hfm
        omega)
      clear hgo HN
      by_cases hbig : 25 < n ∨ 800 < N
      · clear HBIG
        have hcase2 : (25 < n) ∨ (¬ 25 < n ∧ 800 < N) := by omega
        rcases hcase with h1 | ⟨h1, h2⟩ <;> rcases hcase2 with h3 | ⟨h3, h4⟩
        all_goals
          go_wp2_with fail
          refine (awake_any _).mono ?_
          rintro e w4 ⟨rfl, hb4⟩
          go_wp2
          go_ret
          exact ⟨by rfl, bon HB.out hb4⟩
      · have h3 : ¬ 25 < n := by omega
        have h4 : ¬ 800 < N := by omega
        have h1 : ¬ k < n := by omega
        have h3i : ¬ (25 : Int) < (n : Int) := by omega
        have h4i : ¬ (800 : Int) < (N : Int) := by omega
        obtain ⟨hl2, hfew⟩ := HBIG.out (by omega) (by omega)
        have HS1 : Hid (∀ W, Below wr.heap.size wr W → Calls Tryd.prog 9 #[.agg #[.string ⟨#[80, 79, 83, 84]⟩, .string ⟨#[47]⟩, .int .i64 0, .string ⟨#[]⟩, .int .i64 mi, .slice A n c], .string mt] W (BoolEnds true W)) := Lib.hid (fun W h =>
          same_any ⟨#[80, 79, 83, 84]⟩ ⟨#[47]⟩ 0 ⟨#[]⟩ mi A n c fs W (by decide) (by decide) (by decide) ((HL.out.up HB.out).up h) (by omega) hfew mt)
        have HS2 : Hid (∀ W, Below wr.heap.size wr W → Calls Tryd.prog 9 #[.agg #[.string ⟨#[]⟩, .string ⟨#[]⟩, .int .i64 st, .string ⟨#[]⟩, .int .i64 mi, .slice A n c], .string mt] W (BoolEnds true W)) := Lib.hid (fun W h =>
          same_any ⟨#[]⟩ ⟨#[]⟩ st ⟨#[]⟩ mi A n c fs W (by decide) (by decide) (by decide) ((HL.out.up HB.out).up h) (by omega) hfew mt)
        clear hcase hbig HBIG hl2 hfew HL HF
        go_wp2_with fail
        refine (lhead_any A n c _).mono ?_
        rintro e w2 ⟨rfl, hb2⟩
        go_upto_region 10 with fail
        have hd := bon hb2 (ba1 w2 (.cells #[.string ⟨#[80, 79, 83, 84]⟩, .string ⟨#[47]⟩, .int .i64 0, .string ⟨#[]⟩, .int .i64 mi, .slice A n c] 25))
        have bh := Box.new w2 25 #[.string ⟨#[80, 79, 83, 84]⟩, .string ⟨#[47]⟩, .int .i64 0, .string ⟨#[]⟩, .int .i64 mi, .slice A n c]
        obtain ⟨g, hg⟩ : ∃ g, w2.heap.size = g := ⟨_, rfl⟩
        rw [hg] at bh ⊢
        clear hg hb2
        generalize w2.alloc (.cells #[.string ⟨#[80, 79, 83, 84]⟩, .string ⟨#[47]⟩, .int .i64 0, .string ⟨#[]⟩, .int .i64 mi, .slice A n c] 25) = W2 at *
        go_wp2_with fail
        refine (awake_any _).mono ?_
        rintro e w3 ⟨rfl, hb3⟩
        have bh3 := bh.up hb3
        have hd3 := bon hd hb3
        clear bh hd hb3
        obtain ⟨c0, c1, c2, c3, c4, c5⟩ := bh3.six
        go_wp2_with fail
        refine (HS1.out _ hd3).mono ?_
        rintro e w4 ⟨rfl, hb4⟩
        have hd4 := bon hd3 hb4
        clear c0 c1 c2 c3 c4 c5 bh3 hd3 hb4
        go_wp2_with fail
        refine (HS2.out _ hd4).mono ?_
        rintro e w5 ⟨rfl, hb5⟩
        go_wp2
        go_ret
        exact ⟨by rfl, bon HB.out (bon hd4 hb5)⟩
end Go.Proofs.YtginijeajenghaaDoor
