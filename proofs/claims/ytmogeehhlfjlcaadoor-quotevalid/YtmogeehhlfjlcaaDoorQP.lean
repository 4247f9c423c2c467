/-
  The walk of the laws' own Pieces.
-/
import Derived.Test.YtmogeehhlfjlcaaDoorQA
namespace Go.Proofs.YtmogeehhlfjlcaaDoor
open Go.RowKit
def pcs9 : List ByteArray := [⟨#[97]⟩, ⟨#[34]⟩, ⟨#[92]⟩, ⟨#[92, 110]⟩, ⟨#[92, 117]⟩, ⟨#[48, 48, 101, 52]⟩, ⟨#[92, 117, 100, 56, 51, 100]⟩, ⟨#[92, 117, 100, 101, 48, 48]⟩, ⟨#[92, 117, 68, 56, 48, 48]⟩, ⟨#[195, 164]⟩, ⟨#[240, 159, 152, 128]⟩, ⟨#[237, 160, 128]⟩, ⟨#[192]⟩, ⟨#[128]⟩, ⟨#[224, 128, 128]⟩, ⟨#[244, 144, 128, 128]⟩, ⟨#[10]⟩, ⟨#[31]⟩, ⟨#[127]⟩, ⟨#[47]⟩, ⟨#[92, 47]⟩, ⟨#[92, 120]⟩, ⟨#[92, 117, 102, 102, 102, 102]⟩, ⟨#[92, 117, 48, 48, 48, 48]⟩, ⟨#[48]⟩]
theorem pcs9_le : ∀ x ∈ pcs9, x.size ≤ 6 := by decide +kernel
theorem lit_cell9 {W : World} {g : Nat} {xs : List ByteArray} (h : Box W g 9 (svs xs).toArray) {p : Nat} (hp : p < xs.length) : ∃ x, x ∈ xs ∧ W.cell? ⟨g, p, none⟩ = some (.string x) := by
  refine ⟨xs[p], List.getElem_mem _, ?_⟩
  refine h.c p ?_
  simp [svs, hp]
/-- a text of few pieces is handed back -/
def Pc9Ends (w : World) (e : Ending) (w' : World) : Prop := ∃ s : Bs, e = .returned (.string (tb s)) ∧ s.length ≤ 72 ∧ Below w.heap.size w w'

set_option maxRecDepth 100000 in
set_option maxHeartbeats 2000000 in
theorem pieces9_any (A : Option Addr) (len cap : Nat) (ys : List UInt8) (w : World) (hl : ys.length = len) (hm : len ≤ maxLen) (hU : Us w w.heap.size A ys) : Calls Tryd.prog 6 #[.slice A len cap] w (Pc9Ends w) := by
  unfold maxLen at hm
  have HL := Lib.hid hl
  have HU := Lib.hid hU
  have HS : Hid (Box (w.alloc (.cells #[.string ⟨#[97]⟩, .string ⟨#[34]⟩, .string ⟨#[92]⟩, .string ⟨#[92, 110]⟩, .string ⟨#[92, 117]⟩, .string ⟨#[48, 48, 101, 52]⟩, .string ⟨#[92, 117, 100, 56, 51, 100]⟩, .string ⟨#[92, 117, 100, 101, 48, 48]⟩, .string ⟨#[92, 117, 68, 56, 48, 48]⟩, .string ⟨#[195, 164]⟩, .string ⟨#[240, 159, 152, 128]⟩, .string ⟨#[237, 160, 128]⟩, .string ⟨#[192]⟩, .string ⟨#[128]⟩, .string ⟨#[224, 128, 128]⟩, .string ⟨#[244, 144, 128, 128]⟩, .string ⟨#[10]⟩, .string ⟨#[31]⟩, .string ⟨#[127]⟩, .string ⟨#[47]⟩, .string ⟨#[92, 47]⟩, .string ⟨#[92, 120]⟩, .string ⟨#[92, 117, 102, 102, 102, 102]⟩, .string ⟨#[92, 117, 48, 48, 48, 48]⟩, .string ⟨#[48]⟩] 9)) w.heap.size 9 (svs pcs9).toArray) := Lib.hid (Box.new w 9 #[.string ⟨#[97]⟩, .string ⟨#[34]⟩, .string ⟨#[92]⟩, .string ⟨#[92, 110]⟩, .string ⟨#[92, 117]⟩, .string ⟨#[48, 48, 101, 52]⟩, .string ⟨#[92, 117, 100, 56, 51, 100]⟩, .string ⟨#[92, 117, 100, 101, 48, 48]⟩, .string ⟨#[92, 117, 68, 56, 48, 48]⟩, .string ⟨#[195, 164]⟩, .string ⟨#[240, 159, 152, 128]⟩, .string ⟨#[237, 160, 128]⟩, .string ⟨#[192]⟩, .string ⟨#[128]⟩, .string ⟨#[224, 128, 128]⟩, .string ⟨#[244, 144, 128, 128]⟩, .string ⟨#[10]⟩, .string ⟨#[31]⟩, .string ⟨#[127]⟩, .string ⟨#[47]⟩, .string ⟨#[92, 47]⟩, .string ⟨#[92, 120]⟩, .string ⟨#[92, 117, 102, 102, 102, 102]⟩, .string ⟨#[92, 117, 48, 48, 48, 48]⟩, .string ⟨#[48]⟩])
  clear hl hU
  go_enter Tryd.func6, Tryd.ntmps6
  go_wp2_with fail
  have hb0 := ba1 w (.cells #[.string ⟨#[97]⟩, .string ⟨#[34]⟩, .string ⟨#[92]⟩, .string ⟨#[92, 110]⟩, .string ⟨#[92, 117]⟩, .string ⟨#[48, 48, 101, 52]⟩, .string ⟨#[92, 117, 100, 56, 51, 100]⟩, .string ⟨#[92, 117, 100, 101, 48, 48]⟩, .string ⟨#[92, 117, 68, 56, 48, 48]⟩, .string ⟨#[195, 164]⟩, .string ⟨#[240, 159, 152, 128]⟩, .string ⟨#[237, 160, 128]⟩, .string ⟨#[192]⟩, .string ⟨#[128]⟩, .string ⟨#[224, 128, 128]⟩, .string ⟨#[244, 144, 128, 128]⟩, .string ⟨#[10]⟩, .string ⟨#[31]⟩, .string ⟨#[127]⟩, .string ⟨#[47]⟩, .string ⟨#[92, 47]⟩, .string ⟨#[92, 120]⟩, .string ⟨#[92, 117, 102, 102, 102, 102]⟩, .string ⟨#[92, 117, 48, 48, 48, 48]⟩, .string ⟨#[48]⟩] 9)
  obtain ⟨g, hg⟩ : ∃ g, w.heap.size = g := ⟨_, rfl⟩
  rw [hg] at HS ⊢
  clear hg
  generalize w.alloc (.cells #[.string ⟨#[97]⟩, .string ⟨#[34]⟩, .string ⟨#[92]⟩, .string ⟨#[92, 110]⟩, .string ⟨#[92, 117]⟩, .string ⟨#[48, 48, 101, 52]⟩, .string ⟨#[92, 117, 100, 56, 51, 100]⟩, .string ⟨#[92, 117, 100, 101, 48, 48]⟩, .string ⟨#[92, 117, 68, 56, 48, 48]⟩, .string ⟨#[195, 164]⟩, .string ⟨#[240, 159, 152, 128]⟩, .string ⟨#[237, 160, 128]⟩, .string ⟨#[192]⟩, .string ⟨#[128]⟩, .string ⟨#[224, 128, 128]⟩, .string ⟨#[244, 144, 128, 128]⟩, .string ⟨#[10]⟩, .string ⟨#[31]⟩, .string ⟨#[127]⟩, .string ⟨#[47]⟩, .string ⟨#[92, 47]⟩, .string ⟨#[92, 120]⟩, .string ⟨#[92, 117, 102, 102, 102, 102]⟩, .string ⟨#[92, 117, 48, 48, 48, 48]⟩, .string ⟨#[48]⟩] 9) = W at *
  go_loopw [5, 4] (fun i v wr => ∃ (k : Nat) (t : ByteArray), k ≤ len ∧ k ≤ 12 ∧ i = .int .i64 (k : Int) ∧ v = .string t ∧ t.size ≤ 6 * k ∧ W = wr) (fun i _ _ => 12 - (intOf i).toNat)
  case atStart => exact ⟨0, ⟨#[]⟩, Nat.zero_le _, Nat.zero_le _, rfl, rfl, Nat.le_refl _, rfl⟩
  case round =>
    obtain ⟨k, t, hk, hk12, rfl, rfl, ht, rfl⟩ := hrel
    by_cases hlt : k < len ∧ k < 12
    · obtain ⟨h1, h2⟩ := hlt
      obtain ⟨b, o, hA, hb, hc⟩ := (HU.out.low hb0) (by rw [HL.out]; omega)
      have c1 := hc k (by rw [HL.out]; omega)
      clear hc
      obtain ⟨y, hy⟩ : ∃ y, ys[k]?.getD 0 = y := ⟨_, rfl⟩
      rw [hy] at c1
      have hyb := y.toNat_lt
      clear hy
      obtain ⟨n, hn⟩ : ∃ n, y.toNat = n := ⟨_, rfl⟩
      rw [hn] at c1 hyb
      clear hn
      subst hA
      obtain ⟨r, hr⟩ : ∃ r, n % 25 = r := ⟨_, rfl⟩
      have hr18 : r < 25 := by omega
      have t1 : IntKind.i64.wrap (n : Int) = (n : Int) := IntWalk.i64_in _ (by omega)
      have t2 : (n : Int).tmod 25 = (r : Int) := by rw [Int.tmod_eq_emod_of_nonneg (by omega), ← hr]; simp
      have t3 : (n : Int) % 25 = (r : Int) := by rw [← hr]; simp
      have t4 : IntKind.i64.wrap (r : Int) = (r : Int) := IntWalk.i64_in _ (by omega)
      clear hr
      obtain ⟨x, hx, c2⟩ := lit_cell9 (xs := pcs9) HS.out (p := r) hr18
      have hxs := pcs9_le x hx
      clear hx
      have hsz : (t ++ x).size = t.size + x.size := ByteArray.size_append
      go_wp2
      go_roundw
      case rel => exact ⟨k + 1, t ++ x, by omega, by omega, by go_num, rfl, by omega, trivial⟩
      case measure => simp [intOf]; omega
    · have hcase : ¬ k < len ∨ (k < len ∧ ¬ k < 12) := by omega
      clear hlt
      rcases hcase with h1 | ⟨h1, h2⟩
      all_goals
        go_wp2
        go_ret
        exact ⟨dl t, by rw [tb_dl]; rfl, by rw [dl_len]; omega, hb0⟩

end Go.Proofs.YtmogeehhlfjlcaaDoor
