/-
  The walks of the law's own Pieces and of the law FieldSmall.
-/
import Derived.Test.YtlnekljbmfdgnaaDoorAwake
namespace Go.Proofs.YtlnekljbmfdgnaaDoor
open Go.RowKit

/-- the slice at address A holds the bytes ys -/
def Us (w : World) (A : Option Addr) (ys : List UInt8) : Prop :=
  0 < ys.length → ∃ b o, A = some ⟨b, o, none⟩ ∧ b < w.heap.size ∧ ∀ j, j < ys.length → w.cell? ⟨b, o + j, none⟩ = some (.int .u8 ((ys[j]?.getD 0).toNat : Int))
theorem Us.up {w w' : World} {A : Option Addr} {ys : List UInt8} (h : Us w A ys) (hb : Below w.heap.size w w') : Us w' A ys := by
  intro hx
  obtain ⟨b, o, rfl, hl, hc⟩ := h hx
  exact ⟨b, o, rfl, Nat.lt_of_lt_of_le hl hb.size, fun j hj => (hb.cell hl).trans (hc j hj)⟩

def pcs : List ByteArray := [⟨#[97]⟩, ⟨#[66, 99]⟩, ⟨#[32]⟩, ⟨#[9]⟩, ⟨#[58]⟩, ⟨#[44]⟩, ⟨#[120, 45, 121]⟩, ⟨#[57]⟩, ⟨#[13]⟩, ⟨#[0]⟩, ⟨#[195, 169]⟩, ⟨#[126]⟩, ⟨#[75, 101, 101, 112, 45, 65, 108, 105, 118, 101]⟩, ⟨#[59]⟩, ⟨#[61]⟩, ⟨#[34]⟩]
theorem pcs_le : ∀ x ∈ pcs, x.size ≤ 10 := by decide

/-- a text of few pieces is handed back -/
def PcEnds (w : World) (e : Ending) (w' : World) : Prop := ∃ r : ByteArray, e = .returned (.string r) ∧ r.size ≤ 120 ∧ Below w.heap.size w w'

set_option maxRecDepth 100000 in
set_option maxHeartbeats 2000000 in
theorem pieces_any (A : Option Addr) (len cap : Nat) (ys : List UInt8) (w : World) (hl : ys.length = len) (hm : len ≤ maxLen) (hU : Us w A ys) : Calls Tryd.prog 11 #[.slice A len cap] w (PcEnds w) := by
  unfold maxLen at hm
  have HL := Lib.hid hl
  have HU := Lib.hid hU
  have HS := Lib.hid (Ss.new w pcs 16 rfl (by decide))
  clear hl hU
  go_enter Tryd.func11, Tryd.ntmps11
  go_wp2_with fail
  have hb0 := ba1 w (.cells (svs pcs).toArray 9)
  obtain ⟨W, hW⟩ : ∃ W, w.alloc (.cells (svs pcs).toArray 9) = W := ⟨_, rfl⟩
  obtain ⟨g, hg⟩ : ∃ g, w.heap.size = g := ⟨_, rfl⟩
  rw [hW, hg] at HS
  rw [hW] at hb0
  have hW2 : w.alloc (.cells #[.string ⟨#[97]⟩, .string ⟨#[66, 99]⟩, .string ⟨#[32]⟩, .string ⟨#[9]⟩, .string ⟨#[58]⟩, .string ⟨#[44]⟩, .string ⟨#[120, 45, 121]⟩, .string ⟨#[57]⟩, .string ⟨#[13]⟩, .string ⟨#[0]⟩, .string ⟨#[195, 169]⟩, .string ⟨#[126]⟩, .string ⟨#[75, 101, 101, 112, 45, 65, 108, 105, 118, 101]⟩, .string ⟨#[59]⟩, .string ⟨#[61]⟩, .string ⟨#[34]⟩] 9) = W := hW
  rw [hW2, hg]
  clear hW hW2 hg
  go_loopw [5, 4] (fun i v wr => ∃ (k : Nat) (t : ByteArray), k ≤ len ∧ k ≤ 12 ∧ i = .int .i64 (k : Int) ∧ v = .string t ∧ t.size ≤ 10 * k ∧ W = wr) (fun i _ _ => 12 - (intOf i).toNat)
  case atStart => exact ⟨0, ⟨#[]⟩, Nat.zero_le _, Nat.zero_le _, rfl, rfl, Nat.le_refl _, rfl⟩
  case round =>
    obtain ⟨k, t, hk, hk12, rfl, rfl, ht, rfl⟩ := hrel
    by_cases hlt : k < len ∧ k < 12
    · obtain ⟨h1, h2⟩ := hlt
      obtain ⟨b, o, hA, hb, hc⟩ := (HU.out.up hb0) (by rw [HL.out]; omega)
      have c1 := hc k (by rw [HL.out]; omega)
      clear hc
      obtain ⟨y, hy⟩ : ∃ y, ys[k]?.getD 0 = y := ⟨_, rfl⟩
      rw [hy] at c1
      have hyb := y.toNat_lt
      clear hy
      obtain ⟨n, hn⟩ : ∃ n, y.toNat = n := ⟨_, rfl⟩
      rw [hn] at c1 hyb
      clear hn
      subst hA
      obtain ⟨r, hr⟩ : ∃ r, n % 16 = r := ⟨_, rfl⟩
      have hr16 : r < 16 := by omega
      have t1 : IntKind.i64.wrap (n : Int) = (n : Int) := IntWalk.i64_in _ (by omega)
      have t2 : (n : Int).tmod 16 = (r : Int) := by rw [Int.tmod_eq_emod_of_nonneg (by omega), ← hr]; simp
      have t3 : (n : Int) % 16 = (r : Int) := by rw [← hr]; simp
      have t4 : IntKind.i64.wrap (r : Int) = (r : Int) := IntWalk.i64_in _ (by omega)
      clear hr
      obtain ⟨b2, o2, x, hA2, hb2, hx, c2⟩ := HS.out.cell (k := r) hr16
      simp only [Option.some.injEq, Addr.mk.injEq, and_true] at hA2
      obtain ⟨rfl, rfl⟩ := hA2
      have hxs := pcs_le x (List.mem_of_getElem? hx)
      rw [Nat.zero_add] at c2
      clear hx
      have hsz : (t ++ x).size = t.size + x.size := ByteArray.size_append
      go_wp2
      go_roundw
      case rel => exact ⟨k + 1, t ++ x, by omega, by omega, by go_num, rfl, by omega, trivial⟩
      case measure => simp [intOf]; omega
    · have hcase : ¬ k < len ∨ (k < len ∧ ¬ k < 12) := by omega
      clear hlt
      rcases hcase with h1 | ⟨h1, h2⟩
      all_goals
        go_wp2
        go_ret
        exact ⟨_, rfl, by omega, hb0⟩

set_option maxHeartbeats 1000000 in
theorem small_any (A : Option Addr) (len cap : Nat) (ys : List UInt8) (w : World) (hl : ys.length = len) (hm : len ≤ maxLen) (hU : Us w A ys) : Calls Tryd.prog 4 #[.slice A len cap] w (BoolEnds true w) := by
  have HP := Lib.hid (fun W (hb : Below w.heap.size w W) => pieces_any A len cap ys W hl hm (hU.up hb))
  clear hl hm hU
  go_enter Tryd.func4, Tryd.ntmps4
  go_wp2_with fail
  refine (awake_any _).mono ?_
  rintro e w1 ⟨rfl, hb1⟩
  go_wp2_with fail
  refine (HP.out _ hb1).mono ?_
  rintro e w2 ⟨r, rfl, hr, hb2⟩
  go_wp2_with fail
  refine (same_any r (by omega) _).mono ?_
  rintro e w3 ⟨rfl, hb3⟩
  go_wp2_with fail
  refine (HP.out _ (bon (bon hb1 hb2) hb3)).mono ?_
  rintro e w4 ⟨q, rfl, hq, hb4⟩
  have hx1 : (⟨#[97]⟩ : ByteArray).size = 1 := rfl
  have z1 : ((⟨#[97]⟩ : ByteArray) ++ q).size = 1 + q.size := by rw [ByteArray.size_append, hx1]
  go_wp2_with fail
  refine (same_any ((⟨#[97]⟩ : ByteArray) ++ q) (by omega) _).mono ?_
  rintro e w5 ⟨rfl, hb5⟩
  go_wp2
  go_ret
  exact ⟨by rfl, bon (bon (bon (bon hb1 hb2) hb3) hb4) hb5⟩

end Go.Proofs.YtlnekljbmfdgnaaDoor
