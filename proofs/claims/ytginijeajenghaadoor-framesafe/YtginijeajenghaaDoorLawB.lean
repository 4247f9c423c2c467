/-
  The walks of the laws' own Maker: Pick.
-/
import Derived.Test.YtginijeajenghaaDoorHdU
namespace Go.Proofs.YtginijeajenghaaDoor
open Go.RowKit

/-- the slice at address A holds the bytes ys, in a block below B -/
def Us (w : World) (B : Nat) (A : Option Addr) (ys : List UInt8) : Prop :=
  0 < ys.length → ∃ b o, A = some ⟨b, o, none⟩ ∧ b < B ∧ ∀ j, j < ys.length → w.cell? ⟨b, o + j, none⟩ = some (.int .u8 ((ys[j]?.getD 0).toNat : Int))
theorem Us.low {w w' : World} {B : Nat} {A : Option Addr} {ys : List UInt8} (h : Us w B A ys) (hb : Below B w w') : Us w' B A ys := by
  intro hx
  obtain ⟨b, o, rfl, hl, hc⟩ := h hx
  exact ⟨b, o, rfl, hl, fun j hj => (hb.cell hl).trans (hc j hj)⟩
theorem Us.up {w w' : World} {A : Option Addr} {ys : List UInt8} (h : Us w w.heap.size A ys) (hb : Below w.heap.size w w') : Us w' w'.heap.size A ys := by
  intro hx
  obtain ⟨b, o, rfl, hl, hc⟩ := h hx
  exact ⟨b, o, rfl, Nat.lt_of_lt_of_le hl hb.size, fun j hj => (hb.cell hl).trans (hc j hj)⟩
theorem Us.mono {w : World} {B B' : Nat} {A : Option Addr} {ys : List UInt8} (h : Us w B A ys) (hb : B ≤ B') : Us w B' A ys := by
  intro hx
  obtain ⟨b, o, rfl, hl, hc⟩ := h hx
  exact ⟨b, o, rfl, Nat.lt_of_lt_of_le hl hb, hc⟩

/-- a number below n, and one more pick is counted -/
def PickEnds (gm n : Nat) (ix : Int) (w : World) (e : Ending) (w' : World) : Prop :=
  ∃ p : Nat, p < n ∧ e = .returned (.int .i64 (p : Int)) ∧ Below (w.setCell ⟨gm, 1, none⟩ (.int .i64 (ix + 1))).heap.size (w.setCell ⟨gm, 1, none⟩ (.int .i64 (ix + 1))) w'

set_option maxRecDepth 100000 in
set_option maxHeartbeats 2000000 in
theorem pick_any (gm n : Nat) (ix : Int) (A : Option Addr) (L c : Nat) (ys : List UInt8) (w : World) (hbx : Box w gm 49 #[.slice A L c, .int .i64 ix]) (h0 : 0 ≤ ix) (h1 : ix ≤ 1000) (hl : ys.length = L) (hm : L ≤ maxLen) (hU : Us w gm A ys) (hn : 1 ≤ n) (hn2 : n ≤ 100) :
    Calls Tryd.prog 27 #[.pointer (some ⟨gm, 0, none⟩), .int .i64 (n : Int)] w (PickEnds gm n ix w) := by
  unfold maxLen at hm
  have c0 := hbx.c 0 rfl
  have c1 := hbx.c 1 rfl
  have f0 := hbx.f 0
  have f1 := hbx.f 1
  have hb2 := hbx.set 1 (.int .i64 (ix + 1))
  have d0 := hb2.c 0 (v := .slice A L c) (by simp)
  have d1 := hb2.c 1 (v := .int .i64 (ix + 1)) (by simp)
  have HU := Lib.hid (hU.low ((Below.refl gm w).setCell (p := ⟨gm, 1, none⟩) (Nat.le_refl _) (.int .i64 (ix + 1))))
  have HL := Lib.hid hl
  clear hl hU hbx hb2
  go_enter Tryd.func27, Tryd.ntmps27
  go_wp2_with fail
  clear c0 c1 f0 f1
  obtain ⟨X, hX⟩ : ∃ X, w.setCell ⟨gm, 1, none⟩ (.int .i64 (ix + 1)) = X := ⟨_, rfl⟩
  rw [hX] at d0 d1 HU ⊢
  have HX := Lib.hid hX
  clear hX
  by_cases hbig : (L : Int) < ix + 1
  · go_quiet (fail)
    go_wp2
    go_ret
    exact ⟨0, by omega, by go_num, by rw [HX.out]; exact below_drewN (Below.refl _ _) _⟩
  · obtain ⟨j, rfl⟩ := Int.eq_ofNat_of_zero_le h0
    have hj : j < L := by omega
    obtain ⟨b, o, hA, hb, hc⟩ := HU.out (by rw [HL.out]; omega)
    have cj := hc j (by rw [HL.out]; omega)
    clear hc
    obtain ⟨y, hy⟩ : ∃ y, ys[j]?.getD 0 = y := ⟨_, rfl⟩
    rw [hy] at cj
    have hyb := y.toNat_lt
    clear hy
    obtain ⟨v, hv⟩ : ∃ v, y.toNat = v := ⟨_, rfl⟩
    rw [hv] at cj hyb
    clear hv
    subst hA
    obtain ⟨r, hr⟩ : ∃ r, v % n = r := ⟨_, rfl⟩
    have hrn : r < n := by rw [← hr]; exact Nat.mod_lt _ (by omega)
    have t0 : (j : Int) + 1 - 1 = (j : Int) := by omega
    have t9 : IntKind.i64.wrap ((j : Int) + 1 - 1) = (j : Int) := by rw [t0]; exact IntWalk.i64_in _ (by omega)
    have t8 : IntKind.i64.wrap (j : Int) = (j : Int) := IntWalk.i64_in _ (by omega)
    have t1 : IntKind.i64.wrap (v : Int) = (v : Int) := IntWalk.i64_in _ (by omega)
    have t2 : (v : Int).tmod (n : Int) = (r : Int) := by rw [Int.tmod_eq_emod_of_nonneg (by omega), ← hr]; simp
    have t3 : (v : Int) % (n : Int) = (r : Int) := by rw [← hr]; simp
    have t4 : IntKind.i64.wrap (r : Int) = (r : Int) := IntWalk.i64_in _ (by omega)
    have t5 : (j : Int) < (L : Int) := by omega
    have t6 : (0 : Int) ≤ (j : Int) := by omega
    have t7 : ¬ (n : Int) = 0 := by omega
    clear hr
    go_quiet (fail)
    rename_i nq
    have d0' : (X.drewN nq).cell? ⟨gm, 0, none⟩ = some (.slice (some ⟨b, o, none⟩) L c) := d0
    have d1' : (X.drewN nq).cell? ⟨gm, 1, none⟩ = some (.int .i64 ((j : Int) + 1)) := d1
    have cj' : (X.drewN nq).cell? ⟨b, o + j, none⟩ = some (.int .u8 (v : Int)) := cj
    have hbn : Below X.heap.size X (X.drewN nq) := below_drewN (Below.refl _ _) _
    go_wp2_with fail
    generalize X.drewN nq = Y at *
    clear d0 d1 cj
    go_quiet (fail)
    go_wp2
    go_ret
    exact ⟨r, hrn, by go_num, by rw [HX.out]; exact below_drewN hbn _⟩
end Go.Proofs.YtginijeajenghaaDoor
