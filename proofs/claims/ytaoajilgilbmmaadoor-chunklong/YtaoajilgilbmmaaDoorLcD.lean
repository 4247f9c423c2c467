/-
  The walk of the law ChunkLong.
-/
import Derived.Test.YtaoajilgilbmmaaDoorLcB
namespace Go.Proofs.YtaoajilgilbmmaaDoor
open Go.RowKit

theorem three_cell {W : World} {g : Nat} {a b c : Int} (h : Box W g 3 #[.int .i64 a, .int .i64 b, .int .i64 c]) {k : Nat} (hk : k < 3) : ∃ x, W.cell? ⟨g, k, none⟩ = some (.int .i64 x) := by
  match k, hk with
  | 0, _ => exact ⟨a, h.c 0 rfl⟩
  | 1, _ => exact ⟨b, h.c 1 rfl⟩
  | 2, _ => exact ⟨c, h.c 2 rfl⟩
def lits5 : List ByteArray := [⟨#[97]⟩, ⟨#[98]⟩, ⟨#[57]⟩, ⟨#[49]⟩, ⟨#[48]⟩]
theorem lits5_le : ∀ x ∈ lits5, x.size ≤ 1 := by decide +kernel

set_option maxRecDepth 100000 in
set_option maxHeartbeats 4000000 in
theorem chunkLong_any (n h s : Nat) (hn : n < 256) (hh : h < 256) (hs : s < 256) (w : World) (hT : Tabs w) : Calls Tryd.prog 6 #[.int .u8 (n : Int), .int .u8 (h : Int), .int .u8 (s : Int)] w (BoolEnds true w) := by
  have HTb := Lib.hid hT
  clear hT
  obtain ⟨rs, hrs⟩ : ∃ r, s % 3 = r := ⟨_, rfl⟩
  have rs3 : rs < 3 := by omega
  have a1 : IntKind.i64.wrap (s : Int) = (s : Int) := IntWalk.i64_in _ (by omega)
  have a2 : (s : Int).tmod 3 = (rs : Int) := by rw [Int.tmod_eq_emod_of_nonneg (by omega), ← hrs]; simp
  have a3 : (s : Int) % 3 = (rs : Int) := by rw [← hrs]; simp
  have a4 : IntKind.i64.wrap (rs : Int) = (rs : Int) := IntWalk.i64_in _ (by omega)
  have a5 : (rs : Int) < 3 := by omega
  have a6 : (0 : Int) ≤ (rs : Int) := by omega
  obtain ⟨rh, hrh⟩ : ∃ r, h % 3 = r := ⟨_, rfl⟩
  have rh3 : rh < 3 := by omega
  have b2 : (h : Int).tmod 3 = (rh : Int) := by rw [Int.tmod_eq_emod_of_nonneg (by omega), ← hrh]; simp
  have b3 : (h : Int) % 3 = (rh : Int) := by rw [← hrh]; simp
  have b4 : IntKind.u8.wrap (rh : Int) = (rh : Int) := by
    have hc : rh = 0 ∨ rh = 1 ∨ rh = 2 := by omega
    rcases hc with rfl | rfl | rfl <;> rfl
  obtain ⟨rn, hrn⟩ : ∃ r, n % 20 = r := ⟨_, rfl⟩
  have rn20 : rn < 20 := by omega
  have n1 : IntKind.i64.wrap (n : Int) = (n : Int) := IntWalk.i64_in _ (by omega)
  have n2 : (n : Int).tmod 20 = (rn : Int) := by rw [Int.tmod_eq_emod_of_nonneg (by omega), ← hrn]; simp
  have n3 : (n : Int) % 20 = (rn : Int) := by rw [← hrn]; simp
  have n4 : IntKind.i64.wrap (190 + (rn : Int)) = 190 + (rn : Int) := IntWalk.i64_in _ (by omega)
  obtain ⟨rm, hrm⟩ : ∃ r, n % 5 = r := ⟨_, rfl⟩
  have rm5 : rm < 5 := by omega
  have m2 : (n : Int).tmod 5 = (rm : Int) := by rw [Int.tmod_eq_emod_of_nonneg (by omega), ← hrm]; simp
  have m3 : (n : Int) % 5 = (rm : Int) := by rw [← hrm]; simp
  have m5 : (rm : Int) < 5 := by omega
  have m6 : (0 : Int) ≤ (rm : Int) := by omega
  clear hrs hrh hrn hrm
  have hb0 := ba1 w (.cells #[.int .i64 0, .int .i64 2, .int .i64 3] 3)
  obtain ⟨sv, hsv⟩ := three_cell (Box.new w 3 #[.int .i64 0, .int .i64 2, .int .i64 3]) rs3
  go_enter Tryd.func6, Tryd.ntmps6
  go_upto_region 3 with fail
  have hd := ba2 w (.cells #[.int .i64 0, .int .i64 2, .int .i64 3] 3) (.cells #[.int .i64 sv, .int .i64 0, .string ⟨#[]⟩, .int .i64 0] 23)
  have bx := Box.mk' (w.alloc (.cells #[.int .i64 0, .int .i64 2, .int .i64 3] 3)) 23 #[.int .i64 sv, .int .i64 0, .string ⟨#[]⟩, .int .i64 0] (w.heap.size + 1) (by simp)
  obtain ⟨g, hg⟩ : ∃ g, w.heap.size = g := ⟨_, rfl⟩
  have HG : Hid (w.heap.size ≤ g + 1) := Lib.hid (by omega)
  rw [hg] at bx ⊢
  clear hg hsv hb0 a1 a2 a3 a4 a5 a6
  generalize (w.alloc (.cells #[.int .i64 0, .int .i64 2, .int .i64 3] 3)).alloc (.cells #[.int .i64 sv, .int .i64 0, .string ⟨#[]⟩, .int .i64 0] 23) = W0 at *
  obtain ⟨k0, k1, k2, k3⟩ := bx.four
  obtain ⟨f0, f1, f2, f3⟩ := bx.fourf
  have hc : rh = 0 ∨ rh = 1 ∨ rh = 2 := by omega
  rcases hc with rfl | rfl | rfl
  · have b5 : ((0 : Nat) : Int) = 0 := rfl
    rw [b5] at b2 b3 b4
    go_wp2_with fail
    go_loopw [9, 7] (fun i o wr => ∃ (j : Nat) (T : ByteArray), i = .int .i64 (j : Int) ∧ o = .string T ∧ j ≤ 300 ∧ T.size = 2 + j ∧ Hid (Below W0.heap.size W0 wr)) (fun i _ _ => 300 - (intOf i).toNat)
    case atStart => exact ⟨0, ⟨#[49, 59]⟩, rfl, rfl, by omega, rfl, Lib.hid (Below.refl _ _)⟩
    case round =>
      obtain ⟨j, T, rfl, rfl, hj, hT, HB⟩ := hrel
      by_cases hlt : (j : Int) < 190 + (rn : Int)
      · have z1 : (⟨#[120]⟩ : ByteArray).size = 1 := rfl
        have hsz : (T ++ (⟨#[120]⟩ : ByteArray)).size = T.size + 1 := by rw [ByteArray.size_append, z1]
        go_wp2
        go_roundw
        case rel => exact ⟨j + 1, T ++ (⟨#[120]⟩ : ByteArray), by go_num, rfl, by omega, by omega, HB⟩
        case measure => simp [intOf]; omega
      · have z1 : (⟨#[13, 10]⟩ : ByteArray).size = 2 := rfl
        have hsz : (T ++ (⟨#[13, 10]⟩ : ByteArray)).size = T.size + 2 := by rw [ByteArray.size_append, z1]
        have bx2 := bx.up HB.out
        have hb3 := bon hd HB.out
        clear k0 k1 k2 k3 f0 f1 f2 f3
        have HS := Lib.hid (fun W => csame_any sv 0 ⟨#[]⟩ 0 (T ++ (⟨#[13, 10]⟩ : ByteArray)) (by omega) W)
        go_wp2_with fail
        refine (cawake_any _ (HTb.out.up hb3)).mono ?_
        rintro e w2 ⟨rfl, hb4⟩
        obtain ⟨c0, c1, c2, c3⟩ := (bx2.up hb4).four
        go_wp2_with fail
        refine (HS.out _).mono ?_
        rintro e w3 ⟨rfl, hb5⟩
        go_wp2
        go_ret
        exact ⟨by rfl, bon hb3 (bon hb4 hb5)⟩
  · have b5 : ((1 : Nat) : Int) = 1 := rfl
    rw [b5] at b2 b3 b4
    go_upto_region 15 with fail
    have bx2 := bx.set4 (.int .i64 0) (.int .i64 0) (.string ⟨#[]⟩) (.int .i64 3980)
    have hb2 := below_set4 hd HG.out (.int .i64 0) (.int .i64 0) (.string ⟨#[]⟩) (.int .i64 3980)
    clear k0 k1 k2 k3 f0 f1 f2 f3
    generalize (((W0.setCell ⟨g + 1, 0, none⟩ (.int .i64 0)).setCell ⟨g + 1, 1, none⟩ (.int .i64 0)).setCell ⟨g + 1, 2, none⟩ (.string ⟨#[]⟩)).setCell ⟨g + 1, 3, none⟩ (.int .i64 3980) = W2 at *
    have hd2 := ba1 W2 (.cells #[.string ⟨#[97]⟩, .string ⟨#[98]⟩, .string ⟨#[57]⟩, .string ⟨#[49]⟩, .string ⟨#[48]⟩] 9)
    have HSl : Hid (Box (W2.alloc (.cells #[.string ⟨#[97]⟩, .string ⟨#[98]⟩, .string ⟨#[57]⟩, .string ⟨#[49]⟩, .string ⟨#[48]⟩] 9)) W2.heap.size 9 (svs lits5).toArray) := Lib.hid (Box.new W2 9 #[.string ⟨#[97]⟩, .string ⟨#[98]⟩, .string ⟨#[57]⟩, .string ⟨#[49]⟩, .string ⟨#[48]⟩])
    obtain ⟨x, hx, cx⟩ := lit_cell (xs := lits5) HSl.out (p := rm) rm5
    have hxs := lits5_le x hx
    clear hx HSl
    have z1 : (⟨#[97, 13, 10, 48, 49, 50, 51, 52, 53, 54, 55, 56, 57, 13, 10]⟩ : ByteArray).size = 15 := rfl
    have z2 : (⟨#[13, 10]⟩ : ByteArray).size = 2 := rfl
    have y1 : ((⟨#[97, 13, 10, 48, 49, 50, 51, 52, 53, 54, 55, 56, 57, 13, 10]⟩ : ByteArray) ++ x).size = 15 + x.size := by rw [ByteArray.size_append, z1]
    have y2 : ((⟨#[97, 13, 10, 48, 49, 50, 51, 52, 53, 54, 55, 56, 57, 13, 10]⟩ : ByteArray) ++ x ++ (⟨#[13, 10]⟩ : ByteArray)).size = 15 + x.size + 2 := by rw [ByteArray.size_append, y1, z2]
    have HS := Lib.hid (fun W => csame_any 0 0 ⟨#[]⟩ 3980 ((⟨#[97, 13, 10, 48, 49, 50, 51, 52, 53, 54, 55, 56, 57, 13, 10]⟩ : ByteArray) ++ x ++ (⟨#[13, 10]⟩ : ByteArray)) (by omega) W)
    go_wp2_with fail
    refine (cawake_any _ (HTb.out.up (bon hb2 hd2))).mono ?_
    rintro e w2 ⟨rfl, hb4⟩
    obtain ⟨c0, c1, c2, c3⟩ := ((bx2.up hd2).up hb4).four
    go_wp2_with fail
    refine (HS.out _).mono ?_
    rintro e w3 ⟨rfl, hb5⟩
    go_wp2
    go_ret
    exact ⟨by rfl, bon (bon hb2 hd2) (bon hb4 hb5)⟩
  · have b5 : ((2 : Nat) : Int) = 2 := rfl
    rw [b5] at b2 b3 b4
    have bx2 : Box (W0.setCell ⟨g + 1, 3, none⟩ (.int .i64 4000)) (g + 1) 23 #[.int .i64 sv, .int .i64 0, .string ⟨#[]⟩, .int .i64 4000] := by
      have := bx.set 3 (.int .i64 4000)
      simpa using this
    have hb2 := hd.setCell (p := ⟨g + 1, 3, none⟩) HG.out (.int .i64 4000)
    go_upto_region 16 with fail
    clear k0 k1 k2 k3 f0 f1 f2 f3
    generalize W0.setCell ⟨g + 1, 3, none⟩ (.int .i64 4000) = W2 at *
    have hz : (⟨#[48, 48, 13, 10, 13, 10]⟩ : ByteArray).size = 6 := rfl
    have HS := Lib.hid (fun W => csame_any sv 0 ⟨#[]⟩ 4000 ⟨#[48, 48, 13, 10, 13, 10]⟩ (by omega) W)
    go_wp2_with fail
    refine (cawake_any _ (HTb.out.up hb2)).mono ?_
    rintro e w2 ⟨rfl, hb4⟩
    obtain ⟨c0, c1, c2, c3⟩ := (bx2.up hb4).four
    go_wp2_with fail
    refine (HS.out _).mono ?_
    rintro e w3 ⟨rfl, hb3⟩
    go_wp2
    go_ret
    exact ⟨by rfl, bon hb2 (bon hb4 hb3)⟩
end Go.Proofs.YtaoajilgilbmmaaDoor
