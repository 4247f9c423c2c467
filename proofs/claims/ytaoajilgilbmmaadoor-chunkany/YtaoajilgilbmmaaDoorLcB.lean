/-
  The walks of the laws' own Pieces, and of ChunkAny, ChunkEncode and ChunkBack.
-/
import Derived.Test.YtaoajilgilbmmaaDoorLcA
import Derived.Test.YtaoajilgilbmmaaDoorUsT
namespace Go.Proofs.YtaoajilgilbmmaaDoor
open Go.RowKit

def pcs : List ByteArray := [⟨#[51]⟩, ⟨#[13, 10]⟩, ⟨#[97, 98, 99]⟩, ⟨#[48]⟩, ⟨#[65]⟩, ⟨#[59, 120, 61, 121]⟩, ⟨#[13]⟩, ⟨#[10]⟩, ⟨#[97, 58, 32, 98]⟩, ⟨#[102, 102, 102]⟩, ⟨#[49, 48, 48, 48]⟩, ⟨#[32]⟩, ⟨#[9, 50]⟩, ⟨#[49, 13, 10, 122, 13, 10]⟩, ⟨#[48, 13, 10, 13, 10]⟩, ⟨#[103]⟩, ⟨#[102, 102, 102, 102, 102, 102, 102, 102, 102, 102, 102, 102, 102, 102, 102, 102, 102]⟩, ⟨#[]⟩]
theorem pcs_le : ∀ x ∈ pcs, x.size ≤ 17 := by decide +kernel
/-- a text of few pieces is handed back -/
def PcEnds (w : World) (e : Ending) (w' : World) : Prop := ∃ r : ByteArray, e = .returned (.string r) ∧ r.size ≤ 272 ∧ Below w.heap.size w w'

set_option maxRecDepth 100000 in
set_option maxHeartbeats 2000000 in
theorem pieces_any (A : Option Addr) (len cap : Nat) (ys : List UInt8) (w : World) (hl : ys.length = len) (hm : len ≤ maxLen) (hU : Us w w.heap.size A ys) : Calls Tryd.prog 11 #[.slice A len cap] w (PcEnds w) := by
  unfold maxLen at hm
  have HL := Lib.hid hl
  have HU := Lib.hid hU
  have HS : Hid (Box (w.alloc (.cells #[.string ⟨#[51]⟩, .string ⟨#[13, 10]⟩, .string ⟨#[97, 98, 99]⟩, .string ⟨#[48]⟩, .string ⟨#[65]⟩, .string ⟨#[59, 120, 61, 121]⟩, .string ⟨#[13]⟩, .string ⟨#[10]⟩, .string ⟨#[97, 58, 32, 98]⟩, .string ⟨#[102, 102, 102]⟩, .string ⟨#[49, 48, 48, 48]⟩, .string ⟨#[32]⟩, .string ⟨#[9, 50]⟩, .string ⟨#[49, 13, 10, 122, 13, 10]⟩, .string ⟨#[48, 13, 10, 13, 10]⟩, .string ⟨#[103]⟩, .string ⟨#[102, 102, 102, 102, 102, 102, 102, 102, 102, 102, 102, 102, 102, 102, 102, 102, 102]⟩, .string ⟨#[]⟩] 9)) w.heap.size 9 (svs pcs).toArray) := Lib.hid (Box.new w 9 #[.string ⟨#[51]⟩, .string ⟨#[13, 10]⟩, .string ⟨#[97, 98, 99]⟩, .string ⟨#[48]⟩, .string ⟨#[65]⟩, .string ⟨#[59, 120, 61, 121]⟩, .string ⟨#[13]⟩, .string ⟨#[10]⟩, .string ⟨#[97, 58, 32, 98]⟩, .string ⟨#[102, 102, 102]⟩, .string ⟨#[49, 48, 48, 48]⟩, .string ⟨#[32]⟩, .string ⟨#[9, 50]⟩, .string ⟨#[49, 13, 10, 122, 13, 10]⟩, .string ⟨#[48, 13, 10, 13, 10]⟩, .string ⟨#[103]⟩, .string ⟨#[102, 102, 102, 102, 102, 102, 102, 102, 102, 102, 102, 102, 102, 102, 102, 102, 102]⟩, .string ⟨#[]⟩])
  clear hl hU
  go_enter Tryd.func11, Tryd.ntmps11
  go_wp2_with fail
  have hb0 := ba1 w (.cells #[.string ⟨#[51]⟩, .string ⟨#[13, 10]⟩, .string ⟨#[97, 98, 99]⟩, .string ⟨#[48]⟩, .string ⟨#[65]⟩, .string ⟨#[59, 120, 61, 121]⟩, .string ⟨#[13]⟩, .string ⟨#[10]⟩, .string ⟨#[97, 58, 32, 98]⟩, .string ⟨#[102, 102, 102]⟩, .string ⟨#[49, 48, 48, 48]⟩, .string ⟨#[32]⟩, .string ⟨#[9, 50]⟩, .string ⟨#[49, 13, 10, 122, 13, 10]⟩, .string ⟨#[48, 13, 10, 13, 10]⟩, .string ⟨#[103]⟩, .string ⟨#[102, 102, 102, 102, 102, 102, 102, 102, 102, 102, 102, 102, 102, 102, 102, 102, 102]⟩, .string ⟨#[]⟩] 9)
  obtain ⟨g, hg⟩ : ∃ g, w.heap.size = g := ⟨_, rfl⟩
  rw [hg] at HS ⊢
  clear hg
  generalize w.alloc (.cells #[.string ⟨#[51]⟩, .string ⟨#[13, 10]⟩, .string ⟨#[97, 98, 99]⟩, .string ⟨#[48]⟩, .string ⟨#[65]⟩, .string ⟨#[59, 120, 61, 121]⟩, .string ⟨#[13]⟩, .string ⟨#[10]⟩, .string ⟨#[97, 58, 32, 98]⟩, .string ⟨#[102, 102, 102]⟩, .string ⟨#[49, 48, 48, 48]⟩, .string ⟨#[32]⟩, .string ⟨#[9, 50]⟩, .string ⟨#[49, 13, 10, 122, 13, 10]⟩, .string ⟨#[48, 13, 10, 13, 10]⟩, .string ⟨#[103]⟩, .string ⟨#[102, 102, 102, 102, 102, 102, 102, 102, 102, 102, 102, 102, 102, 102, 102, 102, 102]⟩, .string ⟨#[]⟩] 9) = W at *
  go_loopw [5, 4] (fun i v wr => ∃ (k : Nat) (t : ByteArray), k ≤ len ∧ k ≤ 16 ∧ i = .int .i64 (k : Int) ∧ v = .string t ∧ t.size ≤ 17 * k ∧ W = wr) (fun i _ _ => 16 - (intOf i).toNat)
  case atStart => exact ⟨0, ⟨#[]⟩, Nat.zero_le _, Nat.zero_le _, rfl, rfl, Nat.le_refl _, rfl⟩
  case round =>
    obtain ⟨k, t, hk, hk16, rfl, rfl, ht, rfl⟩ := hrel
    by_cases hlt : k < len ∧ k < 16
    · obtain ⟨h1, h2⟩ := hlt
      obtain ⟨b, o, hA, hb, hc⟩ := (HU.out.low hb0) (by rw [HL.out]; omega)
      have c1 := hc k (by rw [HL.out]; omega)
      clear hc
      obtain ⟨y, hy⟩ : ∃ y, ys[k]?.getD 0 = y := ⟨_, rfl⟩
      rw [hy] at c1
      have hyb := y.toNat_lt
      clear hy
      obtain ⟨n, hn⟩ : ∃ n, y.toNat = n := ⟨_, rfl⟩
      rw [hn] at c1 hyb
      clear hn
      subst hA
      obtain ⟨r, hr⟩ : ∃ r, n % 18 = r := ⟨_, rfl⟩
      have hr18 : r < 18 := by omega
      have t1 : IntKind.i64.wrap (n : Int) = (n : Int) := IntWalk.i64_in _ (by omega)
      have t2 : (n : Int).tmod 18 = (r : Int) := by rw [Int.tmod_eq_emod_of_nonneg (by omega), ← hr]; simp
      have t3 : (n : Int) % 18 = (r : Int) := by rw [← hr]; simp
      have t4 : IntKind.i64.wrap (r : Int) = (r : Int) := IntWalk.i64_in _ (by omega)
      clear hr
      obtain ⟨x, hx, c2⟩ := lit_cell (xs := pcs) HS.out (p := r) hr18
      have hxs := pcs_le x hx
      clear hx
      have hsz : (t ++ x).size = t.size + x.size := ByteArray.size_append
      go_wp2
      go_roundw
      case rel => exact ⟨k + 1, t ++ x, by omega, by omega, by go_num, rfl, by omega, trivial⟩
      case measure => simp [intOf]; omega
    · have hcase : ¬ k < len ∨ (k < len ∧ ¬ k < 16) := by omega
      clear hlt
      rcases hcase with h1 | ⟨h1, h2⟩
      all_goals
        go_wp2
        go_ret
        exact ⟨t, rfl, by omega, hb0⟩


set_option maxRecDepth 100000 in
set_option maxHeartbeats 2000000 in
theorem chunkAny_any (s l : Int) (ln : ByteArray) (m : Int) (S : ByteArray) (hln : ln.size ≤ 4611686018427387904) (hS : S.size ≤ 4611686018427387904) (w : World) (hT : Tabs w) : Calls Tryd.prog 3 #[.agg #[.int .i64 s, .int .i64 l, .string ln, .int .i64 m], .string S] w (BoolEnds true w) := by
  have HTb := Lib.hid hT
  clear hT
  have hb0 := ba1 w (.cells #[.int .i64 s, .int .i64 l, .string ln, .int .i64 m] 23)
  have bx := Box.new w 23 #[.int .i64 s, .int .i64 l, .string ln, .int .i64 m]
  have hcase : (600 < S.size) ∨ (¬ 600 < S.size ∧ 600 < ln.size) ∨ (¬ 600 < S.size ∧ ¬ 600 < ln.size) := by omega
  have HS : Hid (S.size ≤ 600 → ∀ s l ln m W, Calls Tryd.prog 10 #[.agg #[.int .i64 s, .int .i64 l, .string ln, .int .i64 m], .string S] W (BoolEnds true W)) := Lib.hid (fun h s l ln m W => csame_any s l ln m S (by omega) W)
  go_enter Tryd.func3, Tryd.ntmps3
  go_wp2_with fail
  refine (cawake_any _ (HTb.out.up hb0)).mono ?_
  rintro e w1 ⟨rfl, hb1⟩
  have bx1 := bx.up hb1
  have hB := bon hb0 hb1
  obtain ⟨g, hg⟩ : ∃ g, w.heap.size = g := ⟨_, rfl⟩
  rw [hg] at bx1 ⊢
  clear hg bx hb0 hb1
  obtain ⟨c0, c1, c2, c3⟩ := bx1.four
  rcases hcase with h1 | ⟨h1, h2⟩ | ⟨h1, h2⟩
  · go_wp2
    go_ret
    exact ⟨by first | rfl | simp, hB⟩
  · go_wp2
    go_ret
    exact ⟨by first | rfl | simp, hB⟩
  · go_wp2_with fail
    refine (HS.out (by omega) s l ln m _).mono ?_
    rintro e w2 ⟨rfl, hb2⟩
    have hB2 := bon hB hb2
    clear c0 c1 c2 c3 bx1 hB hb2
    go_wp2_with fail
    refine (HS.out (by omega) 0 0 ⟨#[]⟩ 0 _).mono ?_
    rintro e w3 ⟨rfl, hb3⟩
    go_wp2
    go_ret
    exact ⟨by first | rfl | simp, bon hB2 hb3⟩

theorem int_cell {W : World} {g : Nat} {a b : Int} (h : Box W g 3 #[.int .i64 a, .int .i64 b]) {k : Nat} (hk : k < 2) : ∃ x, W.cell? ⟨g, k, none⟩ = some (.int .i64 x) := by
  match k, hk with
  | 0, _ => exact ⟨a, h.c 0 rfl⟩
  | 1, _ => exact ⟨b, h.c 1 rfl⟩
set_option maxRecDepth 100000 in
set_option maxHeartbeats 2000000 in
theorem chunkEncode_any (s : ByteArray) (k : Int) (c : Nat) (hs : s.size ≤ 4611686018427387904) (hc : c < 256) (w : World) (hT : Tabs w) : Calls Tryd.prog 5 #[.string s, .int .i64 k, .int .u8 (c : Int)] w (BoolEnds true w) := by
  have HTb := Lib.hid hT
  clear hT
  have hcase : (300 < s.size ∧ s.size ≤ 4000) ∨ (¬ 300 < s.size) ∨ (300 < s.size ∧ ¬ s.size ≤ 4000) := by omega
  have tc : IntKind.i64.wrap (c : Int) = (c : Int) := IntWalk.i64_in _ (by omega)
  have tc1 : IntKind.i64.wrap (1 + (c : Int)) = 1 + (c : Int) := IntWalk.i64_in _ (by omega)
  have HE1 := Lib.hid (fun x W hW => cencode_any s x hs W hW)
  have HE2 := Lib.hid (fun x W => rencode_any s x hs W)
  rcases hcase with ⟨h1, h2⟩ | h1 | ⟨h1, h2⟩
  · go_enter Tryd.func5, Tryd.ntmps5
    go_wp2_with fail
    refine (cawake_any _ HTb.out).mono ?_
    rintro e w1 ⟨rfl, hb1⟩
    go_wp2
    go_ret
    exact ⟨by rfl, hb1⟩
  all_goals
    go_enter Tryd.func5, Tryd.ntmps5
    go_wp2_with fail
    have hd := ba1 w (.cells #[.int .i64 k, .int .i64 (1 + (c : Int))] 3)
    have bl := Box.new w 3 #[.int .i64 k, .int .i64 (1 + (c : Int))]
    obtain ⟨gl, hg⟩ : ∃ g, w.heap.size = g := ⟨_, rfl⟩
    rw [hg] at bl ⊢
    clear hg tc tc1
    generalize w.alloc (.cells #[.int .i64 k, .int .i64 (1 + (c : Int))] 3) = W0 at *
    go_loopw [28] (fun i wr => ∃ j : Nat, j ≤ 2 ∧ i = .int .i64 (j : Int) ∧ Hid (Below W0.heap.size W0 wr)) (fun i _ => 2 - (intOf i).toNat)
    case atStart => exact ⟨0, by omega, rfl, Lib.hid (Below.refl _ _)⟩
    case round =>
      obtain ⟨j, hj, rfl, HB⟩ := hrel
      by_cases hlt : j < 2
      · have hji : (j : Int) < 2 := by omega
        have hj0 : (0 : Int) ≤ (j : Int) := by omega
        obtain ⟨x, cx⟩ := int_cell (bl.up HB.out) hlt
        go_wp2_with fail
        refine (HE1.out x _ (HTb.out.up (bon hd HB.out))).mono ?_
        rintro e w1 ⟨t1, rfl, ht1, hb1⟩
        go_wp2_with fail
        refine (HE2.out x _).mono ?_
        rintro e w2 ⟨t2, rfl, ht2, hb2⟩
        obtain rfl : t1 = t2 := dl_inj (ht1.trans ht2.symm)
        have HB2 := Lib.hid (bon HB.out (bon hb1 hb2))
        clear ht1 ht2 hb1 hb2 HB cx
        go_wp2
        go_roundw
        case rel => exact ⟨j + 1, by omega, by go_num, HB2⟩
        case measure => simp [intOf]; omega
      · obtain rfl : j = 2 := by omega
        go_wp2_with fail
        refine (cawake_any _ (HTb.out.up (bon hd HB.out))).mono ?_
        rintro e w1 ⟨rfl, hb1⟩
        go_wp2
        go_ret
        exact ⟨by rfl, bon (bon hd HB.out) hb1⟩
end Go.Proofs.YtaoajilgilbmmaaDoor
