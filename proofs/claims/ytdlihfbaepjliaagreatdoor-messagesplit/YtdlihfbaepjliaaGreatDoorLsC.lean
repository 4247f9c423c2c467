/-
  The walks of the laws' own Pieces and Reader.
-/
import Derived.Test.YtdlihfbaepjliaaGreatDoorJPw
import Derived.Test.YtdlihfbaepjliaaGreatDoorJPv
import Derived.Test.YtdlihfbaepjliaaGreatDoorJLawB
namespace Go.Proofs.YtdlihfbaepjliaaGreatDoor
open Go.RowKit
attribute [local go_sem ↓] exec_ldR exec_ldH exec_ldK exec_ldM exec_stR exec_stH exec_stK exec_stM exec_bdM exec_bsM
attribute [local go_sem] run_bdM run_bsM run_ldR run_ldH run_ldK run_ldM run_stR run_stH run_stK run_stM ldO_at stO_at rcs_size hcs_size kcs_size mca_size rcs_one hcs_one kcs_one mca_one rcs_oneN hcs_oneN kcs_oneN mca_oneN rcs_now rcs_ck mca_head hpat_drew hpat_new
attribute [local go_sem ↓] exec_stP exec_bdP
attribute [local go_sem] run_stP run_bdP pcs_size pcs_one pcs_oneN pcs_rd pcs_now pcs_ck pspl_now pspl_ck pspl_rd
attribute [local go_sem] zM_one zM_size
def pcs9 : List ByteArray := [⟨#[71, 69, 84, 32, 47, 32, 72, 84, 84, 80, 47, 49, 46, 49, 13, 10]⟩, ⟨#[80, 79, 83, 84, 32, 47, 97, 32, 72, 84, 84, 80, 47, 49, 46, 49, 13, 10]⟩, ⟨#[72, 84, 84, 80, 47, 49, 46, 49, 32, 50, 48, 48, 32, 79, 75, 13, 10]⟩, ⟨#[72, 84, 84, 80, 47, 49, 46, 48, 32, 51, 48, 52, 32, 13, 10]⟩, ⟨#[13, 10]⟩, ⟨#[67, 111, 110, 116, 101, 110, 116, 45, 76, 101, 110, 103, 116, 104, 58, 32, 51, 13, 10]⟩, ⟨#[84, 114, 97, 110, 115, 102, 101, 114, 45, 69, 110, 99, 111, 100, 105, 110, 103, 58, 32, 99, 104, 117, 110, 107, 101, 100, 13, 10]⟩, ⟨#[97, 98, 99]⟩, ⟨#[51, 13, 10, 97, 98, 99, 13, 10]⟩, ⟨#[48, 13, 10, 13, 10]⟩, ⟨#[72, 111, 115, 116, 58, 32, 120, 13, 10]⟩, ⟨#[120]⟩, ⟨#[67, 111, 110, 116, 101, 110, 116, 45, 76, 101, 110, 103, 116, 104, 58, 32, 48, 13, 10, 13, 10]⟩, ⟨#[13]⟩, ⟨#[10]⟩, ⟨#[72, 84, 84, 80, 47, 49, 46, 49, 32, 50, 48, 52, 32, 65, 13, 10, 13, 10]⟩, ⟨#[67, 111, 110, 116, 101, 110, 116, 45, 76, 101, 110, 103, 116, 104, 58, 32, 57, 57, 57, 57, 13, 10]⟩]
theorem pcs9_le : ∀ x ∈ pcs9, x.size ≤ 28 := by decide +kernel
theorem lit_cell9 {W : World} {g : Nat} {xs : List ByteArray} (h : Box W g 9 (svs xs).toArray) {p : Nat} (hp : p < xs.length) : ∃ x, x ∈ xs ∧ W.cell? ⟨g, p, none⟩ = some (.string x) := by
  refine ⟨xs[p], List.getElem_mem _, ?_⟩
  refine h.c p ?_
  simp [svs, hp]
/-- a text of few pieces is handed back -/
def Pc9Ends (w : World) (e : Ending) (w' : World) : Prop := ∃ s : Bs, e = .returned (.string (tb s)) ∧ s.length ≤ 448 ∧ Below w.heap.size w w'

set_option maxRecDepth 100000 in
set_option maxHeartbeats 2000000 in
theorem pieces9_any (A : Option Addr) (len cap : Nat) (ys : List UInt8) (w : World) (hl : ys.length = len) (hm : len ≤ maxLen) (hU : Us w w.heap.size A ys) : Calls Tryz.prog 13 #[.slice A len cap] w (Pc9Ends w) := by
  unfold maxLen at hm
  have HL := Lib.hid hl
  have HU := Lib.hid hU
  have HS : Hid (Box (w.alloc (.cells #[.string ⟨#[71, 69, 84, 32, 47, 32, 72, 84, 84, 80, 47, 49, 46, 49, 13, 10]⟩, .string ⟨#[80, 79, 83, 84, 32, 47, 97, 32, 72, 84, 84, 80, 47, 49, 46, 49, 13, 10]⟩, .string ⟨#[72, 84, 84, 80, 47, 49, 46, 49, 32, 50, 48, 48, 32, 79, 75, 13, 10]⟩, .string ⟨#[72, 84, 84, 80, 47, 49, 46, 48, 32, 51, 48, 52, 32, 13, 10]⟩, .string ⟨#[13, 10]⟩, .string ⟨#[67, 111, 110, 116, 101, 110, 116, 45, 76, 101, 110, 103, 116, 104, 58, 32, 51, 13, 10]⟩, .string ⟨#[84, 114, 97, 110, 115, 102, 101, 114, 45, 69, 110, 99, 111, 100, 105, 110, 103, 58, 32, 99, 104, 117, 110, 107, 101, 100, 13, 10]⟩, .string ⟨#[97, 98, 99]⟩, .string ⟨#[51, 13, 10, 97, 98, 99, 13, 10]⟩, .string ⟨#[48, 13, 10, 13, 10]⟩, .string ⟨#[72, 111, 115, 116, 58, 32, 120, 13, 10]⟩, .string ⟨#[120]⟩, .string ⟨#[67, 111, 110, 116, 101, 110, 116, 45, 76, 101, 110, 103, 116, 104, 58, 32, 48, 13, 10, 13, 10]⟩, .string ⟨#[13]⟩, .string ⟨#[10]⟩, .string ⟨#[72, 84, 84, 80, 47, 49, 46, 49, 32, 50, 48, 52, 32, 65, 13, 10, 13, 10]⟩, .string ⟨#[67, 111, 110, 116, 101, 110, 116, 45, 76, 101, 110, 103, 116, 104, 58, 32, 57, 57, 57, 57, 13, 10]⟩] 9)) w.heap.size 9 (svs pcs9).toArray) := Lib.hid (Box.new w 9 #[.string ⟨#[71, 69, 84, 32, 47, 32, 72, 84, 84, 80, 47, 49, 46, 49, 13, 10]⟩, .string ⟨#[80, 79, 83, 84, 32, 47, 97, 32, 72, 84, 84, 80, 47, 49, 46, 49, 13, 10]⟩, .string ⟨#[72, 84, 84, 80, 47, 49, 46, 49, 32, 50, 48, 48, 32, 79, 75, 13, 10]⟩, .string ⟨#[72, 84, 84, 80, 47, 49, 46, 48, 32, 51, 48, 52, 32, 13, 10]⟩, .string ⟨#[13, 10]⟩, .string ⟨#[67, 111, 110, 116, 101, 110, 116, 45, 76, 101, 110, 103, 116, 104, 58, 32, 51, 13, 10]⟩, .string ⟨#[84, 114, 97, 110, 115, 102, 101, 114, 45, 69, 110, 99, 111, 100, 105, 110, 103, 58, 32, 99, 104, 117, 110, 107, 101, 100, 13, 10]⟩, .string ⟨#[97, 98, 99]⟩, .string ⟨#[51, 13, 10, 97, 98, 99, 13, 10]⟩, .string ⟨#[48, 13, 10, 13, 10]⟩, .string ⟨#[72, 111, 115, 116, 58, 32, 120, 13, 10]⟩, .string ⟨#[120]⟩, .string ⟨#[67, 111, 110, 116, 101, 110, 116, 45, 76, 101, 110, 103, 116, 104, 58, 32, 48, 13, 10, 13, 10]⟩, .string ⟨#[13]⟩, .string ⟨#[10]⟩, .string ⟨#[72, 84, 84, 80, 47, 49, 46, 49, 32, 50, 48, 52, 32, 65, 13, 10, 13, 10]⟩, .string ⟨#[67, 111, 110, 116, 101, 110, 116, 45, 76, 101, 110, 103, 116, 104, 58, 32, 57, 57, 57, 57, 13, 10]⟩])
  clear hl hU
  go_enter Tryz.func13, Tryz.ntmps13
  go_wp2_with fail
  have hb0 := ba1 w (.cells #[.string ⟨#[71, 69, 84, 32, 47, 32, 72, 84, 84, 80, 47, 49, 46, 49, 13, 10]⟩, .string ⟨#[80, 79, 83, 84, 32, 47, 97, 32, 72, 84, 84, 80, 47, 49, 46, 49, 13, 10]⟩, .string ⟨#[72, 84, 84, 80, 47, 49, 46, 49, 32, 50, 48, 48, 32, 79, 75, 13, 10]⟩, .string ⟨#[72, 84, 84, 80, 47, 49, 46, 48, 32, 51, 48, 52, 32, 13, 10]⟩, .string ⟨#[13, 10]⟩, .string ⟨#[67, 111, 110, 116, 101, 110, 116, 45, 76, 101, 110, 103, 116, 104, 58, 32, 51, 13, 10]⟩, .string ⟨#[84, 114, 97, 110, 115, 102, 101, 114, 45, 69, 110, 99, 111, 100, 105, 110, 103, 58, 32, 99, 104, 117, 110, 107, 101, 100, 13, 10]⟩, .string ⟨#[97, 98, 99]⟩, .string ⟨#[51, 13, 10, 97, 98, 99, 13, 10]⟩, .string ⟨#[48, 13, 10, 13, 10]⟩, .string ⟨#[72, 111, 115, 116, 58, 32, 120, 13, 10]⟩, .string ⟨#[120]⟩, .string ⟨#[67, 111, 110, 116, 101, 110, 116, 45, 76, 101, 110, 103, 116, 104, 58, 32, 48, 13, 10, 13, 10]⟩, .string ⟨#[13]⟩, .string ⟨#[10]⟩, .string ⟨#[72, 84, 84, 80, 47, 49, 46, 49, 32, 50, 48, 52, 32, 65, 13, 10, 13, 10]⟩, .string ⟨#[67, 111, 110, 116, 101, 110, 116, 45, 76, 101, 110, 103, 116, 104, 58, 32, 57, 57, 57, 57, 13, 10]⟩] 9)
  obtain ⟨g, hg⟩ : ∃ g, w.heap.size = g := ⟨_, rfl⟩
  rw [hg] at HS ⊢
  clear hg
  generalize w.alloc (.cells #[.string ⟨#[71, 69, 84, 32, 47, 32, 72, 84, 84, 80, 47, 49, 46, 49, 13, 10]⟩, .string ⟨#[80, 79, 83, 84, 32, 47, 97, 32, 72, 84, 84, 80, 47, 49, 46, 49, 13, 10]⟩, .string ⟨#[72, 84, 84, 80, 47, 49, 46, 49, 32, 50, 48, 48, 32, 79, 75, 13, 10]⟩, .string ⟨#[72, 84, 84, 80, 47, 49, 46, 48, 32, 51, 48, 52, 32, 13, 10]⟩, .string ⟨#[13, 10]⟩, .string ⟨#[67, 111, 110, 116, 101, 110, 116, 45, 76, 101, 110, 103, 116, 104, 58, 32, 51, 13, 10]⟩, .string ⟨#[84, 114, 97, 110, 115, 102, 101, 114, 45, 69, 110, 99, 111, 100, 105, 110, 103, 58, 32, 99, 104, 117, 110, 107, 101, 100, 13, 10]⟩, .string ⟨#[97, 98, 99]⟩, .string ⟨#[51, 13, 10, 97, 98, 99, 13, 10]⟩, .string ⟨#[48, 13, 10, 13, 10]⟩, .string ⟨#[72, 111, 115, 116, 58, 32, 120, 13, 10]⟩, .string ⟨#[120]⟩, .string ⟨#[67, 111, 110, 116, 101, 110, 116, 45, 76, 101, 110, 103, 116, 104, 58, 32, 48, 13, 10, 13, 10]⟩, .string ⟨#[13]⟩, .string ⟨#[10]⟩, .string ⟨#[72, 84, 84, 80, 47, 49, 46, 49, 32, 50, 48, 52, 32, 65, 13, 10, 13, 10]⟩, .string ⟨#[67, 111, 110, 116, 101, 110, 116, 45, 76, 101, 110, 103, 116, 104, 58, 32, 57, 57, 57, 57, 13, 10]⟩] 9) = W at *
  go_loopw [5, 4] (fun i v wr => ∃ (k : Nat) (t : ByteArray), k ≤ len ∧ k ≤ 16 ∧ i = .int .i64 (k : Int) ∧ v = .string t ∧ t.size ≤ 28 * k ∧ W = wr) (fun i _ _ => 16 - (intOf i).toNat)
  case atStart => exact ⟨0, ⟨#[]⟩, Nat.zero_le _, Nat.zero_le _, rfl, rfl, Nat.le_refl _, rfl⟩
  case round =>
    obtain ⟨k, t, hk, hk16, rfl, rfl, ht, rfl⟩ := hrel
    by_cases hlt : k < len ∧ k < 16
    · obtain ⟨h1, h2⟩ := hlt
      obtain ⟨b, o, hA, hb, hc⟩ := (HU.out.low hb0) (by rw [HL.out]; omega)
      have c1 := hc k (by rw [HL.out]; omega)
      clear hc
      obtain ⟨y, hy⟩ : ∃ y, ys[k]?.getD 0 = y := ⟨_, rfl⟩
      rw [hy] at c1
      have hyb := y.toNat_lt
      clear hy
      obtain ⟨n, hn⟩ : ∃ n, y.toNat = n := ⟨_, rfl⟩
      rw [hn] at c1 hyb
      clear hn
      subst hA
      obtain ⟨r, hr⟩ : ∃ r, n % 17 = r := ⟨_, rfl⟩
      have hr18 : r < 17 := by omega
      have t1 : IntKind.i64.wrap (n : Int) = (n : Int) := IntWalk.i64_in _ (by omega)
      have t2 : (n : Int).tmod 17 = (r : Int) := by rw [Int.tmod_eq_emod_of_nonneg (by omega), ← hr]; simp
      have t3 : (n : Int) % 17 = (r : Int) := by rw [← hr]; simp
      have t4 : IntKind.i64.wrap (r : Int) = (r : Int) := IntWalk.i64_in _ (by omega)
      clear hr
      obtain ⟨x, hx, c2⟩ := lit_cell9 (xs := pcs9) HS.out (p := r) hr18
      have hxs := pcs9_le x hx
      clear hx
      have hsz : (t ++ x).size = t.size + x.size := ByteArray.size_append
      go_wp2
      go_roundw
      case rel => exact ⟨k + 1, t ++ x, by omega, by omega, by go_num, rfl, by omega, trivial⟩
      case measure => simp [intOf]; omega
    · have hcase : ¬ k < len ∨ (k < len ∧ ¬ k < 16) := by omega
      clear hlt
      rcases hcase with h1 | ⟨h1, h2⟩
      all_goals
        go_wp2
        go_ret
        exact ⟨dl t, by rw [tb_dl]; rfl, by rw [dl_len]; omega, hb0⟩

/-- a reader that has read is handed back -/
def Rd9Ends (w : World) (E : Ending) (w' : World) : Prop := ∃ (R : Rr) (S : Sli), E = .returned (.agg (rcs R S)) ∧ okR R ∧ Fs w' S (mkF R.now.fs) ∧ Below w.heap.size w w'
set_option maxRecDepth 100000 in
set_option maxHeartbeats 4000000 in
theorem reader9_any (a : Bool) (A : Option Addr) (len cap : Nat) (ys : List UInt8) (hd : Bool) (w : World) (hl : ys.length = len) (hm : len ≤ maxLen) (hU : Us w w.heap.size A ys) : Calls Tryz.prog 10 #[.bool a, .slice A len cap, .bool hd] w (Rd9Ends w) := by
  have hb0 := ba1 w (.cells #[.bool false, .string ⟨#[]⟩, .string ⟨#[]⟩, .int .i64 0, .int .i64 0, .string ⟨#[]⟩, .int .i64 0, .int .i64 0, .string ⟨#[]⟩, .int .i64 0, .string ⟨#[]⟩, .string ⟨#[]⟩, .int .i64 0, .string ⟨#[]⟩, .int .i64 0, .slice none 0 0, .int .i64 0] 32)
  have b0 := Box.new w 32 #[.bool false, .string ⟨#[]⟩, .string ⟨#[]⟩, .int .i64 0, .int .i64 0, .string ⟨#[]⟩, .int .i64 0, .int .i64 0, .string ⟨#[]⟩, .int .i64 0, .string ⟨#[]⟩, .string ⟨#[]⟩, .int .i64 0, .string ⟨#[]⟩, .int .i64 0, .slice none 0 0, .int .i64 0]
  have HP := Lib.hid (fun W (hW : Below w.heap.size w W) => pieces9_any A len cap ys W hl hm (hU.up hW))
  have HN := Lib.hid (fun q W => rnew_c a q none [] W)
  have HF := Lib.hid (fun q s S W (h : Fs W S (mkF (newR a q).now.fs)) (hs : s.length ≤ 448) => rfeed9_c (newR a q) S s W h (sm_new a q) (by omega))
  have HO := Lib.hid (fun q s => read_ok a q s)
  clear hl hm hU
  go_enter Tryz.func10, Tryz.ntmps10
  go_upto_if 11 with fail
  obtain ⟨g, hg⟩ : ∃ g, w.heap.size = g := ⟨_, rfl⟩
  rw [hg] at b0 ⊢
  have HG := Lib.hid hg
  clear hg
  generalize w.alloc (.cells #[.bool false, .string ⟨#[]⟩, .string ⟨#[]⟩, .int .i64 0, .int .i64 0, .string ⟨#[]⟩, .int .i64 0, .int .i64 0, .string ⟨#[]⟩, .int .i64 0, .string ⟨#[]⟩, .string ⟨#[]⟩, .int .i64 0, .string ⟨#[]⟩, .int .i64 0, .slice none 0 0, .int .i64 0] 32) = W0 at *
  go_cut [7] (fun q w' => ∃ l : Bs, q = .string (tb l) ∧ w' = W0)
  case first =>
    cases hd
    · go_wp2
      go_meet
      exact ⟨[71, 69, 84], rfl, rfl⟩
    · go_wp2
      go_meet
      exact ⟨[72, 69, 65, 68], rfl, rfl⟩
  case rest =>
    obtain ⟨q, rfl, rfl⟩ := hcut
    go_wp2_with fail
    refine (HN.out q _).mono ?_
    rintro E w1 ⟨S0, rfl, hF0, -, hb1⟩
    go_wp2_with fail
    refine (HP.out _ (bon hb0 hb1)).mono ?_
    rintro E w2 ⟨s, rfl, hs, hb2⟩
    go_wp2_with fail
    refine (HF.out q s S0 _ (hF0.up hb2) hs).mono ?_
    rintro E w3 ⟨S1, O1, ms1, rfl, hF1, hL1, -, -, hb3⟩
    have HAw : Hid (Away g S1.A (mkF (feedR (newR a q) s).1.now.fs)) := Lib.hid (fun hne ad hA => by
      rcases hL1 ad hA with h1 | ⟨h1, h2⟩
      · have := b0.lt
        have := hb1.size
        have := hb2.size
        omega
      · exact (hne (h2.trans rfl)).elim)
    clear hL1
    have hok := HO.out q s
    obtain ⟨R, hR⟩ : ∃ R, (feedR (newR a q) s).1 = R := ⟨_, rfl⟩
    obtain ⟨e, he⟩ : ∃ e, (feedR (newR a q) s).2.2 = e := ⟨_, rfl⟩
    simp only [hR, he] at hF1 hok HAw ⊢
    have HOk := Lib.hid hok
    clear hR he hok hF0
    have hc := bon hb1 (bon hb2 hb3)
    clear hb1 hb2 hb3
    have HLT : Hid (g < w3.heap.size) := Lib.hid (by have := b0.lt; have := hc.size; omega)
    go_upto_region 5 with fail
    have hbA : Below w3.heap.size w3 ((w3.alloc (.cells #[.bool false, .string ⟨#[]⟩, .string ⟨#[]⟩, .int .i64 0, .int .i64 0, .string ⟨#[]⟩, .int .i64 0, .int .i64 0, .string ⟨#[]⟩, .int .i64 0, .string ⟨#[]⟩, .string ⟨#[]⟩, .int .i64 0, .string ⟨#[]⟩, .int .i64 0, .slice none 0 0, .int .i64 0] 32)).setRow w3.heap.size (rcs R S1)) := below_row (ba1 w3 _) (Nat.le_refl _) _
    have b1 := box_row (rcs R S1) (Box.new w3 32 #[.bool false, .string ⟨#[]⟩, .string ⟨#[]⟩, .int .i64 0, .int .i64 0, .string ⟨#[]⟩, .int .i64 0, .int .i64 0, .string ⟨#[]⟩, .int .i64 0, .string ⟨#[]⟩, .string ⟨#[]⟩, .int .i64 0, .string ⟨#[]⟩, .int .i64 0, .slice none 0 0, .int .i64 0])
    have hu := bon hc hbA
    replace b0 := b0.up hu
    replace hF1 := hF1.up hbA
    have hd1 := bon hb0 hu
    obtain ⟨g1, hg⟩ : ∃ k, w3.heap.size = k := ⟨_, rfl⟩
    rw [hg] at b1 hd1 b0 hF1 HLT ⊢
    clear hg hu hbA hc
    generalize (w3.alloc (.cells #[.bool false, .string ⟨#[]⟩, .string ⟨#[]⟩, .int .i64 0, .int .i64 0, .string ⟨#[]⟩, .int .i64 0, .int .i64 0, .string ⟨#[]⟩, .int .i64 0, .string ⟨#[]⟩, .string ⟨#[]⟩, .int .i64 0, .string ⟨#[]⟩, .int .i64 0, .slice none 0 0, .int .i64 0] 32)).setRow g1 (rcs R S1) = W1 at *
    have hne : g ≠ g1 := Nat.ne_of_lt HLT.out
    have hne2 : g1 ≠ g := Ne.symm hne
    have hpg : hpat W1 g1 = some (.cells (rcs R S1) 32 (0, 0)) := b1
    have hp0 : hpat W1 g = some (.cells #[.bool false, .string ⟨#[]⟩, .string ⟨#[]⟩, .int .i64 0, .int .i64 0, .string ⟨#[]⟩, .int .i64 0, .int .i64 0, .string ⟨#[]⟩, .int .i64 0, .string ⟨#[]⟩, .string ⟨#[]⟩, .int .i64 0, .string ⟨#[]⟩, .int .i64 0, .slice none 0 0, .int .i64 0] 32 (0, 0)) := b0
    have HBR := Lib.hid (box_row (rcs R S1) b0)
    have HE : Hid (Fs (W1.setRow g (rcs R S1)) S1 (mkF R.now.fs) ∧ Below w.heap.size w (W1.setRow g (rcs R S1))) := Lib.hid ⟨Fs.row hF1 HAw.out _, below_row hd1 (by have := HG.out; omega) _⟩
    clear b0 b1 hd1 hF1 HAw HLT
    go_wp2
    refine bodyPost_ret (res_one (i := 6) (g := g) (cs := rcs R S1) Tryz.results10 rfl HBR.out rfl) rfl ?_
    exact ⟨R, S1, rfl, HOk.out, HE.out.1, HE.out.2⟩
end Go.Proofs.YtdlihfbaepjliaaGreatDoor
