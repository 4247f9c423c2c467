/-
  The walk of the law ChunkSmall.
-/
import Derived.Test.YtaoajilgilbmmaaDoorLcB
import Derived.Deep.RegionHeld3
namespace Go.Proofs.YtaoajilgilbmmaaDoor
open Go.RowKit

theorem held4 {W1 w w' : World} {a0 a1 a2 a3 : Addr} {v0 v1 v2 v3 : Value} (hb : Below w.heap.size w w') (h : Below W1.heap.size W1 w ∧ w.cell? a0 = some v0 ∧ w.cell? a1 = some v1 ∧ w.cell? a2 = some v2 ∧ w.cell? a3 = some v3) :
    Below W1.heap.size W1 w' ∧ w'.cell? a0 = some v0 ∧ w'.cell? a1 = some v1 ∧ w'.cell? a2 = some v2 ∧ w'.cell? a3 = some v3 :=
  ⟨bon h.1 hb, cell_up hb h.2.1, cell_up hb h.2.2.1, cell_up hb h.2.2.2.1, cell_up hb h.2.2.2.2⟩

set_option maxRecDepth 100000 in
set_option maxHeartbeats 4000000 in
theorem chunkSmall_any (A : Option Addr) (L c : Nat) (ys : List UInt8) (A2 : Option Addr) (L2 c2 : Nat) (zs : List UInt8) (ct : Nat) (w : World) (hct : ct < 256) (hl : ys.length = L) (hm : L ≤ maxLen) (hU : Us w w.heap.size A ys) (hl2 : zs.length = L2) (hm2 : L2 ≤ maxLen) (hU2 : Us w w.heap.size A2 zs) (hT : Tabs w) : Calls Tryd.prog 4 #[.slice A L c, .slice A2 L2 c2, .int .u8 (ct : Int)] w (BoolEnds true w) := by
  have HTb := Lib.hid hT
  clear hT
  have HP := Lib.hid (fun W (hW : Below w.heap.size w W) => pieces_any A L c ys W hl hm (hU.up hW))
  have HP2 := Lib.hid (fun W (hW : Below w.heap.size w W) => pieces_any A2 L2 c2 zs W hl2 hm2 (hU2.up hW))
  clear hl hm hU hl2 hm2 hU2
  have HSm := Lib.hid (fun s l ln m (T : ByteArray) (h : T.size ≤ 1000) W => csame_any s l ln m T (by omega) W)
  obtain ⟨r, hr⟩ : ∃ r, ct % 40 = r := ⟨_, rfl⟩
  have hr40 : r < 40 := by omega
  have t1 : IntKind.i64.wrap (ct : Int) = (ct : Int) := IntWalk.i64_in _ (by omega)
  have t2 : (ct : Int).tmod 40 = (r : Int) := by rw [Int.tmod_eq_emod_of_nonneg (by omega), ← hr]; simp
  have t3 : (ct : Int) % 40 = (r : Int) := by rw [← hr]; simp
  have t4 : IntKind.i64.wrap (r : Int) = (r : Int) := IntWalk.i64_in _ (by omega)
  clear hr
  go_enter Tryd.func4, Tryd.ntmps4
  go_wp2_with fail
  refine (HP.out _ (Below.refl _ _)).mono ?_
  rintro e w1 ⟨S, rfl, hS, hb1⟩
  have HFd := Lib.hid (fun (T : ByteArray) (h : T.size ≤ 300) W => rfeed_any 0 0 ⟨#[]⟩ 0 T (by omega) W)
  clear HP
  have hcase : ((S.size : Int) ≤ (r : Int) ∧ S.size ≤ r) ∨ (¬ (S.size : Int) ≤ (r : Int) ∧ r < S.size) := by omega
  have z1 : (S.extract 0 S.size).size ≤ 300 := by rw [ByteArray.size_extract]; omega
  have z2 : (S.extract 0 r).size ≤ 300 := by rw [ByteArray.size_extract]; omega
  have r0 : (0 : Int) ≤ (r : Int) := by omega
  rcases hcase with ⟨h1, h2⟩ | ⟨h1, h2⟩
  · have tm : min (S.size : Int) (r : Int) = (S.size : Int) := by omega
    go_wp2_with fail
    refine (HFd.out _ (by first | omega | exact z1) _).mono ?_
    rintro e w2 ⟨n1, B, rfl, hn1, hB1, hb2⟩
    clear hn1 hB1
    generalize feedC (ckOf 0 0 ⟨#[]⟩ 0) _ = q
    obtain ⟨⟨sq, lq, nq, mq⟩, nn, bq, er⟩ := q
    simp only
    go_upto_region 3 with fail
    have hd := bon hb2 (ba1 w2 (.cells #[.int .i64 sq, .int .i64 lq, .string n1, .int .i64 mq] 23))
    have bx := Box.new w2 23 #[.int .i64 sq, .int .i64 lq, .string n1, .int .i64 mq]
    have hB3 := bon hb1 hd
    obtain ⟨g, hg⟩ : ∃ g, w2.heap.size = g := ⟨_, rfl⟩
    rw [hg] at bx ⊢
    clear hg hd hb2 hb1
    generalize w2.alloc (.cells #[.int .i64 sq, .int .i64 lq, .string n1, .int .i64 mq] 23) = W2 at *
    obtain ⟨x0, x1, x2, x3⟩ := bx.four
    clear bx HFd t1 t2 t3 t4
    have y2 : (⟨#[13, 10]⟩ : ByteArray).size = 2 := rfl
    go_region_held3 (fun w' => Below W2.heap.size W2 w' ∧ w'.cell? ⟨g, 0, none⟩ = some (.int .i64 sq) ∧ w'.cell? ⟨g, 1, none⟩ = some (.int .i64 lq) ∧ w'.cell? ⟨g, 2, none⟩ = some (.string n1) ∧ w'.cell? ⟨g, 3, none⟩ = some (.int .i64 mq))
      (first | exact held4 hbP (by assumption) | exact ⟨(Below.refl _ _).drew, x0, x1, x2, x3⟩)
      (first
        | (go_at_call 9; refine (cawake_any _ (HTb.out.up (bon hB3 ?_))).mono ?_; (simp only [*]); rintro e wP ⟨rfl, hbP⟩)
        | (go_at_call 11; refine (HP2.out _ (bon hB3 ?_)).mono ?_; (simp only [*]); rintro e wP ⟨T, rfl, hT, hbP⟩; have hT2 : ((⟨#[13, 10]⟩ : ByteArray) ++ T).size = 2 + T.size := (by rw [ByteArray.size_append, y2]); have kT := fun W => run_string_add_sum (P := Tryd.prog) W (⟨#[13, 10]⟩ : ByteArray) T (by omega))
        | (go_at_call 10; refine (HSm.out _ _ _ _ _ (by omega) _).mono ?_; rintro e wP ⟨rfl, hbP⟩)
        | fail)
    all_goals
      rename_i hHeld
      have hfin := hHeld.1
      clear hHeld
      go_wp2
      go_ret
      exact ⟨by first | rfl | simp, bon hB3 hfin⟩
  · have h3 : (r : Int) < (S.size : Int) := by omega
    have tm : min (S.size : Int) (r : Int) = (r : Int) := by omega
    go_wp2_with fail
    refine (HFd.out _ (by first | exact z2 | omega) _).mono ?_
    rintro e w2 ⟨n1, B, rfl, hn1, hB1, hb2⟩
    clear hn1 hB1
    generalize feedC (ckOf 0 0 ⟨#[]⟩ 0) _ = q
    obtain ⟨⟨sq, lq, nq, mq⟩, nn, bq, er⟩ := q
    simp only
    go_upto_region 3 with fail
    have hd := bon hb2 (ba1 w2 (.cells #[.int .i64 sq, .int .i64 lq, .string n1, .int .i64 mq] 23))
    have bx := Box.new w2 23 #[.int .i64 sq, .int .i64 lq, .string n1, .int .i64 mq]
    have hB3 := bon hb1 hd
    obtain ⟨g, hg⟩ : ∃ g, w2.heap.size = g := ⟨_, rfl⟩
    rw [hg] at bx ⊢
    clear hg hd hb2 hb1
    generalize w2.alloc (.cells #[.int .i64 sq, .int .i64 lq, .string n1, .int .i64 mq] 23) = W2 at *
    obtain ⟨x0, x1, x2, x3⟩ := bx.four
    clear bx HFd t1 t2 t3 t4
    have y2 : (⟨#[13, 10]⟩ : ByteArray).size = 2 := rfl
    go_region_held3 (fun w' => Below W2.heap.size W2 w' ∧ w'.cell? ⟨g, 0, none⟩ = some (.int .i64 sq) ∧ w'.cell? ⟨g, 1, none⟩ = some (.int .i64 lq) ∧ w'.cell? ⟨g, 2, none⟩ = some (.string n1) ∧ w'.cell? ⟨g, 3, none⟩ = some (.int .i64 mq))
      (first | exact held4 hbP (by assumption) | exact ⟨(Below.refl _ _).drew, x0, x1, x2, x3⟩)
      (first
        | (go_at_call 9; refine (cawake_any _ (HTb.out.up (bon hB3 ?_))).mono ?_; (simp only [*]); rintro e wP ⟨rfl, hbP⟩)
        | (go_at_call 11; refine (HP2.out _ (bon hB3 ?_)).mono ?_; (simp only [*]); rintro e wP ⟨T, rfl, hT, hbP⟩; have hT2 : ((⟨#[13, 10]⟩ : ByteArray) ++ T).size = 2 + T.size := (by rw [ByteArray.size_append, y2]); have kT := fun W => run_string_add_sum (P := Tryd.prog) W (⟨#[13, 10]⟩ : ByteArray) T (by omega))
        | (go_at_call 10; refine (HSm.out _ _ _ _ _ (by omega) _).mono ?_; rintro e wP ⟨rfl, hbP⟩)
        | fail)
    all_goals
      rename_i hHeld
      have hfin := hHeld.1
      clear hHeld
      go_wp2
      go_ret
      exact ⟨by first | rfl | simp, bon hB3 hfin⟩
end Go.Proofs.YtaoajilgilbmmaaDoor
