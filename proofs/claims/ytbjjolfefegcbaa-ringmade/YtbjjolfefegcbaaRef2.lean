/-
  The walk of the document's own answer Data (lockageref01): the content of a ring.
-/
import Derived.Test.YtbjjolfefegcbaaRef1
import Derived.Deep.AppendLies
import Derived.Deep.RegionHeld3
import Derived.Deep.DeepCutAuto
import Derived.Deep.LoopGhost
namespace Go.Proofs.Ytbjjolfefegcbaa
open Go.RowKit

/-- what holds at the head of each round of Data's loop -/
def RDat (xs : List UInt8) (f m B : Nat) (w2 : World) (c3 c4 : Value) (wr : World) : Prop :=
  ∃ (i : Nat) (A : Option Addr) (c : Nat), c4 = .int .i64 (i : Int) ∧ i ≤ m ∧ c3 = .slice A i c ∧ wr.ownsRow B 5 1 (.slice A i c) i ((dat xs f i).map bv) ∧ Below B w2 wr

theorem rdat_no (A : Option Addr) (c : Nat) (f m : Int) (xs : List UInt8) (w : World) (hok : okB xs.length f m = false) : Calls Try.prog 12 #[rv A xs.length c f m] w (StrEnds [] w) := by
  go_enter Try.func12, Try.ntmps12
  go_wp2_with fail
  refine (rright_any A xs.length c f m _).mono ?_
  rintro e w2 ⟨rfl, hbl2⟩
  go_wp2
  go_ret
  exact ⟨rfl, bon (ba1 _ _) hbl2⟩

theorem grown_up {X w' : World} {row : Option Nat} {a : Addr} {v : Value} (hg : X.grownBy w' row) (h : X.cell? a = some v) (hne : row = some a.block → False) : w'.cell? a = some v := hg.cell h (fun e => hne e.symm)

set_option maxRecDepth 100000 in
set_option maxHeartbeats 1000000 in
theorem rdat_yes (b off n c f m : Nat) (xs : List UInt8) (w : World) (HX : Hid (xs.length = n)) (hN : n ≤ 4096) (hf : f < n) (hm : m ≤ n) (hb : b < w.heap.size)
    (hcell : ∀ j, j < n → w.cell? ⟨b, off + j, none⟩ = some (bv (xs[j]?.getD 0))) :
    Calls Try.prog 12 #[rv (some ⟨b, off, none⟩) n c f m] w (StrEnds (dat xs f m) w) := by
  have hok : okB n f m = true := okB_mk (by omega)
  obtain ⟨i0, hi0, hz0, hz1, hz2⟩ := info_parts info5
  go_enter Try.func12, Try.ntmps12
  go_wp2_with fail
  refine (rright_any _ n c f m _).mono ?_
  rintro e w2 ⟨rfl, hbl2⟩
  have b0 := (Box.new w 24 #[.slice (some ⟨b, off, none⟩) n c, .int .i64 (f : Int), .int .i64 (m : Int)]).up hbl2
  have hb2 := bon (ba1 w _) hbl2
  have s2 := hbl2.size
  simp only [World.size_alloc] at s2
  go_wp2_with fail
  go_loopw [3, 4] (RDat xs f m w2.heap.size w2) (fun _ i _ => m - (intOf i).toNat)
  case atStart => exact ⟨0, none, 0, rfl, Nat.zero_le _, rfl, by simpa [dat] using World.ownsRow_nil w2 w2.heap.size 5 1, Below.refl _ _⟩
  case round =>
    obtain ⟨i, A, c', rfl, hi, rfl, hown, hbw⟩ := hrel
    have b1 := b0.up hbw
    have hw := bon hb2 hbw
    obtain ⟨⟨c0, c1, c2⟩, _⟩ := b1.three
    by_cases hlt : i < m
    · obtain ⟨p, hp⟩ : ∃ p, p = (f + i) % n := ⟨_, rfl⟩
      have hp1 : p < n := by rw [hp]; exact Nat.mod_lt _ (by omega)
      have hx : wr.cell? ⟨b, off + p, none⟩ = some (bv (xs[p]?.getD 0)) := (hw.cell (p := ⟨b, off + p, none⟩) hb).trans (hcell p hp1)
      have hsn := dat_snoc xs f i (by have := HX.out; omega) (by have := HX.out; omega)
      rw [HX.out, ← hp] at hsn
      generalize xs[p]?.getD 0 = y at hx hsn
      unfold bv at hx
      have t3 : (0 : Int) ≤ (p : Int) := by omega
      have t4 : (p : Int) < (n : Int) := by omega
      have t5 : ((n : Int) == 0) = false := beq_eq_false_iff_ne.2 (by omega)
      have t6 : ¬ n = 0 := by omega
      have t7 : ¬ (n : Int) = 0 := by omega
      have hgl := b1.lt
      have hbl := World.block_lt_of_cell? wr _ hx
      have hm1 : i + 1 ≤ maxLen := by unfold maxLen; omega
      have hm2 : (i + 1) * 1 ≤ 140737488355328 := by omega
      have hsW : w2.heap.size ≤ wr.heap.size := hbw.size
      have t1 : IntKind.i64.wrap ((f : Int) + (i : Int)) = (f : Int) + (i : Int) := IntWalk.i64_in _ (by omega)
      have t2 : ((f : Int) + (i : Int)).tmod (n : Int) = (p : Int) := by rw [Int.tmod_eq_emod_of_nonneg (by omega), hp, ← Int.natCast_add, ← Int.natCast_emod]
      have HS := Lib.hid hsn
      clear hsn hp
      go_wp2_with fail
      go_region_held3 (fun w' => w'.cell? ⟨w.heap.size, 0, none⟩ = some (.slice (some ⟨b, off, none⟩) n c) ∧ w'.cell? ⟨w.heap.size, 1, none⟩ = some (.int .i64 (f : Int)) ∧ w'.cell? ⟨b, off + p, none⟩ = some (.int .u8 (y.toNat : Int)))
        (first | (refine ⟨grown_up hgrow ?_ ?_, grown_up hgrow ?_ ?_, grown_up hgrow ?_ ?_⟩ <;> (first | (intro e; have := (hown.lt _ e).1; simp only at this; omega) | go_keep)) | go_keep)
        ((refine step_append_lies _ (by rfl) _ _ _ (by rfl) w2.heap.size 5 i0 _ 1 1 Try.underlying22 hi0 hz0 hz1 hz2 rfl (by decide) (.slice A i c') i ((dat xs f i).map bv) (by rfl) ((hown.alloc _).drew) ⟨wr.heap.size, 0, none⟩ 1 1 [.int .u8 (y.toNat : Int)] (by rfl) (by rfl) (World.news_of_block (cs := #[.int .u8 (y.toNat : Int)]) (t := 5) (fr := (0, 0)) (heap_alloc_new wr _)) (by simp [Value.oneCell']) (by decide) hm1 hm2 (by simp; omega) (wr.heap.size + 1) (by simp) ?_; intro gg cap w1 hown1 hgrow hat hlt1))
      go_wp2
      clear t1 t2 t5 t7
      have hbn : Below w2.heap.size w2 w1 := (hbw.alloc hsW _).drew.grown hgrow (by simp; omega) (fun k e => (hown.lt k e).1)
      exact ⟨⟨i + 1, some ⟨gg, 0, none⟩, cap, by go_num, by omega, rfl, by rw [HS.out]; simpa [bv] using hown1, hbn⟩, by simp [intOf]; omega⟩
    · obtain rfl : i = m := by omega
      have hdl := dat_length xs f i (by have := HX.out; omega) (by have := HX.out; omega)
      have hcv := conv_any wr wr.heap.size c' A (dat xs f i) (Bs.of_own hown)
      rw [hdl] at hcv
      have HD := Lib.hid hdl
      clear hdl
      go_wp2
      go_ret
      exact ⟨rfl, hw⟩

theorem rdata_any (A : Option Addr) (c : Nat) (f m : Int) (xs : List UInt8) (w : World) (hB : Bs w w.heap.size A xs) :
    Calls Try.prog 12 #[rv A xs.length c f m] w (StrEnds (datB xs f m) w) := by
  cases hok : okB xs.length f m with
  | false =>
    have e : datB xs f m = [] := by simp [datB, hok]
    rw [e]
    exact rdat_no A c f m xs w hok
  | true =>
    have e : datB xs f m = dat xs f.toNat m.toNat := by simp [datB, hok]
    rw [e]
    have hh := okB_true hok
    obtain ⟨b, off, rfl, hb, hcell⟩ := hB (by omega)
    obtain ⟨f', rfl⟩ := Int.eq_ofNat_of_zero_le hh.2.2.1
    obtain ⟨m', rfl⟩ := Int.eq_ofNat_of_zero_le hh.2.2.2.2.1
    simp only [Int.toNat_natCast]
    exact rdat_yes b off xs.length c f' m' xs w (Lib.hid rfl) (by omega) (by omega) (by omega) hb hcell

end Go.Proofs.Ytbjjolfefegcbaa
