/-
  The walks of the document's own answers Right, New and own (lockageref01): they come to what ring's do.
-/
import Derived.Test.YtbjjolfefegcbaaPop2
namespace Go.Proofs.Ytbjjolfefegcbaa
open Go.RowKit

set_option maxHeartbeats 400000 in
theorem rright_any (A : Option Addr) (n c : Nat) (f m : Int) (w : World) :
    Calls Try.prog 20 #[.agg #[.slice A n c, .int .i64 f, .int .i64 m]] w fun e w' => e = .returned (.bool (okB n f m)) ∧ Below w.heap.size w w' := by
  go_enter Try.func20, Try.ntmps20
  go_wp2
  all_goals
    go_ret
    exact ⟨ret_bool (by rw [Bool.eq_iff_iff]; simp [okB]; omega), (Below.refl _ _).alloc (Nat.le_refl _) _⟩

set_option maxHeartbeats 400000 in
theorem rnew_no (room : Int) (w : World) (h : okRoom room = false) :
    Calls Try.prog 10 #[.int .i64 room] w fun e w' => e = .returned (rv none 0 0 0 0) ∧ Below w.heap.size w w' := by
  have h' : room < 1 ∨ 1 ≤ room ∧ 4096 < room := by simp [okRoom] at h; omega
  clear h
  rcases h' with h1 | ⟨h1, h2⟩
  all_goals
    go_enter Try.func10, Try.ntmps10
    go_wp2
    exact bodyPost_ret (v := .agg #[.slice none 0 0, .int .i64 0, .int .i64 0]) (by simp [results, Try.results10, go_sem]) rfl ⟨rfl, (Below.refl _ _).alloc (Nat.le_refl _) _⟩

set_option maxHeartbeats 400000 in
theorem rnew_yes (room : Nat) (w : World) (h1 : 1 ≤ room) (h2 : room ≤ 4096) :
    Calls Try.prog 10 #[.int .i64 (room : Int)] w fun e w' => e = .returned (rv (some ⟨w.heap.size + 1, 0, none⟩) room room 0 0) ∧ Below w.heap.size w w' ∧ Bs w' w'.heap.size (some ⟨w.heap.size + 1, 0, none⟩) (List.replicate room 0) := by
  have hmk := fun W => run_make_row' (P := Try.prog) 22 5 (.int .u8 0) 1 Try.underlying22 info5 rfl .i64 .i64 room (by omega) (by omega) W
  go_enter Try.func10, Try.ntmps10
  go_wp2
  refine bodyPost_ret (v := rv (some ⟨w.heap.size + 1, 0, none⟩) room room 0 0) (by simp [results, Try.results10, go_sem]) rfl ⟨rfl, ((Below.refl _ _).alloc (Nat.le_refl _) _).alloc (by simp) _, ?_⟩
  have h := heap_alloc_new (w.alloc (.cells #[.slice (some ⟨w.heap.size + 1, 0, none⟩) room room, .int .i64 0, .int .i64 0] 24)) (.cells (madeCells #[.int .u8 0] room) 5)
  rw [World.size_alloc] at h
  exact Bs.of_block h _ (by rw [toList_madeCells_one]; simp [bv])

theorem append_nil_nil (W : World) : (Builtin.append_ #[22, 22] 22 #[.slice none 0 0, .slice none 0 0]).run Try.prog W = .ok (.slice none 0 0) W := by kernel_rfl

set_option maxHeartbeats 400000 in
theorem rown_nil (f m : Int) (w : World) : Calls Try.prog 27 #[rv none 0 0 f m] w (OwnEnds [] f m w) := by
  have h := append_nil_nil
  go_enter Try.func27, Try.ntmps27
  go_wp2
  refine bodyPost_ret (v := rv none 0 0 f m) (by simp [results, Try.results27, go_sem]) rfl ⟨none, 0, rfl, ⟨fun _ => rfl, World.ownsRow_nil _ _ _ _⟩, ba2 _ _ _⟩

theorem two_boxes {w w1 : World} {x y z x' y' z' : Value} (hg : ((w.alloc (.cells #[x, y, z] 24)).alloc (.cells #[x', y', z'] 24)).grownBy w1 none) :
    ((w1.cell? ⟨w.heap.size, 0, none⟩ = some x ∧ w1.cell? ⟨w.heap.size, 1, none⟩ = some y ∧ w1.cell? ⟨w.heap.size, 2, none⟩ = some z) ∧ w1.frozen? ⟨w.heap.size, 0, none⟩ = false ∧ w1.frozen? ⟨w.heap.size, 1, none⟩ = false ∧ w1.frozen? ⟨w.heap.size, 2, none⟩ = false) ∧
    ((w1.cell? ⟨w.heap.size + 1, 0, none⟩ = some x' ∧ w1.cell? ⟨w.heap.size + 1, 1, none⟩ = some y' ∧ w1.cell? ⟨w.heap.size + 1, 2, none⟩ = some z') ∧ w1.frozen? ⟨w.heap.size + 1, 0, none⟩ = false ∧ w1.frozen? ⟨w.heap.size + 1, 1, none⟩ = false ∧ w1.frozen? ⟨w.heap.size + 1, 2, none⟩ = false) ∧
    Below ((w.alloc (.cells #[x, y, z] 24)).alloc (.cells #[x', y', z'] 24)).heap.size ((w.alloc (.cells #[x, y, z] 24)).alloc (.cells #[x', y', z'] 24)) w1 := by
  have hb : Below ((w.alloc (.cells #[x, y, z] 24)).alloc (.cells #[x', y', z'] 24)).heap.size ((w.alloc (.cells #[x, y, z] 24)).alloc (.cells #[x', y', z'] 24)) w1 := ⟨hg.os, hg.tape, hg.output, hg.size, fun k hk => hg.block k hk (by simp)⟩
  exact ⟨(((Box.mk' w 24 #[x, y, z] _ rfl).alloc _).up hb).three, ((Box.mk' (w.alloc (.cells #[x, y, z] 24)) 24 #[x', y', z'] (w.heap.size + 1) (by simp)).up hb).three, hb⟩

set_option maxHeartbeats 400000 in
theorem rown_some (ad : Addr) (c : Nat) (f m : Int) (xs : List UInt8) (w : World) (hb : xs.length ≤ 100000000) (hB : Bs w w.heap.size (some ad) xs) :
    Calls Try.prog 27 #[rv (some ad) xs.length c f m] w (OwnEnds xs f m w) := by
  obtain ⟨i0, hi, hz0, hz1, hz2⟩ := info_parts info5
  have hm : xs.length ≤ maxLen := by unfold maxLen; omega
  go_enter Try.func27, Try.ntmps27
  go_wp2_with (at_builtin; refine wpList_append_own _ rfl _ _ 22 rfl (w.heap.size + 1 + 1) 5 i0 (.int .u8 0) 1 1 Try.underlying22 hi hz0 hz1 hz2 rfl (by decide) _ 0 [] rfl (World.ownsRow_nil _ _ _ _) ad xs.length c (xs.map bv) rfl ?hl ?hnews (oneCell_bv xs) ?h63 ?hbytes ?hbase ?_; rotate_right; intro v' w1 hown hgrow _; obtain ⟨A', c', rfl, h0⟩ := ownsRow_slice hown; obtain ⟨⟨⟨c0, c1, c2⟩, f0, f1, f2⟩, ⟨⟨d0, d1, d2⟩, e0, e1, e2⟩, hbl⟩ := two_boxes hgrow)
  case hl => simp
  case hnews => exact (hB.up (ba2 _ _ _)).add
  case h63 => simpa using hm
  case hbytes => omega
  case hbase => simp
  have hsz := hbl.size
  simp only [World.size_alloc] at hsz
  have ho : OwnSl w1 (w.heap.size + 1 + 1) A' c' xs := by
    refine ⟨h0, ?_⟩
    simpa using hown
  refine bodyPost_ret (v := rv A' xs.length c' f m) (by simp [results, Try.results27, go_sem, d0, d1, d2]) rfl ⟨A', c', rfl, ?_, ?_⟩
  · exact (ho.setCell (by simp only; omega) _).set3 (by omega) _ _ _ |>.mono (by omega)
  · exact below_set3 ((bon (ba2 _ _ _) hbl).setCell (p := ⟨w.heap.size, 0, none⟩) (Nat.le_refl _) _) (by omega) _ _ _

theorem rown_any (A : Option Addr) (c : Nat) (f m : Int) (xs : List UInt8) (w : World) (hA : A = none → c = 0) (hb : xs.length ≤ 100000000) (hB : Bs w w.heap.size A xs) :
    Calls Try.prog 27 #[rv A xs.length c f m] w (OwnEnds xs f m w) := by
  cases A with
  | none =>
    have hx : xs = [] := by
      rcases Nat.eq_zero_or_pos xs.length with h | h
      · exact List.eq_nil_of_length_eq_zero h
      · obtain ⟨b, o, h', _⟩ := hB h
        cases h'
    subst hx
    rw [hA rfl]
    exact rown_nil f m w
  | some ad => exact rown_some ad c f m xs w hb hB

end Go.Proofs.Ytbjjolfefegcbaa
