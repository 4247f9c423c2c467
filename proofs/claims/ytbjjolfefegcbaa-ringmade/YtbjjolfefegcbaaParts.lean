/-
  The iterator that ring.parts hands back: it gives two parts of the buffer, one after the other, to whatever loop body keeps its three captured variables.
-/
import Derived.Test.YtbjjolfefegcbaaRing1
import Derived.RangeFuncNested
import Derived.RangeFuncBound
import Derived.RangeFuncCalls
import Derived.RangeFuncLeaves
import Derived.Shelf.Abstract
import Derived.Shelf.RegionOpen
import Derived.OwnWalkIn
import Derived.TacticsInMore
import Derived.LoopNIn
import Derived.LoopIn
namespace Go.Proofs.Ytbjjolfefegcbaa
open Go.RowKit Go.Shelf

attribute [local go_sem] Oper.semAt_some

/-- the blocks from lo to lo + 2 lie as they lay -/
def Kp3 (lo : Nat) (W W' : World) : Prop := ∀ g, lo ≤ g → g < lo + 3 → W'.heap[g]? = W.heap[g]?
theorem Kp3.refl (lo : Nat) (W : World) : Kp3 lo W W := fun _ _ _ => rfl
theorem kp3_t {lo : Nat} {A B C : World} (h : Kp3 lo A B) (k : Kp3 lo B C) : Kp3 lo A C := fun g h1 h2 => (k g h1 h2).trans (h g h1 h2)
theorem kp3_b {lo : Nat} {w : World} (hn : lo + 3 ≤ w.heap.size) (W : World) (l : Nat) (o o' : Obj) (hl : w.heap.size ≤ l) (_ : W.heap[l]? = some o) (_ : o.isCells = false) (_ : o.isWalk = false) : Kp3 lo W (W.putObj l o') :=
  fun _ _ h2 => World.putObj_heap_other (by omega)
theorem Kp3.box {lo g : Nat} {W W' : World} {t : TypeId} {cs : Array Value} (h : Kp3 lo W W') (hb : Box W g t cs) (h1 : lo ≤ g) (h2 : g < lo + 3) : Box W' g t cs := (h g h1 h2).trans hb

set_option maxRecDepth 100000 in
set_option maxHeartbeats 1000000 in
/-- where the first part is all -/
theorem parts_one (N lo b off n c f k : Nat) (w : World) (h1N : 1 ≤ N) (hN : n ≤ 4096) (hc : n ≤ c) (hf : f < n) 
    (b0 : Box w lo 22 #[.slice (some ⟨b, off, none⟩) n c]) (b1 : Box w (lo + 1) 3 #[.int .i64 (f : Int)]) (b2 : Box w (lo + 2) 3 #[.int .i64 (k : Int)]) (hle : k ≤ n - f) :
    SeqStopsK Fence.wide N Try.prog 29 #[.pointer (some ⟨lo + 2, 0, none⟩), .pointer (some ⟨lo, 0, none⟩), .pointer (some ⟨lo + 1, 0, none⟩)]
      (fun x : Pc n => #[Value.slice (some ⟨b, off + x.1.1, none⟩) x.1.2 (c - x.1.1)]) (Kp3 lo) (fun xs => xs = [⟨(f, k), by simp only; omega⟩, ⟨(0, 0), by simp⟩]) (fun _ => True) 2 w := fun l J Jx W hW _ _ hY h0 => by
  have b0' := b0.up hW
  have b1' := b1.up hW
  have b2' := b2.up hW
  have p0 := b0'.c 0 rfl
  have p1 := b1'.c 0 rfl
  have p2 := b2'.c 0 rfl
  simp only [List.getElem_toArray, List.getElem_cons_zero] at p0 p1 p2
  refine callsIn_of_wp Try.func29 rfl trivial ?_ rfl
  simp only [Try.ntmps29, List.size_toArray, List.length_cons, List.length_nil, Nat.reduceAdd, Nat.reduceSub, Array.replicate_succ, Array.replicate_zero, List.push_toArray, List.append_toArray, List.nil_append, List.cons_append]
  obtain ⟨f1, t1, a1, d1, hy1, hR1⟩ := hY [] ⟨(f, k), by simp only; omega⟩ W h0 (by simp)
  dsimp only at hy1
  gi_wp2
  refine hR1.mono ?_
  rintro e W3 (⟨rfl, hJ3, hk3⟩ | ⟨rfl, hJx3⟩)
  · have q0 := (hk3.box b0' (Nat.le_refl _) (by omega)).c 0 rfl
    have q1 := (hk3.box b1' (by omega) (by omega)).c 0 rfl
    have q2 := (hk3.box b2' (by omega) (by omega)).c 0 rfl
    simp only [List.getElem_toArray, List.getElem_cons_zero] at q0 q1 q2
    obtain ⟨f2, t2, a2, d2, hy2, hR2⟩ := hY _ ⟨(0, 0), by simp⟩ W3 hJ3 (by simp)
    dsimp only at hy2
    simp only [Nat.add_zero, Nat.sub_zero] at hy2
    gi_wp2
    refine hR2.mono ?_
    rintro e W4 (⟨rfl, hJ4, hk4⟩ | ⟨rfl, hJx4⟩)
    · gi_wp2
      go_end0
      exact ⟨⟨_, rfl⟩, .inl ⟨_, rfl, hJ4⟩⟩
    · gi_wp2
      go_end0
      exact ⟨⟨_, rfl⟩, .inr ⟨_, trivial, hJx4⟩⟩
  · gi_wp2
    go_end0
    exact ⟨⟨_, rfl⟩, .inr ⟨_, trivial, hJx3⟩⟩

set_option maxRecDepth 100000 in
set_option maxHeartbeats 1000000 in
/-- where the first part reaches to the end of the buffer, and the second goes on at its beginning -/
theorem parts_two (N lo b off n c f k : Nat) (w : World) (h1N : 1 ≤ N) (hN : n ≤ 4096) (hc : n ≤ c) (hf : f < n) (hk : k ≤ n)
    (b0 : Box w lo 22 #[.slice (some ⟨b, off, none⟩) n c]) (b1 : Box w (lo + 1) 3 #[.int .i64 (f : Int)]) (b2 : Box w (lo + 2) 3 #[.int .i64 (k : Int)]) (hle : n - f < k) :
    SeqStopsK Fence.wide N Try.prog 29 #[.pointer (some ⟨lo + 2, 0, none⟩), .pointer (some ⟨lo, 0, none⟩), .pointer (some ⟨lo + 1, 0, none⟩)]
      (fun x : Pc n => #[Value.slice (some ⟨b, off + x.1.1, none⟩) x.1.2 (c - x.1.1)]) (Kp3 lo) (fun xs => xs = [⟨(f, n - f), by simp only; omega⟩, ⟨(0, k - (n - f)), by simp only; omega⟩]) (fun _ => True) 2 w := fun l J Jx W hW _ _ hY h0 => by
  have b0' := b0.up hW
  have b1' := b1.up hW
  have b2' := b2.up hW
  have p0 := b0'.c 0 rfl
  have p1 := b1'.c 0 rfl
  have p2 := b2'.c 0 rfl
  simp only [List.getElem_toArray, List.getElem_cons_zero] at p0 p1 p2
  refine callsIn_of_wp Try.func29 rfl trivial ?_ rfl
  simp only [Try.ntmps29, List.size_toArray, List.length_cons, List.length_nil, Nat.reduceAdd, Nat.reduceSub, Array.replicate_succ, Array.replicate_zero, List.push_toArray, List.append_toArray, List.nil_append, List.cons_append]
  obtain ⟨f1, t1, a1, d1, hy1, hR1⟩ := hY [] ⟨(f, n - f), by simp only; omega⟩ W h0 (by simp)
  dsimp only at hy1
  gi_wp2
  refine hR1.mono ?_
  rintro e W3 (⟨rfl, hJ3, hk3⟩ | ⟨rfl, hJx3⟩)
  · have q0 := (hk3.box b0' (Nat.le_refl _) (by omega)).c 0 rfl
    have q1 := (hk3.box b1' (by omega) (by omega)).c 0 rfl
    have q2 := (hk3.box b2' (by omega) (by omega)).c 0 rfl
    simp only [List.getElem_toArray, List.getElem_cons_zero] at q0 q1 q2
    obtain ⟨f2, t2, a2, d2, hy2, hR2⟩ := hY _ ⟨(0, k - (n - f)), by simp only; omega⟩ W3 hJ3 (by simp)
    dsimp only at hy2
    simp only [Nat.add_zero, Nat.sub_zero] at hy2
    have et : ((k : Int) - ((n : Int) - (f : Int))).toNat = k - (n - f) := by omega
    gi_wp2
    refine hR2.mono ?_
    rintro e W4 (⟨rfl, hJ4, hk4⟩ | ⟨rfl, hJx4⟩)
    · gi_wp2
      go_end0
      exact ⟨⟨_, rfl⟩, .inl ⟨_, rfl, hJ4⟩⟩
    · gi_wp2
      go_end0
      exact ⟨⟨_, rfl⟩, .inr ⟨_, trivial, hJx4⟩⟩
  · gi_wp2
    go_end0
    exact ⟨⟨_, rfl⟩, .inr ⟨_, trivial, hJx3⟩⟩

/-- what ring.parts's iterator gives: two parts -/
theorem parts_stops (N lo b off n c f k : Nat) (w : World) (h1N : 1 ≤ N) (hN : n ≤ 4096) (hc : n ≤ c) (hf : f < n) (hk : k ≤ n)
    (b0 : Box w lo 22 #[.slice (some ⟨b, off, none⟩) n c]) (b1 : Box w (lo + 1) 3 #[.int .i64 (f : Int)]) (b2 : Box w (lo + 2) 3 #[.int .i64 (k : Int)]) :
    SeqStopsK Fence.wide N Try.prog 29 #[.pointer (some ⟨lo + 2, 0, none⟩), .pointer (some ⟨lo, 0, none⟩), .pointer (some ⟨lo + 1, 0, none⟩)]
      (fun x : Pc n => #[Value.slice (some ⟨b, off + x.1.1, none⟩) x.1.2 (c - x.1.1)]) (Kp3 lo) (fun xs => xs.map (fun x => x.1) = [(f, min k (n - f)), (0, k - min k (n - f))]) (fun _ => True) 2 w := fun l J Jx W hW hJ hJx hY h0 => by
  by_cases h : k ≤ n - f
  · refine (parts_one N lo b off n c f k w h1N hN hc hf b0 b1 b2 h l J Jx W hW hJ hJx hY h0).mono ?_
    rintro e W' ⟨he, ⟨xs, rfl, hj⟩ | hx⟩
    · exact ⟨he, .inl ⟨_, by simp [Nat.min_eq_left h], hj⟩⟩
    · exact ⟨he, .inr hx⟩
  · refine (parts_two N lo b off n c f k w h1N hN hc hf hk b0 b1 b2 (by omega) l J Jx W hW hJ hJx hY h0).mono ?_
    rintro e W' ⟨he, ⟨xs, rfl, hj⟩ | hx⟩
    · exact ⟨he, .inl ⟨_, by simp [Nat.min_eq_right (show n - f ≤ k by omega)], hj⟩⟩
    · exact ⟨he, .inr hx⟩

end Go.Proofs.Ytbjjolfefegcbaa
