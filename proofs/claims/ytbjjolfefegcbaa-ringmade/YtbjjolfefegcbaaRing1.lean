/-
  The walks of ring.New, slices.Clone and ring.own: what each call hands back, and that nothing old is turned.
-/
import Derived.Test.YtbjjolfefegcbaaWords
import Derived.Maps.AppendAt
import Derived.Deep.OwnRows
import Derived.Laws.OwnMore
import Derived.Lib.SliceRun
import Derived.Lib.Hide
namespace Go.Proofs.Ytbjjolfefegcbaa
open Go.RowKit

theorem info5 : (Try.prog.info? 5).map (fun i => (i.zero, i.size, i.bytes)) = some (some (.int .u8 0), 1, 1) := by kernel_rfl

theorem Bs.of_block {w : World} {g : Nat} {t : TypeId} {cur : Array Value} (h : w.heap[g]? = some (.cells cur t (0, 0))) (xs : List UInt8) (hx : cur.toList.take xs.length = xs.map bv) : Bs w w.heap.size (some ⟨g, 0, none⟩) xs := by
  intro _
  refine ⟨g, 0, rfl, (Array.getElem?_eq_some_iff.1 h).1, fun j hj => ?_⟩
  rw [cell_of_row w g (0 + j) cur t (0, 0) h, Nat.zero_add]
  have := congrArg (fun l => l[j]?) hx
  simp only [List.getElem?_take, if_pos hj, List.getElem?_map, Array.getElem?_toList] at this
  rw [this, List.getElem?_eq_getElem hj]
  rfl

theorem Bs.of_own {w : World} {base c n : Nat} {A : Option Addr} {xs : List UInt8} (h : w.ownsRow base 5 1 (.slice A n c) n (xs.map bv)) : Bs w w.heap.size A xs := by
  intro hx
  rcases h.2 with ⟨_, rfl⟩ | ⟨g, cap, cur, he, _, hh, _, _, _, ht⟩
  · have := h.1; simp at this; subst this; simp at hx
  · have hn : n = xs.length := by have := h.1; simp at this; omega
    injection he with hA
    subst hA
    exact Bs.of_block hh xs (by rw [← ht, hn, Nat.mul_one]) hx

set_option maxHeartbeats 400000 in
theorem new_no (room : Int) (w : World) (h : okRoom room = false) :
    Calls Try.prog 9 #[.int .i64 room] w fun e w' => e = .returned (rv none 0 0 0 0) ∧ Below w.heap.size w w' := by
  have h' : room < 1 ∨ 1 ≤ room ∧ 4096 < room := by simp [okRoom] at h; omega
  clear h
  rcases h' with h1 | ⟨h1, h2⟩
  all_goals
    go_enter Try.func9, Try.ntmps9
    go_wp2
    exact bodyPost_ret (v := .agg #[.slice none 0 0, .int .i64 0, .int .i64 0]) (by simp [results, Try.results9, go_sem]) rfl ⟨rfl, (Below.refl _ _).alloc (Nat.le_refl _) _⟩

set_option maxHeartbeats 400000 in
theorem new_yes (room : Nat) (w : World) (h1 : 1 ≤ room) (h2 : room ≤ 4096) :
    Calls Try.prog 9 #[.int .i64 (room : Int)] w fun e w' => e = .returned (rv (some ⟨w.heap.size + 1, 0, none⟩) room room 0 0) ∧ Below w.heap.size w w' ∧ Bs w' w'.heap.size (some ⟨w.heap.size + 1, 0, none⟩) (List.replicate room 0) := by
  have hmk := fun W => run_make_row' (P := Try.prog) 22 5 (.int .u8 0) 1 Try.underlying22 info5 rfl .i64 .i64 room (by omega) (by omega) W
  go_enter Try.func9, Try.ntmps9
  go_wp2
  refine bodyPost_ret (v := rv (some ⟨w.heap.size + 1, 0, none⟩) room room 0 0) (by simp [results, Try.results9, go_sem]) rfl ⟨rfl, ((Below.refl _ _).alloc (Nat.le_refl _) _).alloc (by simp) _, ?_⟩
  have h := heap_alloc_new (w.alloc (.cells #[.slice (some ⟨w.heap.size + 1, 0, none⟩) room room, .int .i64 0, .int .i64 0] 24)) (.cells (madeCells #[.int .u8 0] room) 5)
  rw [World.size_alloc] at h
  exact Bs.of_block h _ (by rw [toList_madeCells_one]; simp [bv])

set_option maxHeartbeats 400000 in
theorem clone_nil (w : World) : Calls Try.prog 28 #[.slice none 0 0] w fun e w' => e = .returned (.slice none 0 0) ∧ w = w' := by
  have he := fun W => Lib.run_eql_slice_nil (P := Try.prog) W 22 5 none 0 0 0 0 Try.underlying22
  go_enter Try.func28, Try.ntmps28
  go_wp2
  go_ret
  exact ⟨rfl, rfl⟩

theorem Bs.add {w : World} {B : Nat} {ad : Addr} {xs : List UInt8} (h : Bs w B (some ad) xs) : ∀ j u, (xs.map bv)[j]? = some u → w.cell? (ad.add j) = some u := by
  intro j u hu
  have hj : j < xs.length := by
    have := (List.getElem?_eq_some_iff.1 hu).1
    simpa using this
  obtain ⟨b, o, he, _, hc⟩ := h (by omega)
  injection he with he
  subst he
  have hx : u = bv (xs[j]?.getD 0) := by
    simp [List.getElem?_eq_getElem hj] at hu
    simp [List.getElem?_eq_getElem hj, hu]
  rw [hx, ← hc j hj]
  unfold Addr.add
  split <;> simp_all

theorem oneCell_bv (xs : List UInt8) : ∀ u ∈ xs.map bv, u.oneCell' = true := by
  intro u hu
  obtain ⟨x, _, rfl⟩ := List.mem_map.1 hu
  rfl

set_option maxHeartbeats 400000 in
theorem clone_some (ad : Addr) (n c : Nat) (xs : List UInt8) (w : World) (hn : xs.length = n) (hb : n ≤ 100000000) (hB : Bs w w.heap.size (some ad) xs) :
    Calls Try.prog 28 #[.slice (some ad) n c] w fun e w' => ∃ v, e = .returned v ∧ w'.ownsRow w.heap.size 5 1 v n (xs.map bv) ∧ Below w.heap.size w w' := by
  obtain ⟨i0, hi, hz0, hz1, hz2⟩ := info_parts info5
  have he := fun W => Lib.run_eql_slice_nil (P := Try.prog) W 22 5 (some ad) n c 0 0 Try.underlying22
  have hm : n ≤ maxLen := by unfold maxLen; omega
  have HN := Lib.hid hn
  clear hn
  go_enter Try.func28, Try.ntmps28
  go_wp2_with (at_builtin; refine wpList_append_own _ rfl _ _ 22 rfl w.heap.size 5 i0 (.int .u8 0) 1 1 Try.underlying22 hi hz0 hz1 hz2 rfl (by decide) _ 0 [] rfl (World.ownsRow_made w #[] 0 (Nat.le_refl _) (Nat.zero_le _) rfl) ad n c (xs.map bv) rfl ?hl ?hnews (oneCell_bv xs) ?h63 ?hbytes ?hbase ?_; rotate_right; intro v' w1 hown hgrow _)
  case hl => simp [HN.out]
  case hnews => exact (hB.alloc (Nat.le_refl _) _).add
  case h63 => simpa using hm
  case hbytes => omega
  case hbase => simp
  go_ret
  refine ⟨_, rfl, ?_, ?_⟩
  · simpa using hown
  · exact ((Below.refl _ _).alloc (Nat.le_refl _) _).grown hgrow (by simp) (fun k hk => by have h : some w.heap.size = some k := hk; injection h with h; omega)

theorem ownsRow_slice {w : World} {base n : Nat} {v : Value} {ys : List Value} (h : w.ownsRow base 5 1 v n ys) : ∃ A c, v = .slice A n c ∧ (A = none → c = 0) := by
  rcases h.2 with ⟨rfl, rfl⟩ | ⟨g, cap, cur, rfl, _⟩
  · exact ⟨none, 0, rfl, fun _ => rfl⟩
  · exact ⟨_, cap, rfl, fun h => by cases h⟩

/-- what own and Clone hand back: a slice of the call's own, that holds the bytes xs -/
def OwnSl (w : World) (base : Nat) (A : Option Addr) (c : Nat) (xs : List UInt8) : Prop := (A = none → c = 0) ∧ w.ownsRow base 5 1 (.slice A xs.length c) xs.length (xs.map bv)

theorem OwnSl.mono {w : World} {B B' c : Nat} {A : Option Addr} {xs : List UInt8} (h : OwnSl w B A c xs) (hB : B' ≤ B) : OwnSl w B' A c xs := by
  refine ⟨h.1, h.2.1, ?_⟩
  rcases h.2.2 with h | ⟨g, cap, cur, h1, h2, h3⟩
  · exact .inl h
  · exact .inr ⟨g, cap, cur, h1, by omega, h3⟩
theorem OwnSl.setCell {w : World} {B c : Nat} {A : Option Addr} {xs : List UInt8} (h : OwnSl w B A c xs) {p : Addr} (hp : p.block < B) (u : Value) : OwnSl (w.setCell p u) B A c xs :=
  ⟨h.1, ownsRow_setCell_below h.2 hp u⟩
theorem OwnSl.bs {w : World} {B c : Nat} {A : Option Addr} {xs : List UInt8} (h : OwnSl w B A c xs) : Bs w w.heap.size A xs := Bs.of_own h.2

def CloneEnds (xs : List UInt8) (w : World) (e : Ending) (w' : World) : Prop := ∃ A c, e = .returned (.slice A xs.length c) ∧ OwnSl w' w.heap.size A c xs ∧ Below w.heap.size w w'

theorem clone_any (A : Option Addr) (c : Nat) (xs : List UInt8) (w : World) (hA : A = none → c = 0) (hb : xs.length ≤ 100000000) (hB : Bs w w.heap.size A xs) :
    Calls Try.prog 28 #[.slice A xs.length c] w (CloneEnds xs w) := by
  cases A with
  | none =>
    have hx : xs = [] := by
      rcases Nat.eq_zero_or_pos xs.length with h | h
      · exact List.eq_nil_of_length_eq_zero h
      · obtain ⟨b, o, h', _⟩ := hB h
        cases h'
    subst hx
    rw [hA rfl]
    refine (clone_nil w).mono ?_
    rintro e w' ⟨rfl, rfl⟩
    exact ⟨none, 0, rfl, ⟨fun _ => rfl, World.ownsRow_nil _ _ _ _⟩, Below.refl _ _⟩
  | some ad =>
    refine (clone_some ad xs.length c xs w rfl hb hB).mono ?_
    rintro e w' ⟨v, rfl, ho, hbl⟩
    obtain ⟨A', c', rfl, h0⟩ := ownsRow_slice ho
    exact ⟨A', c', rfl, ⟨h0, ho⟩, hbl⟩

def OwnEnds (xs : List UInt8) (f m : Int) (w : World) (e : Ending) (w' : World) : Prop := ∃ A c, e = .returned (rv A xs.length c f m) ∧ OwnSl w' w.heap.size A c xs ∧ Below w.heap.size w w'

set_option maxHeartbeats 400000 in
theorem own_any (A : Option Addr) (c : Nat) (f m : Int) (xs : List UInt8) (w : World) (hA : A = none → c = 0) (hb : xs.length ≤ 100000000) (hB : Bs w w.heap.size A xs) :
    Calls Try.prog 22 #[rv A xs.length c f m] w (OwnEnds xs f m w) := by
  have HA := Lib.hid hA
  clear hA
  go_enter Try.func22, Try.ntmps22
  go_wp2_with fail
  refine (clone_any A c xs _ HA.out hb (hB.up (ba2 _ _ _))).mono ?_
  rintro e w1 ⟨A', c', rfl, ho, hbl⟩
  have b0 := ((Box.new w 24 #[.slice A xs.length c, .int .i64 f, .int .i64 m]).alloc (.cells #[.slice none 0 0, .int .i64 0, .int .i64 0] 24)).up hbl
  have b1 := (Box.new (w.alloc (.cells #[.slice A xs.length c, .int .i64 f, .int .i64 m] 24)) 24 #[.slice none 0 0, .int .i64 0, .int .i64 0]).up hbl
  simp only [World.size_alloc] at b1
  obtain ⟨⟨c0, c1, c2⟩, f0, f1, f2⟩ := b0.three
  obtain ⟨⟨d0, d1, d2⟩, e0, e1, e2⟩ := b1.three
  clear b0 b1
  go_wp2
  have hsz := hbl.size
  simp only [World.size_alloc] at hsz
  refine bodyPost_ret (v := rv A' xs.length c' f m) (by simp [results, Try.results22, go_sem, d0, d1, d2]) rfl ⟨A', c', rfl, ?_, ?_⟩
  · exact (ho.setCell (by simp <;> omega) _).setCell (by simp <;> omega) _ |>.setCell (by simp <;> omega) _ |>.setCell (by simp <;> omega) _ |>.mono (by simp; omega)
  · exact (((bon (ba2 _ _ _) hbl).setCell (p := ⟨w.heap.size, 0, none⟩) (Nat.le_refl _) _).setCell (p := ⟨w.heap.size + 1, 0, none⟩) (by simp) _).setCell (p := ⟨w.heap.size + 1, 1, none⟩) (by simp) _ |>.setCell (p := ⟨w.heap.size + 1, 2, none⟩) (by simp) _
end Go.Proofs.Ytbjjolfefegcbaa
