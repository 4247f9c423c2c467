/-
  Words for slices of a call's own, and the walks of slices.Clone (at int and at bool).
-/
import Derived.Test.YtkglgbbekmljcaaWords
import Derived.Maps.AppendAt
import Derived.Deep.OwnRows
import Derived.Laws.OwnMore
import Derived.Lib.SliceRun
namespace Go.Proofs.Ytkglgbbekmljcaa
open Go.RowKit

theorem info3 : (Try.prog.info? 3).map (fun i => (i.zero, i.size, i.bytes)) = some (some (.int .i64 0), 1, 8) := by kernel_rfl
theorem info4 : (Try.prog.info? 4).map (fun i => (i.zero, i.size, i.bytes)) = some (some (.bool false), 1, 1) := by kernel_rfl

/-- a slice of the call's own: its block lies from B on, none of it frozen, and it holds vs -/
def Row (w : World) (B : Nat) (t : TypeId) (A : Option Addr) (n c : Nat) (vs : List Value) : Prop :=
  vs.length = n ∧ ((A = none ∧ n = 0 ∧ c = 0) ∨ ∃ g o cur, A = some ⟨g, o, none⟩ ∧ B ≤ g ∧ Box w g t cur ∧ n ≤ c ∧ (c = 0 ∨ cur.size = o + c) ∧ c ≤ maxLen ∧ (cur.toList.drop o).take n = vs)

section
variable {w w' : World} {B : Nat} {t : TypeId} {A : Option Addr} {n c : Nat} {vs : List Value}
theorem Row.of_own (h : w.ownsRow B t 1 (.slice A n c) n vs) : Row w B t A n c vs := by
  refine ⟨by simpa using h.1, ?_⟩
  rcases h.2 with ⟨h1, h2⟩ | ⟨g, cap, cur, h1, h2, h3, h4, h5, h6, h7⟩
  · injection h1 with a b c
    exact .inl ⟨a, b, c⟩
  · injection h1 with a b c
    subst c
    exact .inr ⟨g, 0, cur, a, h2, h3, h4, .inr (by omega), h5, by simpa using h7⟩
theorem Row.c0 (h : Row w B t A n c vs) : A = none → c = 0 := by
  rintro rfl
  rcases h.2 with h | ⟨_, _, _, h, _⟩
  · exact h.2.2
  · cases h
theorem Row.le (h : Row w B t A n c vs) : n ≤ c := by
  rcases h.2 with h | ⟨_, _, _, _, _, _, h, _⟩ <;> omega
theorem Row.mono {B' : Nat} (h : Row w B t A n c vs) (hB : B' ≤ B) : Row w B' t A n c vs := by
  refine ⟨h.1, ?_⟩
  rcases h.2 with h | ⟨g, o, cur, h1, h2, h3⟩
  · exact .inl h
  · exact .inr ⟨g, o, cur, h1, by omega, h3⟩
theorem Row.keep (h : Row w B t A n c vs) (hk : ∀ q, A = some q → w'.heap[q.block]? = w.heap[q.block]?) : Row w' B t A n c vs := by
  refine ⟨h.1, ?_⟩
  rcases h.2 with h | ⟨g, o, cur, h1, h2, h3, h4⟩
  · exact .inl h
  · exact .inr ⟨g, o, cur, h1, h2, (hk _ h1).trans h3, h4⟩
theorem Row.blk (h : Row w B t A n c vs) : ∀ q, A = some q → B ≤ q.block ∧ q.block < w.heap.size := by
  rintro q rfl
  rcases h.2 with h | ⟨g, o, cur, h1, h2, h3, h4⟩
  · cases h.1
  · injection h1 with h1
    subst h1
    exact ⟨h2, h3.lt⟩
theorem Row.up (h : Row w B t A n c vs) (hb : Below w.heap.size w w') : Row w' B t A n c vs := h.keep fun q hq => hb.block _ (h.blk q hq).2
theorem Row.alloc (h : Row w B t A n c vs) (o : Obj) : Row (w.alloc o) B t A n c vs := h.up (ba1 _ _)
theorem Row.far (h : Row w B t A n c vs) {p : Addr} (hp : ∀ q, A = some q → q.block ≠ p.block) (u : Value) : Row (w.setCell p u) B t A n c vs := h.keep fun q hq => Below.heap_setCell w p u _ (hp q hq)
theorem Row.farB (h : Row w B t A n c vs) {p : Addr} (hp : p.block < B) (u : Value) : Row (w.setCell p u) B t A n c vs := h.far (fun q hq => by have := (h.blk q hq).1; omega) u
/-- a block of another type is another block -/
theorem Row.ne (h : Row w B t A n c vs) {p : Nat} {t' : TypeId} {cs : Array Value} (hb : Box w p t' cs) (ht : t' ≠ t) : ∀ q, A = some q → q.block ≠ p := by
  rintro q rfl rfl
  rcases h.2 with h | ⟨g, o, cur, h1, h2, h3, h4⟩
  · cases h.1
  · injection h1 with h1
    subst h1
    have := (show w.heap[g]? = _ from hb).symm.trans h3
    injection this with this
    injection this with _ this
    exact ht this
theorem Row.ne2 (h : Row w B t A n c vs) {B' n' c' : Nat} {A' : Option Addr} {t' : TypeId} {vs' : List Value} (h' : Row w B' t' A' n' c' vs') (ht : t' ≠ t) : ∀ q q', A = some q → A' = some q' → q.block ≠ q'.block := by
  rintro q q' hq rfl
  rcases h'.2 with h'' | ⟨g, o, cur, h1, h2, h3, h4⟩
  · cases h''.1
  · injection h1 with h1
    subst h1
    exact h.ne h3 ht q hq
theorem Row.at (h : Row w B t A n c vs) (hn : 0 < n) : ∃ g o, A = some ⟨g, o, none⟩ ∧ B ≤ g ∧ g < w.heap.size ∧ ∀ j, j < n → w.cell? ⟨g, o + j, none⟩ = vs[j]? ∧ w.frozen? ⟨g, o + j, none⟩ = false := by
  rcases h.2 with h | ⟨g, o, cur, h1, h2, h3, h4, h5, h6, h7⟩
  · omega
  · refine ⟨g, o, h1, h2, h3.lt, fun j hj => ⟨?_, h3.f _⟩⟩
    rw [cell_of_row w g (o + j) cur t (0, 0) h3, ← h7, List.getElem?_take, if_pos hj, List.getElem?_drop, Array.getElem?_toList]
theorem Row.set {g o j : Nat} (h : Row w B t (some ⟨g, o, none⟩) n c vs) (_hj : j < n) (u : Value) : Row (w.setCell ⟨g, o + j, none⟩ u) B t (some ⟨g, o, none⟩) n c (vs.set j u) := by
  rcases h.2 with h' | ⟨g', o', cur, h1, h2, h3, h4, h5, h6, h7⟩
  · cases h'.1
  · injection h1 with h1
    simp only [Addr.mk.injEq, and_true] at h1
    obtain ⟨rfl, rfl⟩ := h1
    refine ⟨by simpa using h.1, .inr ⟨g, o, _, rfl, h2, h3.set (o + j) u, h4, h5.imp id (by simp), h6, ?_⟩⟩
    rw [Array.toList_setIfInBounds, ← h7, ← List.take_set, List.drop_set, if_neg (by omega)]
    congr 3
    omega
theorem Row.tail {g o : Nat} (h : Row w B t (some ⟨g, o, none⟩) n c vs) (hn : 0 < n) : Row w B t (some ⟨g, o + 1, none⟩) (n - 1) (c - 1) vs.tail := by
  rcases h.2 with h' | ⟨g', o', cur, h1, h2, h3, h4, h5, h6, h7⟩
  · cases h'.1
  · injection h1 with h1
    simp only [Addr.mk.injEq, and_true] at h1
    obtain ⟨rfl, rfl⟩ := h1
    refine ⟨by simp [h.1], .inr ⟨g, o + 1, cur, rfl, h2, h3, by omega, by omega, by omega, ?_⟩⟩
    rw [← h7, ← List.drop_one, ← List.drop_drop, List.drop_take]
theorem Row.tail0 {g o : Nat} (h : Row w B t (some ⟨g, o, none⟩) n 1 vs) (hn : 0 < n) : Row w B t (some ⟨g, o, none⟩) (n - 1) 0 vs.tail := by
  rcases h.2 with h' | ⟨g', o', cur, h1, h2, h3, h4, h5, h6, h7⟩
  · cases h'.1
  · have hn1 : n = 1 := by omega
    subst hn1
    injection h1 with h1
    simp only [Addr.mk.injEq, and_true] at h1
    obtain ⟨rfl, rfl⟩ := h1
    have := h.1
    refine ⟨by simp [h.1], .inr ⟨g, o, cur, rfl, h2, h3, by omega, .inl rfl, by unfold maxLen; omega, ?_⟩⟩
    obtain ⟨x, rfl⟩ := List.length_eq_one_iff.1 this
    simp
theorem Row.reads {α : Type} {f : α → Value} {d : α} {xs : List α} (h : Row w B t A n c (xs.map f)) : Vs f d w A xs := by
  intro hx
  have hn : n = xs.length := by have := h.1; simp at this; omega
  obtain ⟨g, o, h1, _, h3, h4⟩ := h.at (by omega)
  refine ⟨g, o, h1, h3, fun j hj => ?_⟩
  rw [(h4 j (by omega)).1]
  simp [List.getElem?_eq_getElem hj]
end

theorem Vs.add {α : Type} {f : α → Value} {d : α} {w : World} {ad : Addr} {xs : List α} (h : Vs f d w (some ad) xs) : ∀ j u, (xs.map f)[j]? = some u → w.cell? (ad.add j) = some u := by
  intro j u hu
  have hj : j < xs.length := by
    have := (List.getElem?_eq_some_iff.1 hu).1
    simpa using this
  obtain ⟨b, o, he, _, hc⟩ := h (by omega)
  injection he with he
  subst he
  have hx : u = f (xs[j]?.getD d) := by
    simp [List.getElem?_eq_getElem hj] at hu
    simp [List.getElem?_eq_getElem hj, hu]
  rw [hx, ← hc j hj]
  unfold Addr.add
  split <;> simp_all

theorem one_iv (xs : List Int) : ∀ u ∈ xs.map (Value.int .i64), u.oneCell' = true := by
  intro u hu
  obtain ⟨x, _, rfl⟩ := List.mem_map.1 hu
  rfl
theorem one_bv (xs : List Bool) : ∀ u ∈ xs.map Value.bool, u.oneCell' = true := by
  intro u hu
  obtain ⟨x, _, rfl⟩ := List.mem_map.1 hu
  rfl

theorem ownsRow_slice {w : World} {base n : Nat} {t : TypeId} {v : Value} {ys : List Value} (h : w.ownsRow base t 1 v n ys) : ∃ A c, v = .slice A n c := by
  rcases h.2 with ⟨rfl, rfl⟩ | ⟨g, cap, cur, rfl, _⟩
  · exact ⟨none, 0, rfl⟩
  · exact ⟨_, cap, rfl⟩

theorem own_keep {w w' : World} {B n : Nat} {t : TypeId} {A : Option Addr} {c : Nat} {vs : List Value} (h : w.ownsRow B t 1 (.slice A n c) n vs) (hk : ∀ q, A = some q → w'.heap[q.block]? = w.heap[q.block]?) : w'.ownsRow B t 1 (.slice A n c) n vs := by
  refine ⟨h.1, ?_⟩
  rcases h.2 with h | ⟨g, cap, cur, h1, h2, h3, h4⟩
  · exact .inl h
  · refine .inr ⟨g, cap, cur, h1, h2, (hk ⟨g, 0, none⟩ ?_).trans h3, h4⟩
    injection h1
theorem own_mono {w : World} {B B' n : Nat} {t : TypeId} {v : Value} {vs : List Value} (h : w.ownsRow B t 1 v n vs) (hB : B' ≤ B) : w.ownsRow B' t 1 v n vs := by
  refine ⟨h.1, ?_⟩
  rcases h.2 with h | ⟨g, cap, cur, h1, h2, h3⟩
  · exact .inl h
  · exact .inr ⟨g, cap, cur, h1, by omega, h3⟩
theorem own_up {w w' : World} {B n : Nat} {t : TypeId} {A : Option Addr} {c : Nat} {vs : List Value} (h : w.ownsRow B t 1 (.slice A n c) n vs) (hb : Below w.heap.size w w') : w'.ownsRow B t 1 (.slice A n c) n vs :=
  own_keep h fun q hq => hb.block _ ((Row.of_own h).blk q hq).2
theorem own_upd {w w' : World} {B n : Nat} {t : TypeId} {A : Option Addr} {c : Nat} {vs : List Value} (h : w.ownsRow B t 1 (.slice A n c) n vs) (hb : Below w.drew.heap.size w.drew w') : w'.ownsRow B t 1 (.slice A n c) n vs :=
  own_up h (bon (Below.refl _ _).drew hb)
theorem own_far {w : World} {B n : Nat} {t : TypeId} {A : Option Addr} {c : Nat} {vs : List Value} (h : w.ownsRow B t 1 (.slice A n c) n vs) {p : Addr} (hp : ∀ q, A = some q → q.block ≠ p.block) (u : Value) : (w.setCell p u).ownsRow B t 1 (.slice A n c) n vs :=
  own_keep h fun q hq => Below.heap_setCell w p u _ (hp q hq)

/-- a table of the call's own -/
structure Own0 (w : World) (B : Nat) (T : Tb) (Ag : Option Addr) (N cg : Nat) (Ab : Option Addr) (M cb : Nat) (Af : Option Addr) (F cf : Nat) : Prop where
  g : w.ownsRow B 3 1 (.slice Ag N cg) N (T.gens.map (Value.int .i64))
  b : w.ownsRow B 4 1 (.slice Ab M cb) M (T.busy.map Value.bool)
  f : w.ownsRow B 3 1 (.slice Af F cf) F (T.free.map (Value.int .i64))
  d : ∀ p q, Ag = some p → Af = some q → p.block ≠ q.block
/-- the same, where a slice may begin within its block -/
structure RowT (w : World) (B : Nat) (T : Tb) (Ag : Option Addr) (N cg : Nat) (Ab : Option Addr) (M cb : Nat) (Af : Option Addr) (F cf : Nat) : Prop where
  g : Row w B 3 Ag N cg (T.gens.map (Value.int .i64))
  b : Row w B 4 Ab M cb (T.busy.map Value.bool)
  f : Row w B 3 Af F cf (T.free.map (Value.int .i64))
  d : ∀ p q, Ag = some p → Af = some q → p.block ≠ q.block
section
variable {w w' : World} {B : Nat} {T : Tb} {Ag Ab Af : Option Addr} {N cg M cb F cf : Nat}
theorem Own0.row (h : Own0 w B T Ag N cg Ab M cb Af F cf) : RowT w B T Ag N cg Ab M cb Af F cf := ⟨.of_own h.g, .of_own h.b, .of_own h.f, h.d⟩
theorem Own0.up (h : Own0 w B T Ag N cg Ab M cb Af F cf) (hb : Below w.heap.size w w') : Own0 w' B T Ag N cg Ab M cb Af F cf := ⟨own_up h.g hb, own_up h.b hb, own_up h.f hb, h.d⟩
theorem RowT.up (h : RowT w B T Ag N cg Ab M cb Af F cf) (hb : Below w.heap.size w w') : RowT w' B T Ag N cg Ab M cb Af F cf := ⟨h.g.up hb, h.b.up hb, h.f.up hb, h.d⟩
theorem RowT.mono {B' : Nat} (h : RowT w B T Ag N cg Ab M cb Af F cf) (hB : B' ≤ B) : RowT w B' T Ag N cg Ab M cb Af F cf := ⟨h.g.mono hB, h.b.mono hB, h.f.mono hB, h.d⟩
theorem RowT.farT (h : RowT w B T Ag N cg Ab M cb Af F cf) {p : Nat} {t : TypeId} {cs : Array Value} (hb : Box w p t cs) (h3 : t ≠ 3) (h4 : t ≠ 4) (i : Nat) (u : Value) : RowT (w.setCell ⟨p, i, none⟩ u) B T Ag N cg Ab M cb Af F cf :=
  ⟨h.g.far (h.g.ne hb h3) u, h.b.far (h.b.ne hb h4) u, h.f.far (h.f.ne hb h3) u, h.d⟩
theorem RowT.far3 (h : RowT w B T Ag N cg Ab M cb Af F cf) {p : Nat} {t : TypeId} {cs : Array Value} (hb : Box w p t cs) (h3 : t ≠ 3) (h4 : t ≠ 4) (x y z : Value) : RowT (((w.setCell ⟨p, 0, none⟩ x).setCell ⟨p, 1, none⟩ y).setCell ⟨p, 2, none⟩ z) B T Ag N cg Ab M cb Af F cf :=
  ((h.farT hb h3 h4 0 x).farT (hb.set 0 x) h3 h4 1 y).farT ((hb.set 0 x).set 1 y) h3 h4 2 z
theorem RowT.at (h : RowT w B T Ag N cg Ab M cb Af F cf) (hN : N ≤ 1000) (hM : M ≤ 1000) (hF : F ≤ 1000) (wf : ∀ x ∈ T.free, (Lit.int .i64 x).wf = true) : At w T Ag N cg Ab M cb Af F cf where
  lg := by simpa using h.g.1
  lb := by simpa using h.b.1
  lf := by simpa using h.f.1
  g := h.g.reads
  b := h.b.reads
  f := h.f.reads
  hN := hN
  hM := hM
  hF := hF
  cg0 := h.g.c0
  cb0 := h.b.c0
  cf0 := h.f.c0
  wf := wf
end

/-- what Clone hands back -/
def CloneEnds (t : TypeId) (n : Nat) (vs : List Value) (w : World) (e : Ending) (w' : World) : Prop := ∃ A c, e = .returned (.slice A n c) ∧ w'.ownsRow w.heap.size t 1 (.slice A n c) n vs ∧ Below w.heap.size w w'

set_option maxHeartbeats 400000 in
theorem clone31_nil (w : World) : Calls Try.prog 31 #[.slice none 0 0] w fun e w' => e = .returned (.slice none 0 0) ∧ w = w' := by
  have he := fun W => Lib.run_eql_slice_nil (P := Try.prog) W 22 3 none 0 0 0 0 Try.underlying22
  go_enter Try.func31, Try.ntmps31
  go_wp2
  go_ret
  exact ⟨rfl, rfl⟩

set_option maxHeartbeats 400000 in
theorem clone32_nil (w : World) : Calls Try.prog 32 #[.slice none 0 0] w fun e w' => e = .returned (.slice none 0 0) ∧ w = w' := by
  have he := fun W => Lib.run_eql_slice_nil (P := Try.prog) W 23 4 none 0 0 0 0 Try.underlying23
  go_enter Try.func32, Try.ntmps32
  go_wp2
  go_ret
  exact ⟨rfl, rfl⟩

set_option maxHeartbeats 400000 in
theorem clone31_some (ad : Addr) (n c : Nat) (xs : List Int) (w : World) (HN : Hid (xs.length = n)) (hb : n ≤ 100000) (hB : Is w (some ad) xs) :
    Calls Try.prog 31 #[.slice (some ad) n c] w fun e w' => ∃ v, e = .returned v ∧ w'.ownsRow w.heap.size 3 1 v n (xs.map (Value.int .i64)) ∧ Below w.heap.size w w' := by
  obtain ⟨i0, hi, hz0, hz1, hz2⟩ := info_parts info3
  have he := fun W => Lib.run_eql_slice_nil (P := Try.prog) W 22 3 (some ad) n c 0 0 Try.underlying22
  have hm : n ≤ maxLen := by unfold maxLen; omega
  go_enter Try.func31, Try.ntmps31
  go_wp2_with (at_builtin; refine wpList_append_own _ rfl _ _ 22 rfl w.heap.size 3 i0 (.int .i64 0) 1 8 Try.underlying22 hi hz0 hz1 hz2 rfl (by decide) _ 0 [] rfl (World.ownsRow_made w #[] 0 (Nat.le_refl _) (Nat.zero_le _) rfl) ad n c (xs.map (Value.int .i64)) rfl ?hl ?hnews (one_iv xs) ?h63 ?hbytes ?hbase ?_; rotate_right; intro v' w1 hown hgrow _)
  case hl => simp [HN.out]
  case hnews => exact (hB.up (ba1 _ _)).add
  case h63 => simpa using hm
  case hbytes => omega
  case hbase => simp
  go_ret
  refine ⟨_, rfl, ?_, ?_⟩
  · simpa using hown
  · exact ((Below.refl _ _).alloc (Nat.le_refl _) _).grown hgrow (by simp) (fun k hk => by have h : some w.heap.size = some k := hk; injection h with h; omega)

set_option maxHeartbeats 400000 in
theorem clone32_some (ad : Addr) (n c : Nat) (xs : List Bool) (w : World) (HN : Hid (xs.length = n)) (hb : n ≤ 100000) (hB : Bl w (some ad) xs) :
    Calls Try.prog 32 #[.slice (some ad) n c] w fun e w' => ∃ v, e = .returned v ∧ w'.ownsRow w.heap.size 4 1 v n (xs.map Value.bool) ∧ Below w.heap.size w w' := by
  obtain ⟨i0, hi, hz0, hz1, hz2⟩ := info_parts info4
  have he := fun W => Lib.run_eql_slice_nil (P := Try.prog) W 23 4 (some ad) n c 0 0 Try.underlying23
  have hm : n ≤ maxLen := by unfold maxLen; omega
  go_enter Try.func32, Try.ntmps32
  go_wp2_with (at_builtin; refine wpList_append_own _ rfl _ _ 23 rfl w.heap.size 4 i0 (.bool false) 1 1 Try.underlying23 hi hz0 hz1 hz2 rfl (by decide) _ 0 [] rfl (World.ownsRow_made w #[] 0 (Nat.le_refl _) (Nat.zero_le _) rfl) ad n c (xs.map Value.bool) rfl ?hl ?hnews (one_bv xs) ?h63 ?hbytes ?hbase ?_; rotate_right; intro v' w1 hown hgrow _)
  case hl => simp [HN.out]
  case hnews => exact (hB.up (ba1 _ _)).add
  case h63 => simpa using hm
  case hbytes => omega
  case hbase => simp
  go_ret
  refine ⟨_, rfl, ?_, ?_⟩
  · simpa using hown
  · exact ((Below.refl _ _).alloc (Nat.le_refl _) _).grown hgrow (by simp) (fun k hk => by have h : some w.heap.size = some k := hk; injection h with h; omega)

theorem clone31 (A : Option Addr) (n c : Nat) (xs : List Int) (w : World) (hn : xs.length = n) (hb : n ≤ 100000) (hA : A = none → c = 0) (hB : Is w A xs) :
    Calls Try.prog 31 #[.slice A n c] w (CloneEnds 3 n (xs.map (Value.int .i64)) w) := by
  cases A with
  | none =>
    have hx : xs = [] := hB.none_nil
    subst hx
    simp at hn
    subst hn
    rw [hA rfl]
    refine (clone31_nil w).mono ?_
    rintro e w' ⟨rfl, rfl⟩
    exact ⟨none, 0, rfl, World.ownsRow_nil _ _ _ _, Below.refl _ _⟩
  | some ad =>
    refine (clone31_some ad n c xs w (Lib.hid hn) hb hB).mono ?_
    rintro e w' ⟨v, rfl, ho, hbl⟩
    obtain ⟨A', c', rfl⟩ := ownsRow_slice ho
    exact ⟨A', c', rfl, ho, hbl⟩

theorem clone32 (A : Option Addr) (n c : Nat) (xs : List Bool) (w : World) (hn : xs.length = n) (hb : n ≤ 100000) (hA : A = none → c = 0) (hB : Bl w A xs) :
    Calls Try.prog 32 #[.slice A n c] w (CloneEnds 4 n (xs.map Value.bool) w) := by
  cases A with
  | none =>
    have hx : xs = [] := hB.none_nil
    subst hx
    simp at hn
    subst hn
    rw [hA rfl]
    refine (clone32_nil w).mono ?_
    rintro e w' ⟨rfl, rfl⟩
    exact ⟨none, 0, rfl, World.ownsRow_nil _ _ _ _, Below.refl _ _⟩
  | some ad =>
    refine (clone32_some ad n c xs w (Lib.hid hn) hb hB).mono ?_
    rintro e w' ⟨v, rfl, ho, hbl⟩
    obtain ⟨A', c', rfl⟩ := ownsRow_slice ho
    exact ⟨A', c', rfl, ho, hbl⟩

end Go.Proofs.Ytkglgbbekmljcaa
