/-
  The walks of the laws' own Maker: Pick.
-/
import Derived.Test.YtdlihfbaepjliaaGreatDoorJWords
import Derived.Test.YtdlihfbaepjliaaGreatDoorProg
import Derived.Lib.SlTrimSet
import Derived.WalkKit
import Derived.Lib.Split
import Derived.WalkSpells
import Derived.WalkLawsBesides
import Derived.WalkSmall
import Derived.Lib.Hide
import Derived.IntWalk
import Derived.BigQuiet
import Derived.Laws.OwnMore
import Derived.Deep.AppendLies
import Derived.Deep.RegionLaw
import Derived.Deep.Upon
import Derived.Deep.DeepCutAuto
import Derived.Lib.IndexLaws
import Derived.Shelf.LaysM
import Derived.Shelf.Small.Strs
import Derived.Shelf.Small.Wraps
import Derived.Shelf.Strings.Search1
import Derived.Shelf.Strings.Search2
import Derived.Shelf.Strings.SlTrimAscii
import Derived.Shelf.Strings.Split
import Derived.Shelf.Strings.Prefix
import Derived.Shelf.Strconv.Itoa4
import Derived.Lib.SmallJoins
import Derived.Lib.LaidTab
import Derived.Lib.AppendIntMem
import Derived.Lib.IndexAny
import Derived.RangeFuncNested
import Derived.RangeFuncBound
import Derived.RangeFuncCalls
import Derived.RangeFuncLeaves
import Derived.Shelf.Abstract
import Derived.Shelf.RegionOpen
import Derived.OwnWalkIn
import Derived.TacticsInMore
import Derived.LoopNIn
import Derived.LoopIn
import Derived.Maps.AppendAt
import Derived.Deep.RegionHeld3
import Derived.Laws.BytesArg
import Derived.Laws.IdiomStrings
import Derived.Test.YtdlihfbaepjliaaGreatDoorHdA
import Derived.Test.YtdlihfbaepjliaaGreatDoorJHdU
import Derived.Test.YtdlihfbaepjliaaGreatDoorJRefS
import Derived.Test.YtdlihfbaepjliaaGreatDoorPgC
namespace Go.Proofs.YtdlihfbaepjliaaGreatDoor
open Go.RowKit

/-- the slice at address A holds the bytes ys, in a block below B -/
def Us (w : World) (B : Nat) (A : Option Addr) (ys : List UInt8) : Prop :=
  0 < ys.length → ∃ b o, A = some ⟨b, o, none⟩ ∧ b < B ∧ ∀ j, j < ys.length → w.cell? ⟨b, o + j, none⟩ = some (.int .u8 ((ys[j]?.getD 0).toNat : Int))
theorem Us.low {w w' : World} {B : Nat} {A : Option Addr} {ys : List UInt8} (h : Us w B A ys) (hb : Below B w w') : Us w' B A ys := by
  intro hx
  obtain ⟨b, o, rfl, hl, hc⟩ := h hx
  exact ⟨b, o, rfl, hl, fun j hj => (hb.cell hl).trans (hc j hj)⟩
theorem Us.up {w w' : World} {A : Option Addr} {ys : List UInt8} (h : Us w w.heap.size A ys) (hb : Below w.heap.size w w') : Us w' w'.heap.size A ys := by
  intro hx
  obtain ⟨b, o, rfl, hl, hc⟩ := h hx
  exact ⟨b, o, rfl, Nat.lt_of_lt_of_le hl hb.size, fun j hj => (hb.cell hl).trans (hc j hj)⟩
theorem Us.mono {w : World} {B B' : Nat} {A : Option Addr} {ys : List UInt8} (h : Us w B A ys) (hb : B ≤ B') : Us w B' A ys := by
  intro hx
  obtain ⟨b, o, rfl, hl, hc⟩ := h hx
  exact ⟨b, o, rfl, Nat.lt_of_lt_of_le hl hb, hc⟩

/-- a number below n, and one more pick is counted -/
def PickEnds (gm n : Nat) (ix : Int) (w : World) (e : Ending) (w' : World) : Prop :=
  ∃ p : Nat, p < n ∧ e = .returned (.int .i64 (p : Int)) ∧ Below (w.setCell ⟨gm, 1, none⟩ (.int .i64 (ix + 1))).heap.size (w.setCell ⟨gm, 1, none⟩ (.int .i64 (ix + 1))) w'

set_option maxRecDepth 100000 in
set_option maxHeartbeats 2000000 in
theorem pick_any (gm n : Nat) (ix : Int) (A : Option Addr) (L c : Nat) (ys : List UInt8) (w : World) (hbx : Box w gm 67 #[.slice A L c, .int .i64 ix]) (h0 : 0 ≤ ix) (h1 : ix ≤ 1000) (hl : ys.length = L) (hm : L ≤ maxLen) (hU : Us w gm A ys) (hn : 1 ≤ n) (hn2 : n ≤ 100) :
    Calls Tryz.prog 49 #[.pointer (some ⟨gm, 0, none⟩), .int .i64 (n : Int)] w (PickEnds gm n ix w) := by
  unfold maxLen at hm
  have c0 := hbx.c 0 rfl
  have c1 := hbx.c 1 rfl
  have f0 := hbx.f 0
  have f1 := hbx.f 1
  have hb2 := hbx.set 1 (.int .i64 (ix + 1))
  have d0 := hb2.c 0 (v := .slice A L c) (by simp)
  have d1 := hb2.c 1 (v := .int .i64 (ix + 1)) (by simp)
  have HU := Lib.hid (hU.low ((Below.refl gm w).setCell (p := ⟨gm, 1, none⟩) (Nat.le_refl _) (.int .i64 (ix + 1))))
  have HL := Lib.hid hl
  clear hl hU hbx hb2
  go_enter Tryz.func49, Tryz.ntmps49
  go_wp2_with fail
  clear c0 c1 f0 f1
  obtain ⟨X, hX⟩ : ∃ X, w.setCell ⟨gm, 1, none⟩ (.int .i64 (ix + 1)) = X := ⟨_, rfl⟩
  rw [hX] at d0 d1 HU ⊢
  have HX := Lib.hid hX
  clear hX
  by_cases hbig : (L : Int) < ix + 1
  · go_quiet (fail)
    go_wp2
    go_ret
    exact ⟨0, by omega, by go_num, by rw [HX.out]; exact below_drewN (Below.refl _ _) _⟩
  · obtain ⟨j, rfl⟩ := Int.eq_ofNat_of_zero_le h0
    have hj : j < L := by omega
    obtain ⟨b, o, hA, hb, hc⟩ := HU.out (by rw [HL.out]; omega)
    have cj := hc j (by rw [HL.out]; omega)
    clear hc
    obtain ⟨y, hy⟩ : ∃ y, ys[j]?.getD 0 = y := ⟨_, rfl⟩
    rw [hy] at cj
    have hyb := y.toNat_lt
    clear hy
    obtain ⟨v, hv⟩ : ∃ v, y.toNat = v := ⟨_, rfl⟩
    rw [hv] at cj hyb
    clear hv
    subst hA
    obtain ⟨r, hr⟩ : ∃ r, v % n = r := ⟨_, rfl⟩
    have hrn : r < n := by rw [← hr]; exact Nat.mod_lt _ (by omega)
    have t0 : (j : Int) + 1 - 1 = (j : Int) := by omega
    have t9 : IntKind.i64.wrap ((j : Int) + 1 - 1) = (j : Int) := by rw [t0]; exact IntWalk.i64_in _ (by omega)
    have t8 : IntKind.i64.wrap (j : Int) = (j : Int) := IntWalk.i64_in _ (by omega)
    have t1 : IntKind.i64.wrap (v : Int) = (v : Int) := IntWalk.i64_in _ (by omega)
    have t2 : (v : Int).tmod (n : Int) = (r : Int) := by rw [Int.tmod_eq_emod_of_nonneg (by omega), ← hr]; simp
    have t3 : (v : Int) % (n : Int) = (r : Int) := by rw [← hr]; simp
    have t4 : IntKind.i64.wrap (r : Int) = (r : Int) := IntWalk.i64_in _ (by omega)
    have t5 : (j : Int) < (L : Int) := by omega
    have t6 : (0 : Int) ≤ (j : Int) := by omega
    have t7 : ¬ (n : Int) = 0 := by omega
    clear hr
    go_quiet (fail)
    rename_i nq
    have d0' : (X.drewN nq).cell? ⟨gm, 0, none⟩ = some (.slice (some ⟨b, o, none⟩) L c) := d0
    have d1' : (X.drewN nq).cell? ⟨gm, 1, none⟩ = some (.int .i64 ((j : Int) + 1)) := d1
    have cj' : (X.drewN nq).cell? ⟨b, o + j, none⟩ = some (.int .u8 (v : Int)) := cj
    have hbn : Below X.heap.size X (X.drewN nq) := below_drewN (Below.refl _ _) _
    go_wp2_with fail
    generalize X.drewN nq = Y at *
    clear d0 d1 cj
    go_quiet (fail)
    go_wp2
    go_ret
    exact ⟨r, hrn, by go_num, by rw [HX.out]; exact below_drewN hbn _⟩
end Go.Proofs.YtdlihfbaepjliaaGreatDoor

/-
  The walks of the laws' own Maker: Head, and of Made.
-/
namespace Go.Proofs.YtdlihfbaepjliaaGreatDoor
open Go.RowKit
def lsM : List ByteArray := [⟨#[71, 69, 84]⟩, ⟨#[80, 79, 83, 84]⟩, ⟨#[72, 69, 65, 68]⟩, ⟨#[80, 85, 84]⟩, ⟨#[120, 45, 121]⟩]
def lsT : List ByteArray := [⟨#[47]⟩, ⟨#[47, 97, 47, 98]⟩, ⟨#[47, 97, 63, 120, 61, 49]⟩, ⟨#[42]⟩, ⟨#[47, 37, 52, 49]⟩]
def lsR : List ByteArray := [⟨#[79, 75]⟩, ⟨#[]⟩, ⟨#[78, 111, 116, 32, 70, 111, 117, 110, 100]⟩, ⟨#[97, 9, 98]⟩]
def lsN : List ByteArray := [⟨#[72, 111, 115, 116]⟩, ⟨#[67, 111, 110, 116, 101, 110, 116, 45, 76, 101, 110, 103, 116, 104]⟩, ⟨#[84, 114, 97, 110, 115, 102, 101, 114, 45, 69, 110, 99, 111, 100, 105, 110, 103]⟩, ⟨#[67, 111, 110, 110, 101, 99, 116, 105, 111, 110]⟩, ⟨#[67, 111, 111, 107, 105, 101]⟩, ⟨#[86, 97, 114, 121]⟩, ⟨#[65]⟩, ⟨#[97, 99, 99, 101, 112, 116]⟩, ⟨#[82, 97, 110, 103, 101]⟩, ⟨#[67, 97, 99, 104, 101, 45, 67, 111, 110, 116, 114, 111, 108]⟩, ⟨#[65, 117, 116, 104, 111, 114, 105, 122, 97, 116, 105, 111, 110]⟩, ⟨#[88, 45, 70, 111, 114, 119, 97, 114, 100, 101, 100, 45, 70, 111, 114]⟩, ⟨#[75, 101, 101, 112, 45, 65, 108, 105, 118, 101]⟩]
def lsV : List ByteArray := [⟨#[]⟩, ⟨#[51]⟩, ⟨#[99, 104, 117, 110, 107, 101, 100]⟩, ⟨#[99, 108, 111, 115, 101]⟩, ⟨#[107, 101, 101, 112, 45, 97, 108, 105, 118, 101, 44, 32, 65]⟩, ⟨#[97, 44, 32, 98]⟩, ⟨#[110, 111, 45, 115, 116, 111, 114, 101]⟩, ⟨#[48]⟩, ⟨#[120]⟩, ⟨#[65, 99, 99, 101, 112, 116]⟩, ⟨#[97, 99, 99, 101, 112, 116, 44, 32, 65]⟩]
def lsS : List Int := [200, 404, 304, 204, 100, 599, 503]
theorem lsM_ok : ∀ x ∈ lsM, nameB (dl x) = true ∧ x.size ≤ 40 := by decide +kernel
theorem lsT_ok : ∀ x ∈ lsT, targetB (dl x) = true ∧ x.size ≤ 40 := by decide +kernel
theorem lsR_ok : ∀ x ∈ lsR, reasonB (dl x) = true ∧ x.size ≤ 40 := by decide +kernel
theorem lsN_ok : ∀ x ∈ lsN, nameB (dl x) = true ∧ x.size ≤ 40 := by decide +kernel
theorem lsV_ok : ∀ x ∈ lsV, valueB (dl x) = true ∧ x.size ≤ 40 := by decide +kernel
theorem lsS_ok : ∀ x ∈ lsS, statB x = true := by decide +kernel
theorem lit_cell {W : World} {g : Nat} {xs : List ByteArray} (h : Box W g 9 (svs xs).toArray) {p : Nat} (hp : p < xs.length) : ∃ x, x ∈ xs ∧ W.cell? ⟨g, p, none⟩ = some (.string x) :=
  ⟨xs[p], List.getElem_mem hp, h.c p (by simp [svs, hp])⟩
theorem lit_int {W : World} {g : Nat} {xs : List Int} (h : Box W g 3 (xs.map (Value.int .i64)).toArray) {p : Nat} (hp : p < xs.length) : ∃ x, x ∈ xs ∧ W.cell? ⟨g, p, none⟩ = some (.int .i64 x) :=
  ⟨xs[p], List.getElem_mem hp, h.c p (by simp [hp])⟩

/-- while a head is made -/
structure MS (w W : World) (gm gr gh : Nat) (A : Option Addr) (L c B : Nat) (m t : ByteArray) (st : Int) (r : ByteArray) (mi : Int) (O : Sli) (fs : List Fd) : Prop where
  low : Below gm w W
  mkr : ∃ ix : Int, 0 ≤ ix ∧ ix ≤ (B : Int) ∧ Box W gm 67 #[.slice A L c, .int .i64 ix]
  rb : Box W gr 29 #[.string ⟨#[]⟩, .string ⟨#[]⟩, .int .i64 0, .string ⟨#[]⟩, .int .i64 0, .slice none 0 0]
  hb : Box W gh 29 #[.string m, .string t, .int .i64 st, .string r, .int .i64 mi, .slice O.A O.n O.c]
  row : Row W (gh + 1) 40 2 O (fvs fs)
  o1 : gm < gr
  o2 : gr < gh
  o3 : w.heap.size ≤ gr
section
variable {w W w' : World} {gm gr gh : Nat} {A : Option Addr} {L c B : Nat} {m t : ByteArray} {st : Int} {r : ByteArray} {mi : Int} {O : Sli} {fs : List Fd}
theorem below_gm {w W w' : World} {gm : Nat} (h : Below gm w W) (hb : Below W.heap.size W w') (hg : gm ≤ W.heap.size) : Below gm w w' := h.trans (hb.mono hg)
theorem MS.le (h : MS w W gm gr gh A L c B m t st r mi O fs) : gh + 1 ≤ W.heap.size := h.hb.lt
theorem MS.up (h : MS w W gm gr gh A L c B m t st r mi O fs) (hb : Below W.heap.size W w') : MS w w' gm gr gh A L c B m t st r mi O fs := by
  obtain ⟨ix, h0, h1, h2⟩ := h.mkr
  exact ⟨below_gm h.low hb (Nat.le_of_lt h2.lt), ⟨ix, h0, h1, h2.up hb⟩, h.rb.up hb, h.hb.up hb, h.row.up hb, h.o1, h.o2, h.o3⟩
theorem MS.mono {B' : Nat} (h : MS w W gm gr gh A L c B m t st r mi O fs) (hB : B ≤ B') : MS w W gm gr gh A L c B' m t st r mi O fs := by
  obtain ⟨ix, h0, h1, h2⟩ := h.mkr
  exact ⟨h.low, ⟨ix, h0, by omega, h2⟩, h.rb, h.hb, h.row, h.o1, h.o2, h.o3⟩
/-- a store into a block that is no row of fields -/
theorem row_far {W : World} {Bs : Nat} {O : Sli} {fs : List Fd} (h : Row W Bs 40 2 O (fvs fs)) {p : Addr} (hp : p.block < Bs) (v : Value) : Row (W.setCell p v) Bs 40 2 O (fvs fs) := by
  refine ⟨h.1, ?_⟩
  rcases h.2 with hn | ⟨g, cap, cur, e1, hb, hgc, q⟩
  · exact .inl hn
  · exact .inr ⟨g, cap, cur, e1, hb, (Below.heap_setCell W p v g (by omega)).trans hgc, q⟩
theorem MS.setH (h : MS w W gm gr gh A L c B m t st r mi O fs) (i : Nat) (v : Value) {m' t' : ByteArray} {st' : Int} {r' : ByteArray} (he : (#[Value.string m, .string t, .int .i64 st, .string r, .int .i64 mi, .slice O.A O.n O.c]).setIfInBounds i v = #[.string m', .string t', .int .i64 st', .string r', .int .i64 mi, .slice O.A O.n O.c]) :
    MS w (W.setCell ⟨gh, i, none⟩ v) gm gr gh A L c B m' t' st' r' mi O fs := by
  obtain ⟨ix, h0, h1, h2⟩ := h.mkr
  have o1 := h.o1
  have o2 := h.o2
  refine ⟨h.low.setCell (p := ⟨gh, i, none⟩) (by simp only; omega) _, ⟨ix, h0, h1, h2.far (p := ⟨gh, i, none⟩) (by simp only; omega) _⟩, h.rb.far (p := ⟨gh, i, none⟩) (by simp only; omega) _, ?_, row_far h.row (p := ⟨gh, i, none⟩) (by simp only; omega) _, o1, o2, h.o3⟩
  have := h.hb.set i v
  rw [he] at this
  exact this
theorem MS.app (h : MS w W gm gr gh A L c B m t st r mi O fs) {A' : Option Addr} {n c' : Nat} {fs' : List Fd} (h1 : w'.ownsRow (gh + 1) 40 2 (.slice A' n c') n (fvs fs')) (h2 : W.grownBy w' (Value.slice O.A O.n O.c).ownBlock) :
    MS w (w'.setCell ⟨gh, 5, none⟩ (.slice A' n c')) gm gr gh A L c B m t st r mi ⟨A', n, c'⟩ fs' ∧ w'.cell? ⟨gh, 5, none⟩ = some (.slice O.A O.n O.c) ∧ w'.frozen? ⟨gh, 5, none⟩ = false := by
  have hne : ∀ k, (Value.slice O.A O.n O.c).ownBlock = some k → gh + 1 ≤ k := by
    intro k hk
    rcases h.row.2 with ⟨e1, _⟩ | ⟨g, cap, cur, e1, hb, _⟩
    · rw [e1] at hk
      cases hk
    · rw [e1] at hk
      have : g = k := Option.some.inj hk
      omega
  have hst : ∀ j ty cs, j ≤ gh → Box W j ty cs → Box w' j ty cs := by
    intro j ty cs hj hbx
    have := h2.block j hbx.lt (fun e => by have := hne j e.symm; omega)
    unfold Box
    rw [this]
    exact hbx
  obtain ⟨ix, i0, i1, i2⟩ := h.mkr
  have o1 := h.o1
  have o2 := h.o2
  have hbx := hst gh _ _ (Nat.le_refl _) h.hb
  have hlow : Below gm w w' := grown_base h.row h2 h.low (by omega) (Nat.le_of_lt i2.lt)
  refine ⟨⟨hlow.setCell (p := ⟨gh, 5, none⟩) (by simp only; omega) _, ⟨ix, i0, i1, (hst gm _ _ (by omega) i2).far (p := ⟨gh, 5, none⟩) (by simp only; omega) _⟩, (hst gr _ _ (by omega) h.rb).far (p := ⟨gh, 5, none⟩) (by simp only; omega) _, hbx.set5 _, row_far (O := ⟨A', n, c'⟩) h1 (p := ⟨gh, 5, none⟩) (by simp only; omega) _, o1, o2, h.o3⟩, hbx.c 5 rfl, hbx.f 5⟩
/-- a pick, while a head is made -/
def PMS (w : World) (gm gr gh : Nat) (A : Option Addr) (L c B : Nat) (m t : ByteArray) (st : Int) (r : ByteArray) (mi : Int) (O : Sli) (fs : List Fd) (n : Nat) (W : World) (e : Ending) (w' : World) : Prop :=
  ∃ p : Nat, p < n ∧ e = .returned (.int .i64 (p : Int)) ∧ MS w w' gm gr gh A L c (B + 1) m t st r mi O fs ∧ ∀ g ty cs, Box W g ty cs → g ≠ gm → Box w' g ty cs
theorem pick_ms {ys : List UInt8} (h : MS w W gm gr gh A L c B m t st r mi O fs) (hU : Us w gm A ys) (hl : ys.length = L) (hm : L ≤ maxLen) (hB : B ≤ 1000) (n : Nat) (hn : 1 ≤ n) (hn2 : n ≤ 100) :
    Calls Tryz.prog 49 #[.pointer (some ⟨gm, 0, none⟩), .int .i64 (n : Int)] W (PMS w gm gr gh A L c B m t st r mi O fs n W) := by
  obtain ⟨ix, h0, h1, h2⟩ := h.mkr
  refine (pick_any gm n ix A L c ys W h2 h0 (by omega) hl hm (hU.low h.low) hn hn2).mono ?_
  rintro e w' ⟨p, hp, rfl, hb⟩
  have o1 := h.o1
  have o2 := h.o2
  have hX : MS w (W.setCell ⟨gm, 1, none⟩ (.int .i64 (ix + 1))) gm gr gh A L c (B + 1) m t st r mi O fs := by
    refine ⟨h.low.setCell (p := ⟨gm, 1, none⟩) (Nat.le_refl _) _, ⟨ix + 1, by omega, by omega, ?_⟩, h.rb.far (p := ⟨gm, 1, none⟩) (by simp only; omega) _, h.hb.far (p := ⟨gm, 1, none⟩) (by simp only; omega) _, row_far h.row (p := ⟨gm, 1, none⟩) (by simp only; omega) _, o1, o2, h.o3⟩
    have := h2.set 1 (.int .i64 (ix + 1))
    simpa using this
  exact ⟨p, hp, rfl, hX.up hb, fun g ty cs hbx hg => (hbx.far (p := ⟨gm, 1, none⟩) hg _).up hb⟩
end

/-- heads as the Maker makes them -/
def GoodH (a : Bool) (m t : ByteArray) (st : Int) (r : ByteArray) (mi : Int) (fs : List Fd) : Prop :=
  rightB (hdOf m t st r mi fs) a = true ∧ m.size ≤ 40 ∧ t.size ≤ 40 ∧ r.size ≤ 40 ∧ fs.length ≤ 6 ∧ ∀ f ∈ fs, f.1.size ≤ 40 ∧ f.2.size ≤ 40
/-- the first part of such a head -/
def GoodF (a : Bool) (m t : ByteArray) (st : Int) (r : ByteArray) : Prop := kindB ⟨dl m, dl t, st, dl r, 0, []⟩ a = true ∧ m.size ≤ 40 ∧ t.size ≤ 40 ∧ r.size ≤ 40
def GoodL (fs : List Fd) : Prop := ∀ f ∈ fs, nameB (dl f.1) = true ∧ valueB (dl f.2) = true ∧ f.1.size ≤ 40 ∧ f.2.size ≤ 40
theorem goodH_of {a : Bool} {m t : ByteArray} {st : Int} {r : ByteArray} {p : Nat} {fs : List Fd} (h : GoodF a m t st r) (hp : p < 2) (hl : fs.length ≤ 6) (hf : GoodL fs) : GoodH a m t st r (1 - (p : Int)) fs := by
  refine ⟨?_, h.2.1, h.2.2.1, h.2.2.2, hl, fun f hm => (hf f hm).2.2⟩
  unfold rightB fieldsB
  simp only [Bool.and_eq_true, Bool.or_eq_true, decide_eq_true_eq, List.all_eq_true]
  refine ⟨⟨?_, ?_, ?_⟩, h.1⟩
  · show (1 - (p : Int) = 0) ∨ (1 - (p : Int) = 1)
    omega
  · show (dls fs).length ≤ 20
    rw [List.length_map]
    omega
  · intro f hfm
    obtain ⟨g, hg, rfl⟩ := List.mem_map.1 hfm
    have := hf g hg
    unfold fieldB
    simp only [this.1, this.2.1]
    rfl
theorem goodF_req {m t : ByteArray} (hm : m ∈ lsM) (ht : t ∈ lsT) : GoodF false m t 0 ⟨#[]⟩ := by
  refine ⟨?_, (lsM_ok m hm).2, (lsT_ok t ht).2, by decide⟩
  unfold kindB
  rw [if_neg (by decide)]
  simp only [(lsM_ok m hm).1, (lsT_ok t ht).1]
  rfl
theorem goodF_ans {st : Int} {r : ByteArray} (hs : st ∈ lsS) (hr : r ∈ lsR) : GoodF true ⟨#[]⟩ ⟨#[]⟩ st r := by
  refine ⟨?_, by decide, by decide, (lsR_ok r hr).2⟩
  unfold kindB
  rw [if_pos rfl]
  simp only [(lsS_ok st hs), (lsR_ok r hr).1]
  rfl
/-- a head that was made is handed back -/
def HEnds (a : Bool) (gm : Nat) (w : World) (e : Ending) (w' : World) : Prop :=
  ∃ (m t : ByteArray) (st : Int) (r : ByteArray) (mi : Int) (S : Sli) (fs : List Fd), e = .returned (.agg #[.string m, .string t, .int .i64 st, .string r, .int .i64 mi, .slice S.A S.n S.c]) ∧ GoodH a m t st r mi fs ∧ Fs w' S fs ∧ (∀ ad, S.A = some ad → gm < ad.block) ∧ Below gm w w'

end Go.Proofs.YtdlihfbaepjliaaGreatDoor

/-
  The walk of chunk's own Feed.
-/
namespace Go.Proofs.YtdlihfbaepjliaaGreatDoor
open Go.RowKit

section
variable {e : TypeId} {sz : Nat} {w wr w' : World} {s : Sli} {cs : List Value}
theorem Out.but {g : Nat} {t : TypeId} {ps : Array Value} (h : Out e sz w wr s cs) (hb : But g wr w') (hg : Box wr g t ps) (ht : t ≠ e) (hw : w.heap.size ≤ g) : Out e sz w w' s cs :=
  ⟨h.row.but hb hg ht, But.below h.hb hb hw h.le⟩
theorem Out.box {k : Nat} {t : TypeId} {ps : Array Value} (h : Out e sz w wr s cs) (h2 : wr.grownBy w' (Value.slice s.A s.n s.c).ownBlock) (hk : Box wr k t ps) (ht : t ≠ e) : Box w' k t ps := (grown_other h.row h2 hk ht).trans hk
end
theorem info5 : (Tryz.prog.info? 5).map (fun i => (i.zero, i.size, i.bytes)) = some (some (.int .u8 0), 1, 1) := by kernel_rfl
/-- bytes in cells -/
def bvs (l : Bs) : List Value := l.map fun c => .int .u8 (c.toNat : Int)
theorem bvs_one (l : Bs) : ∀ u ∈ bvs l, u.oneCell' = true := by
  intro u hu
  obtain ⟨x, _, rfl⟩ := List.mem_map.1 hu
  rfl
theorem conv_row {W : World} {B : Nat} {A : Option Addr} {n c : Nat} {bs : Bs} (h : Row W B 5 1 ⟨A, n, c⟩ (bvs bs)) (hn : n = bs.length) : (convert 22 9 (.slice A n c)).run Tryz.prog W = .ok (.string ⟨bs.toArray⟩) W := by
  subst hn
  cases hA : A with
  | none =>
    have hr := h.rd (fun e => by rw [bvs, List.length_eq_zero_iff.1 e]; rfl)
    have h0 : bs = [] := by
      cases bs with
      | nil => rfl
      | cons x r =>
        obtain ⟨b, o, h1, _⟩ := hr (by simp [bvs])
        simp only at h1
        rw [hA] at h1
        cases h1
    subst h0
    exact run_convert_bytes_nil W 22 5 Tryz.underlying22 Tryz.underlying5 _ _ 9 Tryz.underlying9
  | some ad =>
    have hr := h.rd (fun e => by rw [bvs, List.length_eq_zero_iff.1 e]; rfl)
    simp only at hr
    rw [hA] at hr
    refine run_convert_bytes_back (P := Tryz.prog) W 22 9 5 ad c bs Tryz.underlying22 Tryz.underlying5 Tryz.underlying9 (fun j hj => ?_)
    obtain ⟨b, off, h1, _, h3⟩ := hr (by simp [bvs]; omega)
    obtain rfl := Option.some.inj h1
    rw [Lib.add_plain]
    exact h3 j _ (by rw [bvs, List.getElem?_map, List.getElem?_eq_getElem hj]; rfl)

/-- what holds of the chunks while bytes are read -/
def InvP (c : Ck) : Prop := InvF c ∧ 0 ≤ c.s ∧ c.s ≤ 4
theorem line_st {c : Ck} (l : Bs) (h : 0 ≤ c.s ∧ c.s ≤ 4) : 0 ≤ (lineC c l).1.s ∧ (lineC c l).1.s ≤ 4 := by
  unfold lineC
  repeat' split
  all_goals (first | exact h | exact ⟨show (0 : Int) ≤ 3 by decide, show (3 : Int) ≤ 4 by decide⟩ | exact ⟨show (0 : Int) ≤ 1 by decide, show (1 : Int) ≤ 4 by decide⟩ | exact ⟨show (0 : Int) ≤ 0 by decide, show (0 : Int) ≤ 4 by decide⟩ | exact ⟨show (0 : Int) ≤ 4 by decide, show (4 : Int) ≤ 4 by decide⟩)
theorem inv_step {c : Ck} {b : UInt8} (h : InvP c) (he : (stepC c b).2.2 = 0) : InvP (stepC c b).1 := by
  obtain ⟨hi, h0, h4⟩ := h
  have hi' := hi
  obtain ⟨a1, a2, a3, a4, a5, a6⟩ := hi
  revert he
  unfold stepC
  by_cases s1 : c.s = 1
  · rw [if_pos s1]
    intro _
    have := a6 s1
    refine ⟨⟨?_, ?_, ?_, ?_, a5, ?_⟩, ?_, ?_⟩
    · show 0 ≤ c.l - 1; omega
    · show c.l - 1 ≤ 4000; omega
    · show 0 ≤ c.m + 1; omega
    · show c.m + 1 + (c.l - 1) ≤ 8000; omega
    · show (if c.l - 1 = 0 then (2 : Int) else 1) = 1 → 0 < c.l - 1
      split
      · intro h; cases h
      · intro _; omega
    · show 0 ≤ (if c.l - 1 = 0 then (2 : Int) else 1)
      split <;> decide
    · show (if c.l - 1 = 0 then (2 : Int) else 1) ≤ 4
      split <;> decide
  · rw [if_neg s1]
    by_cases hE : endsL (c.ln ++ [b]) = true
    · rw [if_pos hE]
      intro he
      have hst := line_st (c := c) ((c.ln ++ [b]).take (c.ln.length - 1)) ⟨h0, h4⟩
      exact ⟨inv_line hi' _ he, hst⟩
    · rw [if_neg hE]
      by_cases hb : 200 < c.ln.length + 1
      · rw [if_pos hb]
        intro h; cases h
      · rw [if_neg hb]
        intro _
        refine ⟨⟨a1, a2, a3, a4, ?_, a6⟩, h0, h4⟩
        show (c.ln ++ [b]).length ≤ 200
        rw [List.length_append]
        simp only [List.length_cons, List.length_nil]
        omega
theorem step_none {s l : Int} {ln : Bs} {m : Int} {b : UInt8} (h1 : s ≠ 1) : (stepC ⟨s, l, ln, m⟩ b).2.1 = [] := by
  unfold stepC
  rw [if_neg h1]
  split
  · rfl
  · split <;> rfl

set_option maxRecDepth 100000 in
set_option maxHeartbeats 8000000 in
theorem cfeed_any (s l : Int) (ln : ByteArray) (m : Int) (S : ByteArray) (hS : S.size ≤ 140737488355328) (w : World) : Calls Tryz.prog 89 #[.agg #[.int .i64 s, .int .i64 l, .string ln, .int .i64 m], .string S] w (FeedEnds (feedC (ckOf s l ln m) (dl S)) w) := by
  obtain ⟨i5, hi, hz0, hz1, hz2⟩ := info_parts info5
  obtain ⟨Q, hQ⟩ : ∃ Q, feedC (ckOf s l ln m) (dl S) = Q := ⟨_, rfl⟩
  rw [hQ]
  have HD := Lib.hid hQ.symm
  clear hQ
  have HR := Lib.hid (fun W => cright_any s l ln m W)
  have HOk := Lib.hid (fun h : okC (ckOf s l ln m) => (⟨inv_ok h, h.1, h.2.1⟩ : InvP (ckOf s l ln m)))
  have hb0 := ba2 w (.cells #[.int .i64 s, .int .i64 l, .string ln, .int .i64 m] 26) (.cells #[.int .i64 0, .int .i64 0, .string ⟨#[]⟩, .int .i64 0] 26)
  have bc := (Box.new w 26 #[.int .i64 s, .int .i64 l, .string ln, .int .i64 m]).alloc (.cells #[.int .i64 0, .int .i64 0, .string ⟨#[]⟩, .int .i64 0] 26)
  have br := Box.mk' (w.alloc (.cells #[.int .i64 s, .int .i64 l, .string ln, .int .i64 m] 26)) 26 #[.int .i64 0, .int .i64 0, .string ⟨#[]⟩, .int .i64 0] (w.heap.size + 1) (by simp)
  go_enter Tryz.func89, Tryz.ntmps89
  go_wp2_with fail
  obtain ⟨g, hg⟩ : ∃ g, w.heap.size = g := ⟨_, rfl⟩
  rw [hg] at bc br ⊢
  have HG : Hid (w.heap.size ≤ g + 1) := Lib.hid (by omega)
  clear hg
  generalize (w.alloc (.cells #[.int .i64 s, .int .i64 l, .string ln, .int .i64 m] 26)).alloc (.cells #[.int .i64 0, .int .i64 0, .string ⟨#[]⟩, .int .i64 0] 26) = W0 at *
  refine (HR.out _).mono ?_
  rintro e w1 ⟨rfl, hb1⟩
  have bc := bc.up hb1
  have br := br.up hb1
  have hbw := Lib.hid (bon hb0 hb1)
  clear hb0 hb1 HR
  obtain ⟨c0, c1, c2, c3⟩ := bc.four
  by_cases hok : okC (ckOf s l ln m)
  case neg =>
    rw [decide_eq_false hok]
    have HV : Hid (Q = (ckOf s l ln m, 0, [], 1)) := Lib.hid (by rw [HD.out, feedC, if_neg hok])
    clear hok
    have HQ := Lib.hid (br.set4 (.int .i64 (s)) (.int .i64 (l)) (.string ln) (.int .i64 (m))).four
    have HW := Lib.hid (below_set4 hbw.out (g := g + 1) HG.out (.int .i64 (s)) (.int .i64 (l)) (.string ln) (.int .i64 (m)))
    obtain ⟨k0, k1, k2, k3⟩ := br.four
    obtain ⟨f0, f1, f2, f3⟩ := br.fourf
    go_wp2
    obtain ⟨q0, q1, q2, q3⟩ := HQ.out
    refine bodyPost_ret (v := .tuple #[.agg #[.int .i64 (s), .int .i64 (l), .string ln, .int .i64 (m)], .int .i64 (0), .string ⟨#[]⟩, .int .i64 (1)]) (by simp [results, Tryz.results89, go_sem, q0, q1, q2, q3]) rfl ?_
    exact ⟨ln, ⟨#[]⟩, by rw [HV.out]; try rfl, by rw [HV.out]; try rfl, by rw [HV.out]; try rfl, HW.out⟩
  case pos =>
    rw [decide_eq_true hok]
    have hinv := HOk.out hok
    have HE : Hid (Q = if (feedA (ckOf s l ln m) [] 0 (dl S)).2.2.2 = 0 then feedA (ckOf s l ln m) [] 0 (dl S) else (ckOf s l ln m, 0, [], (feedA (ckOf s l ln m) [] 0 (dl S)).2.2.2)) := Lib.hid (by rw [HD.out, feedC, if_pos hok])
    have HI0 := Lib.hid hinv
    clear hok hinv HD HOk
    go_upto_region 4 with fail
    have hd := ba1 w1 (.cells #[.int .i64 s, .int .i64 l, .string ln, .int .i64 m] 121)
    have hgn := br.lt
    have bc1 := bc.up hd
    have br1 := br.up hd
    have hbw1 := Lib.hid (bon hbw.out hd)
    have bn := Box.new w1 121 #[.int .i64 s, .int .i64 l, .string ln, .int .i64 m]
    obtain ⟨gn, hg⟩ : ∃ g, w1.heap.size = g := ⟨_, rfl⟩
    rw [hg] at bn hgn ⊢
    clear hg hd c0 c1 c2 c3 bc br hbw
    generalize w1.alloc (.cells #[.int .i64 s, .int .i64 l, .string ln, .int .i64 m] 121) = W1 at *
    have HGN : Hid (w.heap.size ≤ gn) := Lib.hid (by have := HG.out; omega)
    obtain ⟨F0, hF0⟩ : ∃ F, feedA (ckOf s l ln m) [] 0 (dl S) = F := ⟨_, rfl⟩
    rw [hF0] at HE
    have HF0 := Lib.hid hF0
    clear hF0
    go_wp2_with fail
    go_loopw [10, 9] (fun i o wr => ∃ (k : Nat) (OA : Option Addr) (On Oc : Nat) (bs : Bs) (s1 l1 : Int) (n1 : ByteArray) (m1 : Int), k ≤ S.size ∧ i = .int .i64 (k : Int) ∧ o = .slice OA On Oc ∧ On ≤ k ∧ Hid (On = bs.length) ∧ Hid (InvP (ckOf s1 l1 n1 m1)) ∧ Hid (F0 = feedA (ckOf s1 l1 n1 m1) bs k ((dl S).drop k)) ∧ Hid (Box wr gn 121 #[.int .i64 s1, .int .i64 l1, .string n1, .int .i64 m1]) ∧ Hid (Box wr g 26 #[.int .i64 s, .int .i64 l, .string ln, .int .i64 m]) ∧ Hid (Box wr (g + 1) 26 #[.int .i64 0, .int .i64 0, .string ⟨#[]⟩, .int .i64 0]) ∧ Hid (Out 5 1 w wr ⟨OA, On, Oc⟩ (bvs bs))) (fun i _ _ => S.size - (intOf i).toNat)
    case atStart => exact ⟨0, none, 0, 0, [], s, l, ln, m, Nat.zero_le _, rfl, rfl, Nat.le_refl _, Lib.hid rfl, HI0, Lib.hid (by rw [← HF0.out]; rfl), Lib.hid bn, Lib.hid bc1, Lib.hid br1, Lib.hid (Out.nil 5 1 w _ hbw1.out)⟩
    case round =>
      obtain ⟨k, OA, On, Oc, bs, s1, l1, n1, m1, hk, rfl, rfl, hOk, HN, HInv, HX, Hn, Hc, Hr, HO⟩ := hrel
      obtain ⟨⟨i1, i2, i3, i4, i5', i6⟩, i7, i8⟩ := HInv.out
      simp only [ckOf, dl_len] at i1 i2 i3 i4 i5' i6 i7 i8
      have c1 := Hn.out.four
      obtain ⟨c0, c1, c2, c3⟩ := c1
      by_cases hgo : k < S.size ∧ s1 ≠ 4
      · obtain ⟨hlt, h4⟩ := hgo
        have h4b : (s1 != 4) = true := bne_iff_ne.2 h4
        have hki : (k : Int) < (S.size : Int) := by omega
        have hk0 : (0 : Int) ≤ (k : Int) := by omega
        have hk1 : (k : Int) + 1 ≤ (S.size : Int) := by omega
        have tk : IntKind.i64.wrap ((k : Int) + 1) = (k : Int) + 1 := IntWalk.i64_in _ (by omega)
        have tkn : ((k : Int) + 1).toNat = k + 1 := by omega
        have hdrop : (dl S).drop k = S[k] :: (dl S).drop (k + 1) := by
          obtain ⟨z1, z2⟩ := List.getElem?_eq_some_iff.1 (dl_at hlt)
          rw [List.drop_eq_getElem_cons z1, z2]
        have HX1 : Hid (F0 = if (stepC ⟨s1, l1, dl n1, m1⟩ S[k]).2.2 ≠ 0 then (⟨s1, l1, dl n1, m1⟩, k, bs, (stepC ⟨s1, l1, dl n1, m1⟩ S[k]).2.2) else feedA (stepC ⟨s1, l1, dl n1, m1⟩ S[k]).1 (bs ++ (stepC ⟨s1, l1, dl n1, m1⟩ S[k]).2.1) (k + 1) ((dl S).drop (k + 1))) := Lib.hid (by
          rw [HX.out, hdrop, feed_cons (show (ckOf s1 l1 n1 m1).s ≠ 4 from h4)]
          rfl)
        have HIS : Hid ((stepC ⟨s1, l1, dl n1, m1⟩ S[k]).2.2 = 0 → InvP (stepC ⟨s1, l1, dl n1, m1⟩ S[k]).1) := Lib.hid (fun he => inv_step HInv.out he)
        clear hdrop HX HInv
        by_cases h1 : s1 = 1
        · subst h1
          have hl1 := i6 rfl
          have HX2 : Hid (F0 = feedA ⟨if l1 - 1 = 0 then 2 else 1, l1 - 1, dl n1, m1 + 1⟩ (bs ++ [S[k]]) (k + 1) ((dl S).drop (k + 1))) := Lib.hid (by
            rw [HX1.out, step_one, if_neg (by simp)])
          have HI2 : Hid (InvP ⟨if l1 - 1 = 0 then 2 else 1, l1 - 1, dl n1, m1 + 1⟩) := Lib.hid (by
            have := HIS.out (by rw [step_one])
            rw [step_one] at this
            exact this)
          have HN2 : Hid (On + 1 = (bs ++ [S[k]]).length) := Lib.hid (by rw [List.length_append, ← HN.out]; rfl)
          clear HX1 HIS HN i6
          obtain ⟨sv, hsv⟩ : ∃ x : Int, (if l1 - 1 = 0 then (2 : Int) else 1) = x := ⟨_, rfl⟩
          rw [hsv] at HX2 HI2
          have HSV := Lib.hid hsv
          clear hsv
          obtain ⟨bk, hbk⟩ : ∃ b, S[k] = b := ⟨_, rfl⟩
          rw [hbk] at HX2 HN2
          have HSrc := Lib.hid (src_one wr 5 (bvs [bk]) 1 1 rfl)
          have HO2 := Lib.hid (HO.out.up (ba1 wr (.cells #[.int .u8 (bk.toNat : Int)] 5)))
          have Hn2 := Lib.hid (Hn.out.alloc (.cells #[.int .u8 (bk.toNat : Int)] 5))
          have Hc2 := Lib.hid (Hc.out.alloc (.cells #[.int .u8 (bk.toNat : Int)] 5))
          have Hr2 := Lib.hid (Hr.out.alloc (.cells #[.int .u8 (bk.toNat : Int)] 5))
          have hBw : w.heap.size ≤ (wr.alloc (.cells #[.int .u8 (bk.toNat : Int)] 5)).heap.size := HO2.out.le
          clear Hn Hc Hr HO
          go_wp2_with (at_builtin; refine wpList_app _ rfl _ _ 22 rfl w.heap.size 5 i5 _ 1 1 (by decide) Tryz.underlying22 hi hz0 hz1 hz2 rfl (.slice OA On Oc) On (bvs bs) rfl HO2.out.row (some ⟨wr.heap.size, 0, none⟩) 1 1 (bvs [bk]) rfl HSrc.out (bvs_one _) ?_ ?_ hBw (On + 1) rfl ?_; (unfold maxLen; omega); omega; intro A' c' w2 y1 y2 y3; refine Hid.out ?_)
          have HO3 := Lib.hid (HO2.out.app (cs' := bvs (bs ++ [bk])) (by rw [bvs, List.map_append]; exact y1) y2)
          have Hn3 := Lib.hid (HO2.out.box y2 Hn2.out (by decide))
          have Hc3 := Lib.hid (HO2.out.box y2 Hc2.out (by decide))
          have Hr3 := Lib.hid (HO2.out.box y2 Hr2.out (by decide))
          clear y1 y2 y3 HO2 HSrc Hn2 Hc2 Hr2 hBw c0 c1 c2 c3
          refine Lib.hid ?_
          have HPs := Lib.hid (pass_any gn l1 n1 m1 w2 Hn3.out (by omega) (by omega))
          rw [HSV.out] at HPs
          go_wp2_with fail
          refine HPs.out.mono ?_
          rintro e w3 ⟨rfl, b3, hu3⟩
          have Hn4 := Lib.hid b3
          have Hc4 := Lib.hid (Hc3.out.but hu3 (by omega))
          have Hr4 := Lib.hid (Hr3.out.but hu3 (by omega))
          have HO4 := Lib.hid (HO3.out.but hu3 Hn3.out (by decide) HGN.out)
          clear b3 hu3 HPs Hn3 Hc3 Hr3 HO3
          go_wp2
          go_roundw
          case rel => exact ⟨k + 1, A', On + 1, c', bs ++ [bk], sv, l1 - 1, n1, m1 + 1, by omega, by go_num, rfl, by omega, HN2, HI2, HX2, Hn4, Hc4, Hr4, HO4⟩
          case measure => simp [intOf]; omega
        · have h1b : (s1 == 1) = false := beq_eq_false_iff_ne.2 h1
          have hs : s1 = 0 ∨ s1 = 2 ∨ s1 = 3 := by omega
          have hxl : dl (S.extract k (k + 1)) = [S[k]] := by
            rw [dl_ext, List.take_add_one, dl_at hlt, List.drop_append_of_le_length (by rw [List.length_take, dl_len]; omega), List.drop_of_length_le (by rw [List.length_take]; omega)]
            rfl
          have HRd := Lib.hid (read_any gn s1 l1 n1 m1 (S.extract k (k + 1)) S[k] hxl (by omega) hs (by omega) wr Hn.out)
          have HX2 : Hid (F0 = if (stepQ s1 l1 (dl n1) m1 S[k]).2 ≠ 0 then (⟨s1, l1, dl n1, m1⟩, k, bs, (stepQ s1 l1 (dl n1) m1 S[k]).2) else feedA (stepQ s1 l1 (dl n1) m1 S[k]).1 bs (k + 1) ((dl S).drop (k + 1))) := Lib.hid (by
            rw [HX1.out, step_none h1, List.append_nil]
            rfl)
          have HI2 : Hid ((stepQ s1 l1 (dl n1) m1 S[k]).2 = 0 → InvP (stepQ s1 l1 (dl n1) m1 S[k]).1) := HIS
          clear hxl HX1 HIS hs h1 h4
          obtain ⟨q, hq⟩ : ∃ q, stepQ s1 l1 (dl n1) m1 S[k] = q := ⟨_, rfl⟩
          rw [hq] at HRd HX2 HI2
          clear hq
          obtain ⟨⟨sq, lq, nq, mq⟩, er⟩ := q
          simp only at HX2 HI2
          go_wp2_with fail
          refine HRd.out.mono ?_
          rintro e w3 ⟨nR, rfl, hnR, b3, hu3⟩
          simp only at hnR b3 ⊢
          subst hnR
          have Hn4 := Lib.hid b3
          have Hc4 := Lib.hid (Hc.out.but hu3 (by omega))
          have Hr4 := Lib.hid (Hr.out.but hu3 (by omega))
          have HO4 := Lib.hid (HO.out.but hu3 Hn.out (by decide) HGN.out)
          clear b3 hu3 HRd Hn Hc Hr HO c0 c1 c2 c3
          by_cases her : er = 0
          · subst her
            have HX3 : Hid (F0 = feedA (ckOf sq lq nR mq) bs (k + 1) ((dl S).drop (k + 1))) := Lib.hid (by rw [HX2.out, if_neg (by simp)]; rfl)
            have HI3 : Hid (InvP (ckOf sq lq nR mq)) := Lib.hid (HI2.out rfl)
            clear HX2 HI2 i6
            go_wp2
            go_roundw
            case rel => exact ⟨k + 1, OA, On, Oc, bs, sq, lq, nR, mq, by omega, by go_num, rfl, by omega, HN, HI3, HX3, Hn4, Hc4, Hr4, HO4⟩
            case measure => simp [intOf]; omega
          · have HV : Hid (Q = (ckOf s l ln m, 0, [], er)) := Lib.hid (by rw [HE.out, HX2.out, if_pos her, if_neg her])
            have t0 : (er != 0) = true := bne_iff_ne.2 her
            obtain ⟨c0, c1, c2, c3⟩ := Hc4.out.four
            clear her HX2 HI2
            have HQ := Lib.hid (Hr4.out.set4 (.int .i64 (s)) (.int .i64 (l)) (.string ln) (.int .i64 (m))).four
            have HW := Lib.hid (below_set4 HO4.out.hb (g := g + 1) HG.out (.int .i64 (s)) (.int .i64 (l)) (.string ln) (.int .i64 (m)))
            obtain ⟨k0, k1, k2, k3⟩ := Hr4.out.four
            obtain ⟨f0, f1, f2, f3⟩ := Hr4.out.fourf
            go_wp2
            obtain ⟨q0, q1, q2, q3⟩ := HQ.out
            refine bodyPost_ret (v := .tuple #[.agg #[.int .i64 (s), .int .i64 (l), .string ln, .int .i64 (m)], .int .i64 (0), .string ⟨#[]⟩, .int .i64 (er)]) (by simp [results, Tryz.results89, go_sem, q0, q1, q2, q3]) rfl ?_
            exact ⟨ln, ⟨#[]⟩, by rw [HV.out]; try rfl, by rw [HV.out]; try rfl, by rw [HV.out]; try rfl, HW.out⟩
      · have HV : Hid (Q = (ckOf s1 l1 n1 m1, k, bs, 0)) := Lib.hid (by
          have e : F0 = (ckOf s1 l1 n1 m1, k, bs, 0) := by
            rw [HX.out]
            by_cases h4 : s1 = 4
            · exact feed_end (show (ckOf s1 l1 n1 m1).s = 4 from h4) _ _ _
            · rw [List.drop_of_length_le (by rw [dl_len]; omega)]
              rfl
          rw [HE.out, e]
          rfl)
        have hcase : ¬ k < S.size ∨ (k < S.size ∧ s1 = 4) := by omega
        clear hgo HX HInv i6
        have k1 := conv_row HO.out.row HN.out
        have k2 : (convert 22 9 (.slice OA On Oc)).run Tryz.prog wr.drew = .ok (.string ⟨bs.toArray⟩) wr.drew := conv_row (W := wr.drew) HO.out.row HN.out
        rcases hcase with hh | ⟨hh, rfl⟩
        · have hki : ¬ (k : Int) < (S.size : Int) := by omega
          have HQ := Lib.hid (Hr.out.set4 (.int .i64 (s1)) (.int .i64 (l1)) (.string n1) (.int .i64 (m1))).four
          have HW := Lib.hid (below_set4 HO.out.hb (g := g + 1) HG.out (.int .i64 (s1)) (.int .i64 (l1)) (.string n1) (.int .i64 (m1)))
          have hu4 : But (g + 1) wr ((((wr.setCell ⟨g + 1, 0, none⟩ (.int .i64 s1)).setCell ⟨g + 1, 1, none⟩ (.int .i64 l1)).setCell ⟨g + 1, 2, none⟩ (.string n1)).setCell ⟨g + 1, 3, none⟩ (.int .i64 m1)) := ((((But.refl (g + 1) wr).set 0 _).set 1 _).set 2 _).set 3 _
          have hrow4 := HO.out.row.but hu4 Hr.out (by decide)
          have k3 := conv_row hrow4 HN.out
          have k4 : (convert 22 9 (.slice OA On Oc)).run Tryz.prog ((((wr.setCell ⟨g + 1, 0, none⟩ (.int .i64 s1)).setCell ⟨g + 1, 1, none⟩ (.int .i64 l1)).setCell ⟨g + 1, 2, none⟩ (.string n1)).setCell ⟨g + 1, 3, none⟩ (.int .i64 m1)).drew = .ok (.string ⟨bs.toArray⟩) ((((wr.setCell ⟨g + 1, 0, none⟩ (.int .i64 s1)).setCell ⟨g + 1, 1, none⟩ (.int .i64 l1)).setCell ⟨g + 1, 2, none⟩ (.string n1)).setCell ⟨g + 1, 3, none⟩ (.int .i64 m1)).drew := conv_row (W := ((((wr.setCell ⟨g + 1, 0, none⟩ (.int .i64 s1)).setCell ⟨g + 1, 1, none⟩ (.int .i64 l1)).setCell ⟨g + 1, 2, none⟩ (.string n1)).setCell ⟨g + 1, 3, none⟩ (.int .i64 m1)).drew) hrow4 HN.out
          clear hu4 hrow4
          obtain ⟨x0, x1, x2, x3⟩ := Hr.out.four
          obtain ⟨f0, f1, f2, f3⟩ := Hr.out.fourf
          go_upto_region 14 with fail
          go_region
          all_goals
            go_wp2
            obtain ⟨q0, q1, q2, q3⟩ := HQ.out
            refine bodyPost_ret (v := .tuple #[.agg #[.int .i64 (s1), .int .i64 (l1), .string n1, .int .i64 (m1)], .int .i64 (k), .string ⟨bs.toArray⟩, .int .i64 (0)]) (by simp [results, Tryz.results89, go_sem, q0, q1, q2, q3]) rfl ?_
            exact ⟨n1, ⟨bs.toArray⟩, by rw [HV.out]; try rfl, by rw [HV.out]; try rfl, by rw [HV.out, dl_mk], by first | exact HW.out | exact HW.out.drew⟩
        · have hki : (k : Int) < (S.size : Int) := by omega
          have HQ := Lib.hid (Hr.out.set4 (.int .i64 (4)) (.int .i64 (l1)) (.string n1) (.int .i64 (m1))).four
          have HW := Lib.hid (below_set4 HO.out.hb (g := g + 1) HG.out (.int .i64 (4)) (.int .i64 (l1)) (.string n1) (.int .i64 (m1)))
          have hu4 : But (g + 1) wr ((((wr.setCell ⟨g + 1, 0, none⟩ (.int .i64 4)).setCell ⟨g + 1, 1, none⟩ (.int .i64 l1)).setCell ⟨g + 1, 2, none⟩ (.string n1)).setCell ⟨g + 1, 3, none⟩ (.int .i64 m1)) := ((((But.refl (g + 1) wr).set 0 _).set 1 _).set 2 _).set 3 _
          have hrow4 := HO.out.row.but hu4 Hr.out (by decide)
          have k3 := conv_row hrow4 HN.out
          have k4 : (convert 22 9 (.slice OA On Oc)).run Tryz.prog ((((wr.setCell ⟨g + 1, 0, none⟩ (.int .i64 4)).setCell ⟨g + 1, 1, none⟩ (.int .i64 l1)).setCell ⟨g + 1, 2, none⟩ (.string n1)).setCell ⟨g + 1, 3, none⟩ (.int .i64 m1)).drew = .ok (.string ⟨bs.toArray⟩) ((((wr.setCell ⟨g + 1, 0, none⟩ (.int .i64 4)).setCell ⟨g + 1, 1, none⟩ (.int .i64 l1)).setCell ⟨g + 1, 2, none⟩ (.string n1)).setCell ⟨g + 1, 3, none⟩ (.int .i64 m1)).drew := conv_row (W := ((((wr.setCell ⟨g + 1, 0, none⟩ (.int .i64 4)).setCell ⟨g + 1, 1, none⟩ (.int .i64 l1)).setCell ⟨g + 1, 2, none⟩ (.string n1)).setCell ⟨g + 1, 3, none⟩ (.int .i64 m1)).drew) hrow4 HN.out
          clear hu4 hrow4
          obtain ⟨x0, x1, x2, x3⟩ := Hr.out.four
          obtain ⟨f0, f1, f2, f3⟩ := Hr.out.fourf
          go_upto_region 14 with fail
          go_region
          all_goals
            go_wp2
            obtain ⟨q0, q1, q2, q3⟩ := HQ.out
            refine bodyPost_ret (v := .tuple #[.agg #[.int .i64 (4), .int .i64 (l1), .string n1, .int .i64 (m1)], .int .i64 (k), .string ⟨bs.toArray⟩, .int .i64 (0)]) (by simp [results, Tryz.results89, go_sem, q0, q1, q2, q3]) rfl ?_
            exact ⟨n1, ⟨bs.toArray⟩, by rw [HV.out]; try rfl, by rw [HV.out]; try rfl, by rw [HV.out, dl_mk], by first | exact HW.out | exact HW.out.drew⟩
end Go.Proofs.YtdlihfbaepjliaaGreatDoor
