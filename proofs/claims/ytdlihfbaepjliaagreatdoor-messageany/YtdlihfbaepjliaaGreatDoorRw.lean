/-
  Words for readers and messages in memory; the walks of the document's own ends, none, New, fail and whole.
-/
import Derived.Test.YtdlihfbaepjliaaGreatDoorJRefI
import Derived.Test.YtdlihfbaepjliaaGreatDoorCkF
import Derived.Test.YtdlihfbaepjliaaGreatDoorProg
import Derived.Lib.SlTrimSet
import Derived.WalkKit
import Derived.Lib.Split
import Derived.WalkSpells
import Derived.WalkLawsBesides
import Derived.WalkSmall
import Derived.Lib.Hide
import Derived.IntWalk
import Derived.BigQuiet
import Derived.Laws.OwnMore
import Derived.Deep.AppendLies
import Derived.Deep.RegionLaw
import Derived.Deep.Upon
import Derived.Deep.DeepCutAuto
import Derived.Lib.IndexLaws
import Derived.Shelf.LaysM
import Derived.Shelf.Small.Strs
import Derived.Shelf.Small.Wraps
import Derived.Shelf.Strings.Search1
import Derived.Shelf.Strings.Search2
import Derived.Shelf.Strings.SlTrimAscii
import Derived.Shelf.Strings.Split
import Derived.Shelf.Strings.Prefix
import Derived.Shelf.Strconv.Itoa4
import Derived.Lib.SmallJoins
import Derived.Lib.LaidTab
import Derived.Lib.AppendIntMem
import Derived.Lib.IndexAny
import Derived.RangeFuncNested
import Derived.RangeFuncBound
import Derived.RangeFuncCalls
import Derived.RangeFuncLeaves
import Derived.Shelf.Abstract
import Derived.Shelf.RegionOpen
import Derived.OwnWalkIn
import Derived.TacticsInMore
import Derived.LoopNIn
import Derived.LoopIn
import Derived.Maps.AppendAt
import Derived.Deep.RegionHeld3
import Derived.Laws.BytesArg
import Derived.Laws.IdiomStrings
namespace Go.Proofs.YtdlihfbaepjliaaGreatDoor
open Go.RowKit

theorem Box.c17 {w : World} {g : Nat} {ty : TypeId} {x0 x1 x2 x3 x4 x5 x6 x7 x8 x9 x10 x11 x12 x13 x14 x15 x16 : Value} (h : Box w g ty #[x0, x1, x2, x3, x4, x5, x6, x7, x8, x9, x10, x11, x12, x13, x14, x15, x16]) : w.cell? ⟨g, 0, none⟩ = some x0 ∧ w.cell? ⟨g, 1, none⟩ = some x1 ∧ w.cell? ⟨g, 2, none⟩ = some x2 ∧ w.cell? ⟨g, 3, none⟩ = some x3 ∧ w.cell? ⟨g, 4, none⟩ = some x4 ∧ w.cell? ⟨g, 5, none⟩ = some x5 ∧ w.cell? ⟨g, 6, none⟩ = some x6 ∧ w.cell? ⟨g, 7, none⟩ = some x7 ∧ w.cell? ⟨g, 8, none⟩ = some x8 ∧ w.cell? ⟨g, 9, none⟩ = some x9 ∧ w.cell? ⟨g, 10, none⟩ = some x10 ∧ w.cell? ⟨g, 11, none⟩ = some x11 ∧ w.cell? ⟨g, 12, none⟩ = some x12 ∧ w.cell? ⟨g, 13, none⟩ = some x13 ∧ w.cell? ⟨g, 14, none⟩ = some x14 ∧ w.cell? ⟨g, 15, none⟩ = some x15 ∧ w.cell? ⟨g, 16, none⟩ = some x16 := ⟨h.c 0 rfl, h.c 1 rfl, h.c 2 rfl, h.c 3 rfl, h.c 4 rfl, h.c 5 rfl, h.c 6 rfl, h.c 7 rfl, h.c 8 rfl, h.c 9 rfl, h.c 10 rfl, h.c 11 rfl, h.c 12 rfl, h.c 13 rfl, h.c 14 rfl, h.c 15 rfl, h.c 16 rfl⟩
theorem Box.f17 {w : World} {g : Nat} {ty : TypeId} {cs : Array Value} (h : Box w g ty cs) : w.frozen? ⟨g, 0, none⟩ = false ∧ w.frozen? ⟨g, 1, none⟩ = false ∧ w.frozen? ⟨g, 2, none⟩ = false ∧ w.frozen? ⟨g, 3, none⟩ = false ∧ w.frozen? ⟨g, 4, none⟩ = false ∧ w.frozen? ⟨g, 5, none⟩ = false ∧ w.frozen? ⟨g, 6, none⟩ = false ∧ w.frozen? ⟨g, 7, none⟩ = false ∧ w.frozen? ⟨g, 8, none⟩ = false ∧ w.frozen? ⟨g, 9, none⟩ = false ∧ w.frozen? ⟨g, 10, none⟩ = false ∧ w.frozen? ⟨g, 11, none⟩ = false ∧ w.frozen? ⟨g, 12, none⟩ = false ∧ w.frozen? ⟨g, 13, none⟩ = false ∧ w.frozen? ⟨g, 14, none⟩ = false ∧ w.frozen? ⟨g, 15, none⟩ = false ∧ w.frozen? ⟨g, 16, none⟩ = false := ⟨h.f 0, h.f 1, h.f 2, h.f 3, h.f 4, h.f 5, h.f 6, h.f 7, h.f 8, h.f 9, h.f 10, h.f 11, h.f 12, h.f 13, h.f 14, h.f 15, h.f 16⟩
theorem Box.set17 {w : World} {g : Nat} {ty : TypeId} {x0 x1 x2 x3 x4 x5 x6 x7 x8 x9 x10 x11 x12 x13 x14 x15 x16 : Value} (h : Box w g ty #[x0, x1, x2, x3, x4, x5, x6, x7, x8, x9, x10, x11, x12, x13, x14, x15, x16]) (u0 u1 u2 u3 u4 u5 u6 u7 u8 u9 u10 u11 u12 u13 u14 u15 u16 : Value) : Box (((((((((((((((((w.setCell ⟨g, 0, none⟩ u0).setCell ⟨g, 1, none⟩ u1).setCell ⟨g, 2, none⟩ u2).setCell ⟨g, 3, none⟩ u3).setCell ⟨g, 4, none⟩ u4).setCell ⟨g, 5, none⟩ u5).setCell ⟨g, 6, none⟩ u6).setCell ⟨g, 7, none⟩ u7).setCell ⟨g, 8, none⟩ u8).setCell ⟨g, 9, none⟩ u9).setCell ⟨g, 10, none⟩ u10).setCell ⟨g, 11, none⟩ u11).setCell ⟨g, 12, none⟩ u12).setCell ⟨g, 13, none⟩ u13).setCell ⟨g, 14, none⟩ u14).setCell ⟨g, 15, none⟩ u15).setCell ⟨g, 16, none⟩ u16) g ty #[u0, u1, u2, u3, u4, u5, u6, u7, u8, u9, u10, u11, u12, u13, u14, u15, u16] := by
  have := (((((((((((((((((h.set 0 u0).set 1 u1).set 2 u2).set 3 u3).set 4 u4).set 5 u5).set 6 u6).set 7 u7).set 8 u8).set 9 u9).set 10 u10).set 11 u11).set 12 u12).set 13 u13).set 14 u14).set 15 u15).set 16 u16)
  simpa using this
theorem below_set17 {B : Nat} {a w : World} (h : Below B a w) {g : Nat} (hg : B ≤ g) (u0 u1 u2 u3 u4 u5 u6 u7 u8 u9 u10 u11 u12 u13 u14 u15 u16 : Value) : Below B a (((((((((((((((((w.setCell ⟨g, 0, none⟩ u0).setCell ⟨g, 1, none⟩ u1).setCell ⟨g, 2, none⟩ u2).setCell ⟨g, 3, none⟩ u3).setCell ⟨g, 4, none⟩ u4).setCell ⟨g, 5, none⟩ u5).setCell ⟨g, 6, none⟩ u6).setCell ⟨g, 7, none⟩ u7).setCell ⟨g, 8, none⟩ u8).setCell ⟨g, 9, none⟩ u9).setCell ⟨g, 10, none⟩ u10).setCell ⟨g, 11, none⟩ u11).setCell ⟨g, 12, none⟩ u12).setCell ⟨g, 13, none⟩ u13).setCell ⟨g, 14, none⟩ u14).setCell ⟨g, 15, none⟩ u15).setCell ⟨g, 16, none⟩ u16) := (((((((((((((((((h.setCell (p := ⟨g, 0, none⟩) hg _).setCell (p := ⟨g, 1, none⟩) hg _).setCell (p := ⟨g, 2, none⟩) hg _).setCell (p := ⟨g, 3, none⟩) hg _).setCell (p := ⟨g, 4, none⟩) hg _).setCell (p := ⟨g, 5, none⟩) hg _).setCell (p := ⟨g, 6, none⟩) hg _).setCell (p := ⟨g, 7, none⟩) hg _).setCell (p := ⟨g, 8, none⟩) hg _).setCell (p := ⟨g, 9, none⟩) hg _).setCell (p := ⟨g, 10, none⟩) hg _).setCell (p := ⟨g, 11, none⟩) hg _).setCell (p := ⟨g, 12, none⟩) hg _).setCell (p := ⟨g, 13, none⟩) hg _).setCell (p := ⟨g, 14, none⟩) hg _).setCell (p := ⟨g, 15, none⟩) hg _).setCell (p := ⟨g, 16, none⟩) hg _)

/-- a reader of that many parts -/
def rr (a : Bool) (q : ByteArray) (hd : ByteArray) (k : Int) (z : Int) (b : ByteArray) (cs : Int) (cl : Int) (cn : ByteArray) (cm : Int) (m : ByteArray) (t : ByteArray) (st : Int) (r : ByteArray) (mi : Int) (fs : List Fd) (e : Int) : Rr := ⟨a, dl q, dl hd, k, z, dl b, ckOf cs cl cn cm, hdOf m t st r mi fs, e⟩
/-- fields that lie in new memory, or those that came in -/
def Loc (w : World) (A0 : Option Addr) (f0 : List Fd) (A : Option Addr) (fs : List Fd) : Prop := ∀ ad, A = some ad → w.heap.size ≤ ad.block ∨ (A0 = some ad ∧ fs = f0)
theorem loc_none (w : World) (A0 : Option Addr) (f0 fs : List Fd) : Loc w A0 f0 none fs := fun _ h => by cases h
theorem loc_same (w : World) (A0 : Option Addr) (f0 : List Fd) : Loc w A0 f0 A0 f0 := fun _ h => .inr ⟨h, rfl⟩
theorem Loc.on {w w1 : World} {A0 A1 A2 : Option Addr} {f0 f1 f2 : List Fd} (h : Loc w A0 f0 A1 f1) (hs : w.heap.size ≤ w1.heap.size) (k : Loc w1 A1 f1 A2 f2) : Loc w A0 f0 A2 f2 := by
  intro ad hA
  rcases k ad hA with h1 | ⟨h1, h2⟩
  · exact .inl (Nat.le_trans hs h1)
  · rw [h2]
    exact h ad h1
theorem Fs.lt {w : World} {S : Sli} {fs : List Fd} (h : Fs w S fs) (hne : fs ≠ []) {ad : Addr} (hA : S.A = some ad) : ad.block < w.heap.size := by
  have hp : 0 < (fvs fs).length := by
    rw [fvs_len]
    have := List.length_pos_iff.2 hne
    omega
  obtain ⟨b, o, h1, h2, _⟩ := h.rd hp
  rw [h1] at hA
  obtain rfl := Option.some.inj hA
  exact h2
/-- a block that no fields lie in -/
def Away (g : Nat) (A : Option Addr) (fs : List Fd) : Prop := fs ≠ [] → ∀ ad, A = some ad → ad.block ≠ g
theorem Fs.keep {w w' : World} {S : Sli} {fs : List Fd} (h : Fs w S fs) (hk : fs ≠ [] → ∀ ad, S.A = some ad → ∀ o, w'.cell? ⟨ad.block, o, none⟩ = w.cell? ⟨ad.block, o, none⟩) (hs : w.heap.size ≤ w'.heap.size) : Fs w' S fs := by
  refine ⟨h.len, ?_, h.cap, h.le⟩
  intro hp
  obtain ⟨b, o, h1, h2, h3⟩ := h.rd hp
  have hne : fs ≠ [] := fun e => by rw [e] at hp; simp [fvs] at hp
  exact ⟨b, o, h1, Nat.lt_of_lt_of_le h2 hs, fun j u hu => by rw [hk hne _ h1 (o + j)]; exact h3 j u hu⟩
theorem Fs.off {w : World} {S : Sli} {fs : List Fd} (h : Fs w S fs) {g i : Nat} (ha : Away g S.A fs) (u : Value) : Fs (w.setCell ⟨g, i, none⟩ u) S fs :=
  h.keep (fun hne ad hA o => World.cell?_of_block (w := w) (Below.heap_setCell w ⟨g, i, none⟩ u ad.block (ha hne ad hA))) (by simp [World.setCell])
/-- a reader is handed back -/
def ReadEnds (R : Rr) (A0 : Option Addr) (f0 : List Fd) (w : World) (E : Ending) (w' : World) : Prop :=
  ∃ (a : Bool) (q : ByteArray) (hd : ByteArray) (k : Int) (z : Int) (b : ByteArray) (cs : Int) (cl : Int) (cn : ByteArray) (cm : Int) (m : ByteArray) (t : ByteArray) (st : Int) (r : ByteArray) (mi : Int) (A : Option Addr) (n : Nat) (c : Nat) (e : Int) (fs : List Fd), E = .returned (.agg #[.bool a, .string q, .string hd, .int .i64 k, .int .i64 z, .string b, .int .i64 cs, .int .i64 cl, .string cn, .int .i64 cm, .string m, .string t, .int .i64 st, .string r, .int .i64 mi, .slice A n c, .int .i64 e]) ∧ rr a q hd k z b cs cl cn cm m t st r mi fs e = R ∧ Fs w' ⟨A, n, c⟩ fs ∧ Loc w A0 f0 A fs ∧ Below w.heap.size w w'
/-- texts of a reader that are not too long -/
structure SmR (R : Rr) : Prop where
  hd : R.hd.length ≤ 4096
  b : R.b.length ≤ 4611686018427387904
  ln : R.ck.ln.length ≤ 4096
  m : R.now.m.length ≤ 4096
  t : R.now.t.length ≤ 4096
  r : R.now.r.length ≤ 4096
  n : R.now.fs.length ≤ 4096
  fs : ∀ f ∈ R.now.fs, f.1.length ≤ 4096 ∧ f.2.length ≤ 4096
theorem few_of {fs : List Fd} (h : ∀ f ∈ dls fs, f.1.length ≤ 4096 ∧ f.2.length ≤ 4096) : Few fs := by
  intro f hf
  have := h (dl f.1, dl f.2) (List.mem_map.2 ⟨f, hf, rfl⟩)
  simp only [dl_len] at this
  exact this
theorem dls_len (fs : List Fd) : (dls fs).length = fs.length := List.length_map _

set_option maxHeartbeats 1000000 in
theorem rends_any (s : ByteArray) (hs : s.size ≤ 4611686018427387904) (w : World) : Calls Tryz.prog 46 #[.string s] w (fun e w' => e = .returned (.bool (ends4 (dl s))) ∧ w' = w) := by
  obtain ⟨B, hB⟩ : ∃ B, ends4 (dl s) = B := ⟨_, rfl⟩
  rw [hB]
  have HB : Hid (B = (decide (4 ≤ s.size) && decide ((s.extract (s.size - 4) s.size) = ⟨#[13, 10, 13, 10]⟩))) := Lib.hid (by
    rw [← hB]
    unfold ends4
    rw [dl_len]
    congr 1
    rw [decide_eq_decide]
    have e : dl (s.extract (s.size - 4) s.size) = (dl s).drop (s.size - 4) := by
      rw [dl_ext, List.take_of_length_le (by rw [dl_len]; exact Nat.le_refl _)]
    constructor
    · intro h
      exact dl_inj (by rw [e, h])
    · intro h
      rw [← e, h])
  clear hB
  by_cases h4 : 4 ≤ s.size
  · have h4i : (4 : Int) ≤ (s.size : Int) := by omega
    have t1 : IntKind.i64.wrap ((s.size : Int) - 4) = (s.size : Int) - 4 := IntWalk.i64_in _ (by omega)
    have t2 : ((s.size : Int) - 4).toNat = s.size - 4 := by omega
    have t3 : (0 : Int) ≤ (s.size : Int) - 4 := by omega
    have t4 : (s.size : Int) - 4 ≤ (s.size : Int) := by omega
    rw [decide_eq_true h4, Bool.true_and] at HB
    by_cases hx : s.extract (s.size - 4) s.size = ⟨#[13, 10, 13, 10]⟩
    · rw [decide_eq_true hx] at HB
      go_enter Tryz.func46, Tryz.ntmps46
      go_wp2
      go_ret
      exact ⟨ret_bool HB.out.symm, rfl⟩
    · rw [decide_eq_false hx] at HB
      have hrs : ((s.extract (s.size - 4) s.size).toList == [13, 10, 13, 10]) = false := tl_lit2 (fun h => hx (dl_inj h))
      clear hx
      go_enter Tryz.func46, Tryz.ntmps46
      go_wp2
      go_ret
      exact ⟨ret_bool HB.out.symm, rfl⟩
  · have h4i : ¬ (4 : Int) ≤ (s.size : Int) := by omega
    rw [decide_eq_false h4, Bool.false_and] at HB
    go_enter Tryz.func46, Tryz.ntmps46
    go_wp2
    go_ret
    exact ⟨ret_bool HB.out.symm, rfl⟩

set_option maxHeartbeats 1000000 in
theorem rsameF_nil (A : Option Addr) (n c : Nat) (w : World) (hn : n ≤ maxLen) : Calls Tryz.prog 23 #[.slice A n c, .slice none 0 0] w (BoolEnds (decide (n = 0)) w) := by
  by_cases h : n = 0
  · subst h
    go_enter Tryz.func23, Tryz.ntmps23
    go_wp2_with fail
    go_loopw [5] (fun i wr => i = .int .i64 0 ∧ Hid (Below w.heap.size w wr)) (fun _ _ => 0)
    case atStart => exact ⟨rfl, Lib.hid (Below.refl _ _)⟩
    case round =>
      obtain ⟨rfl, HB⟩ := hrel
      go_wp2
      go_ret
      exact ⟨rfl, HB.out⟩
  · have hi : ((n : Int) != 0) = true := bne_iff_ne.2 (by omega)
    have hi2 : ¬ ((n : Int) = 0) := by omega
    rw [decide_eq_false h]
    go_enter Tryz.func23, Tryz.ntmps23
    go_wp2
    go_ret
    exact ⟨rfl, Below.refl _ _⟩

set_option maxRecDepth 100000 in
set_option maxHeartbeats 2000000 in
theorem rsameH_zero (m t : ByteArray) (st : Int) (r : ByteArray) (mi : Int) (A : Option Addr) (n c : Nat) (fs : List Fd) (w : World) (hF : Fs w ⟨A, n, c⟩ fs) : Calls Tryz.prog 25 #[.agg #[.string m, .string t, .int .i64 st, .string r, .int .i64 mi, .slice A n c], .agg #[.string ⟨#[]⟩, .string ⟨#[]⟩, .int .i64 0, .string ⟨#[]⟩, .int .i64 0, .slice none 0 0]] w (BoolEnds (decide (hdZ (hdOf m t st r mi fs))) w) := by
  have hln := hF.len
  have hlm := hF.le
  simp only at hln hlm
  obtain ⟨B, hB⟩ : ∃ B, decide (hdZ (hdOf m t st r mi fs)) = B := ⟨_, rfl⟩
  rw [hB]
  have HB : Hid (B = decide (m.size = 0 ∧ t.size = 0 ∧ st = 0 ∧ r.size = 0 ∧ mi = 0 ∧ n = 0)) := Lib.hid (by
    rw [← hB, decide_eq_decide]
    have e : ∀ x : ByteArray, dl x = [] ↔ x.size = 0 := fun x => by rw [← dl_len, List.length_eq_zero_iff]
    have e2 : dls fs = [] ↔ n = 0 := by rw [← List.length_eq_zero_iff, dls_len, hln]
    simp only [hdZ, hdOf, e, e2])
  clear hB
  have hb0 := ba2 w (.cells #[.string m, .string t, .int .i64 st, .string r, .int .i64 mi, .slice A n c] 29) (.cells #[.string ⟨#[]⟩, .string ⟨#[]⟩, .int .i64 0, .string ⟨#[]⟩, .int .i64 0, .slice none 0 0] 29)
  have em := isEmp (s := m)
  have et := isEmp (s := t)
  have er := isEmp (s := r)
  have HS := Lib.hid (fun W => rsameF_nil A n c W (Nat.le_trans hF.le.1 hF.le.2))
  clear hF hln hlm
  by_cases h1 : m.size = 0
  case neg =>
    rw [decide_eq_false h1] at em
    go_enter Tryz.func25, Tryz.ntmps25
    go_wp2
    go_ret
    exact ⟨ret_bool (by rw [HB.out, decide_eq_false (fun h => h1 h.1)]), hb0⟩
  case pos =>
    rw [decide_eq_true h1] at em
    by_cases h2 : t.size = 0
    case neg =>
      rw [decide_eq_false h2] at et
      go_enter Tryz.func25, Tryz.ntmps25
      go_wp2
      go_ret
      exact ⟨ret_bool (by rw [HB.out, decide_eq_false (fun h => h2 h.2.1)]), hb0⟩
    case pos =>
      rw [decide_eq_true h2] at et
      by_cases h3 : st = 0
      case neg =>
        have h3b : (st == 0) = false := beq_eq_false_iff_ne.2 h3
        go_enter Tryz.func25, Tryz.ntmps25
        go_wp2
        go_ret
        exact ⟨ret_bool (by rw [HB.out, decide_eq_false (fun h => h3 h.2.2.1)]), hb0⟩
      case pos =>
        subst h3
        by_cases h4 : r.size = 0
        case neg =>
          rw [decide_eq_false h4] at er
          go_enter Tryz.func25, Tryz.ntmps25
          go_wp2
          go_ret
          exact ⟨ret_bool (by rw [HB.out, decide_eq_false (fun h => h4 h.2.2.2.1)]), hb0⟩
        case pos =>
          rw [decide_eq_true h4] at er
          by_cases h5 : mi = 0
          case neg =>
            have h5b : (mi == 0) = false := beq_eq_false_iff_ne.2 h5
            go_enter Tryz.func25, Tryz.ntmps25
            go_wp2
            go_ret
            exact ⟨ret_bool (by rw [HB.out, decide_eq_false (fun h => h5 h.2.2.2.2.1)]), hb0⟩
          case pos =>
            subst h5
            have HB2 : Hid (B = decide (n = 0)) := Lib.hid (by
              rw [HB.out, decide_eq_decide]
              exact ⟨fun h => h.2.2.2.2.2, fun h => ⟨h1, h2, rfl, h4, rfl, h⟩⟩)
            clear HB h1 h2 h4
            go_enter Tryz.func25, Tryz.ntmps25
            go_wp2_with fail
            refine (HS.out _).mono ?_
            rintro e w1 ⟨rfl, hb1⟩
            obtain ⟨B2, hB2⟩ : ∃ B, decide (n = 0) = B := ⟨_, rfl⟩
            rw [hB2] at HB2 ⊢
            clear hB2
            go_wp2
            go_ret
            exact ⟨ret_bool HB2.out.symm, bon hb0 hb1⟩
set_option maxHeartbeats 1000000 in
theorem rnone_any (m t : ByteArray) (st : Int) (r : ByteArray) (mi : Int) (A : Option Addr) (n c : Nat) (fs : List Fd) (w : World) (hF : Fs w ⟨A, n, c⟩ fs) : Calls Tryz.prog 45 #[.agg #[.string m, .string t, .int .i64 st, .string r, .int .i64 mi, .slice A n c]] w (BoolEnds (decide (hdZ (hdOf m t st r mi fs))) w) := by
  have hb0 := ba1 w (.cells #[.string m, .string t, .int .i64 st, .string r, .int .i64 mi, .slice A n c] 29)
  have HS := Lib.hid (rsameH_zero m t st r mi A n c fs _ (hF.up hb0))
  clear hF
  go_enter Tryz.func45, Tryz.ntmps45
  go_wp2_with fail
  refine HS.out.mono ?_
  rintro e w1 ⟨rfl, hb1⟩
  go_wp2
  go_ret
  exact ⟨rfl, bon hb0 hb1⟩

theorem fs_zero (w : World) : Fs w ⟨none, 0, 0⟩ [] := ⟨rfl, fun h => absurd h (by simp [fvs]), fun _ => rfl, Nat.le_refl _, Nat.zero_le _⟩

set_option maxRecDepth 100000 in
set_option maxHeartbeats 2000000 in
theorem rnew_any (a : Bool) (q : ByteArray) (A0 : Option Addr) (f0 : List Fd) (w : World) : Calls Tryz.prog 14 #[.bool a, .string q] w (ReadEnds (newR a (dl q)) A0 f0 w) := by
  go_enter Tryz.func14, Tryz.ntmps14
  go_wp2
  refine bodyPost_ret (v := .agg #[.bool a, .string q, .string ⟨#[]⟩, .int .i64 0, .int .i64 0, .string ⟨#[]⟩, .int .i64 0, .int .i64 0, .string ⟨#[]⟩, .int .i64 0, .string ⟨#[]⟩, .string ⟨#[]⟩, .int .i64 0, .string ⟨#[]⟩, .int .i64 0, .slice none 0 0, .int .i64 0]) (by simp [results, Tryz.results14, go_sem]) rfl ?_
  exact ⟨a, q, ⟨#[]⟩, 0, 0, ⟨#[]⟩, 0, 0, ⟨#[]⟩, 0, ⟨#[]⟩, ⟨#[]⟩, 0, ⟨#[]⟩, 0, none, 0, 0, 0, [], rfl, rfl, fs_zero _, loc_none _ _ _ _, ba1 _ _⟩

set_option maxRecDepth 100000 in
set_option maxHeartbeats 2000000 in
theorem rfail_any (a : Bool) (q : ByteArray) (hd : ByteArray) (k : Int) (z : Int) (b : ByteArray) (cs : Int) (cl : Int) (cn : ByteArray) (cm : Int) (m : ByteArray) (t : ByteArray) (st : Int) (r : ByteArray) (mi : Int) (A : Option Addr) (n : Nat) (c : Nat) (e : Int) (er : Int) (A0 : Option Addr) (f0 : List Fd) (w : World) : Calls Tryz.prog 51 #[.agg #[.bool a, .string q, .string hd, .int .i64 k, .int .i64 z, .string b, .int .i64 cs, .int .i64 cl, .string cn, .int .i64 cm, .string m, .string t, .int .i64 st, .string r, .int .i64 mi, .slice A n c, .int .i64 e], .int .i64 er] w (ReadEnds ⟨a, dl q, [], 0, 0, [], Ck.zero, Hd.zero, er⟩ A0 f0 w) := by
  go_enter Tryz.func51, Tryz.ntmps51
  go_wp2
  refine bodyPost_ret (v := .agg #[.bool a, .string q, .string ⟨#[]⟩, .int .i64 0, .int .i64 0, .string ⟨#[]⟩, .int .i64 0, .int .i64 0, .string ⟨#[]⟩, .int .i64 0, .string ⟨#[]⟩, .string ⟨#[]⟩, .int .i64 0, .string ⟨#[]⟩, .int .i64 0, .slice none 0 0, .int .i64 er]) (by simp [results, Tryz.results51, go_sem]) rfl ?_
  exact ⟨a, q, ⟨#[]⟩, 0, 0, ⟨#[]⟩, 0, 0, ⟨#[]⟩, 0, ⟨#[]⟩, ⟨#[]⟩, 0, ⟨#[]⟩, 0, none, 0, 0, er, [], rfl, rfl, fs_zero _, loc_none _ _ _ _, ba2 _ _ _⟩

set_option maxRecDepth 100000 in
set_option maxHeartbeats 2000000 in
theorem rwhole_any (a : Bool) (q : ByteArray) (hd : ByteArray) (k : Int) (z : Int) (b : ByteArray) (cs : Int) (cl : Int) (cn : ByteArray) (cm : Int) (m : ByteArray) (t : ByteArray) (st : Int) (r : ByteArray) (mi : Int) (A : Option Addr) (n : Nat) (c : Nat) (e : Int) (fs : List Fd) (w : World) : Calls Tryz.prog 32 #[.agg #[.bool a, .string q, .string hd, .int .i64 k, .int .i64 z, .string b, .int .i64 cs, .int .i64 cl, .string cn, .int .i64 cm, .string m, .string t, .int .i64 st, .string r, .int .i64 mi, .slice A n c, .int .i64 e]] w (BoolEnds (wholeR (rr a q hd k z b cs cl cn cm m t st r mi fs e)) w) := by
  have hb0 := ba1 w (.cells #[.bool a, .string q, .string hd, .int .i64 k, .int .i64 z, .string b, .int .i64 cs, .int .i64 cl, .string cn, .int .i64 cm, .string m, .string t, .int .i64 st, .string r, .int .i64 mi, .slice A n c, .int .i64 e] 32)
  obtain ⟨B, hB⟩ : ∃ B, wholeR (rr a q hd k z b cs cl cn cm m t st r mi fs e) = B := ⟨_, rfl⟩
  rw [hB]
  have HB : Hid (B = if k = 1 then true else if k = 2 then decide ((b.size : Int) = z) else if k = 3 then decide (cs = 4) else false) := Lib.hid (by rw [← hB]; simp only [wholeR, rr, dl_len]; rfl)
  clear hB
  have hc : k = 1 ∨ k = 2 ∨ k = 3 ∨ (k ≠ 1 ∧ k ≠ 2 ∧ k ≠ 3) := by omega
  rcases hc with rfl | rfl | rfl | ⟨h1, h2, h3⟩
  · go_enter Tryz.func32, Tryz.ntmps32
    go_wp2
    go_ret
    exact ⟨ret_bool (by rw [HB.out]; rfl), hb0⟩
  · by_cases hz : (b.size : Int) = z
    · have HV : Hid (B = true) := Lib.hid (by rw [HB.out]; simp [hz])
      have hzb : ((b.size : Int) == z) = true := beq_iff_eq.2 hz
      clear HB hz
      go_enter Tryz.func32, Tryz.ntmps32
      go_wp2
      go_ret
      exact ⟨ret_bool HV.out.symm, hb0⟩
    · have HV : Hid (B = false) := Lib.hid (by rw [HB.out]; simp [hz])
      have hzb : ((b.size : Int) == z) = false := beq_eq_false_iff_ne.2 hz
      clear HB hz
      go_enter Tryz.func32, Tryz.ntmps32
      go_wp2
      go_ret
      exact ⟨ret_bool HV.out.symm, hb0⟩
  · by_cases hz : cs = 4
    · subst hz
      go_enter Tryz.func32, Tryz.ntmps32
      go_wp2
      go_ret
      exact ⟨ret_bool (by rw [HB.out]; rfl), hb0⟩
    · have HV : Hid (B = false) := Lib.hid (by rw [HB.out]; simp [hz])
      have hzb : (cs == 4) = false := beq_eq_false_iff_ne.2 hz
      clear HB hz
      go_enter Tryz.func32, Tryz.ntmps32
      go_wp2
      go_ret
      exact ⟨ret_bool HV.out.symm, hb0⟩
  · have HV : Hid (B = false) := Lib.hid (by rw [HB.out, if_neg h1, if_neg h2, if_neg h3])
    have b1 : (k == 1) = false := beq_eq_false_iff_ne.2 h1
    have b2 : (k == 2) = false := beq_eq_false_iff_ne.2 h2
    have b3 : (k == 3) = false := beq_eq_false_iff_ne.2 h3
    clear HB
    go_enter Tryz.func32, Tryz.ntmps32
    go_wp2
    go_ret
    exact ⟨ret_bool HV.out.symm, hb0⟩
theorem Fs.off17 {w : World} {S : Sli} {fs : List Fd} (h : Fs w S fs) {g : Nat} (ha : Away g S.A fs) (u0 u1 u2 u3 u4 u5 u6 u7 u8 u9 u10 u11 u12 u13 u14 u15 u16 : Value) : Fs (((((((((((((((((w.setCell ⟨g, 0, none⟩ u0).setCell ⟨g, 1, none⟩ u1).setCell ⟨g, 2, none⟩ u2).setCell ⟨g, 3, none⟩ u3).setCell ⟨g, 4, none⟩ u4).setCell ⟨g, 5, none⟩ u5).setCell ⟨g, 6, none⟩ u6).setCell ⟨g, 7, none⟩ u7).setCell ⟨g, 8, none⟩ u8).setCell ⟨g, 9, none⟩ u9).setCell ⟨g, 10, none⟩ u10).setCell ⟨g, 11, none⟩ u11).setCell ⟨g, 12, none⟩ u12).setCell ⟨g, 13, none⟩ u13).setCell ⟨g, 14, none⟩ u14).setCell ⟨g, 15, none⟩ u15).setCell ⟨g, 16, none⟩ u16) S fs := (Fs.off (Fs.off (Fs.off (Fs.off (Fs.off (Fs.off (Fs.off (Fs.off (Fs.off (Fs.off (Fs.off (Fs.off (Fs.off (Fs.off (Fs.off (Fs.off (Fs.off h ha u0) ha u1) ha u2) ha u3) ha u4) ha u5) ha u6) ha u7) ha u8) ha u9) ha u10) ha u11) ha u12) ha u13) ha u14) ha u15) ha u16)
end Go.Proofs.YtdlihfbaepjliaaGreatDoor
