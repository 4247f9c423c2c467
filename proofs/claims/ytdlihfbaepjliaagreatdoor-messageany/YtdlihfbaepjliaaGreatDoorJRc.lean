/-
  Structs in memory as functions of what they read as: heads, chunks, readers, messages.
-/
import Derived.Test.YtdlihfbaepjliaaGreatDoorJHdI
import Derived.Test.YtdlihfbaepjliaaGreatDoorRw
import Derived.Test.YtdlihfbaepjliaaGreatDoorProg
import Derived.Lib.SlTrimSet
import Derived.WalkKit
import Derived.Lib.Split
import Derived.WalkSpells
import Derived.WalkLawsBesides
import Derived.WalkSmall
import Derived.Lib.Hide
import Derived.IntWalk
import Derived.BigQuiet
import Derived.Laws.OwnMore
import Derived.Deep.AppendLies
import Derived.Deep.RegionLaw
import Derived.Deep.Upon
import Derived.Deep.DeepCutAuto
import Derived.Lib.IndexLaws
import Derived.Shelf.LaysM
import Derived.Shelf.Small.Strs
import Derived.Shelf.Small.Wraps
import Derived.Shelf.Strings.Search1
import Derived.Shelf.Strings.Search2
import Derived.Shelf.Strings.SlTrimAscii
import Derived.Shelf.Strings.Split
import Derived.Shelf.Strings.Prefix
import Derived.Shelf.Strconv.Itoa4
import Derived.Lib.SmallJoins
import Derived.Lib.LaidTab
import Derived.Lib.AppendIntMem
import Derived.Lib.IndexAny
import Derived.RangeFuncNested
import Derived.RangeFuncBound
import Derived.RangeFuncCalls
import Derived.RangeFuncLeaves
import Derived.Shelf.Abstract
import Derived.Shelf.RegionOpen
import Derived.OwnWalkIn
import Derived.TacticsInMore
import Derived.LoopNIn
import Derived.LoopIn
import Derived.Maps.AppendAt
import Derived.Deep.RegionHeld3
import Derived.Laws.BytesArg
import Derived.Laws.IdiomStrings
import Derived.Laws.Tables
import Derived.Deep.MidRow
import Derived.Test.YtdlihfbaepjliaaGreatDoorJLawB
import Derived.Test.YtdlihfbaepjliaaGreatDoorJFrA
namespace Go.Proofs.YtdlihfbaepjliaaGreatDoor
open Go.RowKit

/-- a text of those bytes -/
def tb (l : Bs) : ByteArray := ⟨l.toArray⟩
theorem dl_tb (l : Bs) : dl (tb l) = l := dl_mk l
theorem tb_dl (s : ByteArray) : tb (dl s) = s := dl_inj (dl_mk _)
theorem tb_of {s : ByteArray} {l : Bs} (h : dl s = l) : s = tb l := by rw [← h, tb_dl]
theorem tb_size (l : Bs) : (tb l).size = l.length := by rw [← dl_len, dl_tb]
theorem tb_app (a b : Bs) : tb a ++ tb b = tb (a ++ b) := dl_inj (by rw [dl_app, dl_tb, dl_tb, dl_tb])
theorem tb_nil : tb [] = ⟨#[]⟩ := rfl
theorem tb_ext (l : Bs) (i j : Nat) : (tb l).extract i j = tb ((l.take j).drop i) := dl_inj (by rw [dl_ext, dl_tb, dl_tb])
theorem mkF_dls (fs : List Fd) : mkF (dls fs) = fs := by
  unfold mkF dls
  rw [List.map_map]
  refine (List.map_congr_left (g := id) fun f _ => ?_).trans (List.map_id fs)
  exact Prod.ext (dl_inj (dl_mk _)) (dl_inj (dl_mk _))
theorem dls_mkF (fs : List (Bs × Bs)) : dls (mkF fs) = fs := by
  unfold mkF dls
  rw [List.map_map]
  refine (List.map_congr_left (g := id) fun f _ => ?_).trans (List.map_id fs)
  exact Prod.ext (dl_mk _) (dl_mk _)
/-- a head's cells; its fields lie at S -/
def hcs (H : Hd) (S : Sli) : Array Value := #[.string (tb H.m), .string (tb H.t), .int .i64 H.st, .string (tb H.r), .int .i64 H.mi, .slice S.A S.n S.c]
/-- chunks -/
def kcs (c : Ck) : Array Value := #[.int .i64 c.s, .int .i64 c.l, .string (tb c.ln), .int .i64 c.m]
/-- a reader -/
def rcs (R : Rr) (S : Sli) : Array Value := #[.bool R.a, .string (tb R.q), .string (tb R.hd), .int .i64 R.k, .int .i64 R.z, .string (tb R.b), .int .i64 R.ck.s, .int .i64 R.ck.l, .string (tb R.ck.ln), .int .i64 R.ck.m, .string (tb R.now.m), .string (tb R.now.t), .int .i64 R.now.st, .string (tb R.now.r), .int .i64 R.now.mi, .slice S.A S.n S.c, .int .i64 R.e]
theorem hdOf_tb (H : Hd) : hdOf (tb H.m) (tb H.t) H.st (tb H.r) H.mi (mkF H.fs) = H := by
  simp only [hdOf, dl_tb, dls_mkF]
theorem ckOf_tb (c : Ck) : ckOf c.s c.l (tb c.ln) c.m = c := by
  simp only [ckOf, dl_tb]
theorem rr_tb (R : Rr) : rr R.a (tb R.q) (tb R.hd) R.k R.z (tb R.b) R.ck.s R.ck.l (tb R.ck.ln) R.ck.m (tb R.now.m) (tb R.now.t) R.now.st (tb R.now.r) R.now.mi (mkF R.now.fs) R.e = R := by
  unfold rr
  rw [hdOf_tb, ckOf_tb, dl_tb, dl_tb, dl_tb]
theorem hcs_of (m t : ByteArray) (st : Int) (r : ByteArray) (mi : Int) (fs : List Fd) (S : Sli) : #[Value.string m, .string t, .int .i64 st, .string r, .int .i64 mi, .slice S.A S.n S.c] = hcs (hdOf m t st r mi fs) S := by
  simp only [hcs, hdOf, tb_dl]
theorem rcs_of (a : Bool) (q : ByteArray) (hd : ByteArray) (k : Int) (z : Int) (b : ByteArray) (cs : Int) (cl : Int) (cn : ByteArray) (cm : Int) (m : ByteArray) (t : ByteArray) (st : Int) (r : ByteArray) (mi : Int) (A : Option Addr) (n : Nat) (c : Nat) (e : Int) (fs : List Fd) : #[Value.bool a, .string q, .string hd, .int .i64 k, .int .i64 z, .string b, .int .i64 cs, .int .i64 cl, .string cn, .int .i64 cm, .string m, .string t, .int .i64 st, .string r, .int .i64 mi, .slice A n c, .int .i64 e] = rcs (rr a q hd k z b cs cl cn cm m t st r mi fs e) ⟨A, n, c⟩ := by
  simp only [rcs, rr, hdOf, ckOf, tb_dl]
theorem rcs_size (R : Rr) (S : Sli) : (rcs R S).size = 17 := rfl
theorem rcs_one (R : Rr) (S : Sli) : (rcs R S).all (·.oneCell') = true := by simp [rcs, Value.oneCell']
/-- a reader is handed back -/
def REnds (R : Rr) (A0 : Option Addr) (f0 : List Fd) (w : World) (E : Ending) (w' : World) : Prop :=
  ∃ S : Sli, E = .returned (.agg (rcs R S)) ∧ Fs w' S (mkF R.now.fs) ∧ Loc w A0 f0 S.A (mkF R.now.fs) ∧ Below w.heap.size w w'
theorem mkF_rr (a : Bool) (q : ByteArray) (hd : ByteArray) (k : Int) (z : Int) (b : ByteArray) (cs : Int) (cl : Int) (cn : ByteArray) (cm : Int) (m : ByteArray) (t : ByteArray) (st : Int) (r : ByteArray) (mi : Int) (e : Int) (fs : List Fd) : mkF (rr a q hd k z b cs cl cn cm m t st r mi fs e).now.fs = fs := mkF_dls fs
theorem ends_of {R : Rr} {A0 : Option Addr} {f0 : List Fd} {w : World} {E : Ending} {w' : World} (h : ReadEnds R A0 f0 w E w') : REnds R A0 f0 w E w' := by
  obtain ⟨a, q, hd, k, z, b, cs, cl, cn, cm, m, t, st, r, mi, A, n, c, e, fs, rfl, rfl, hF, hL, hb⟩ := h
  exact ⟨⟨A, n, c⟩, by rw [rcs_of (fs := fs)], by rw [mkF_rr]; exact hF, by rw [mkF_rr]; exact hL, hb⟩
theorem rnew_c (a : Bool) (q : Bs) (A0 : Option Addr) (f0 : List Fd) (w : World) : Calls Tryz.prog 14 #[.bool a, .string (tb q)] w (REnds (newR a q) A0 f0 w) := by
  have := (rnew_any a (tb q) A0 f0 w).mono fun _ _ h => ends_of h
  rw [dl_tb] at this
  exact this
theorem rfail_c (R : Rr) (S : Sli) (er : Int) (A0 : Option Addr) (f0 : List Fd) (w : World) : Calls Tryz.prog 51 #[.agg (rcs R S), .int .i64 er] w (REnds (failR R er) A0 f0 w) := by
  have := (rfail_any R.a (tb R.q) (tb R.hd) R.k R.z (tb R.b) R.ck.s R.ck.l (tb R.ck.ln) R.ck.m (tb R.now.m) (tb R.now.t) R.now.st (tb R.now.r) R.now.mi S.A S.n S.c R.e er A0 f0 w).mono fun _ _ h => ends_of h
  rw [dl_tb] at this
  exact this
theorem rwhole_c (R : Rr) (S : Sli) (w : World) : Calls Tryz.prog 32 #[.agg (rcs R S)] w (BoolEnds (wholeR R) w) := by
  have := rwhole_any R.a (tb R.q) (tb R.hd) R.k R.z (tb R.b) R.ck.s R.ck.l (tb R.ck.ln) R.ck.m (tb R.now.m) (tb R.now.t) R.now.st (tb R.now.r) R.now.mi S.A S.n S.c R.e (mkF R.now.fs) w
  rw [rr_tb] at this
  exact this
/-- a head and an error are handed back; the fields lie in new memory -/
def HdEnds (q : Hd × Int) (w : World) (E : Ending) (w' : World) : Prop :=
  ∃ S : Sli, E = .returned (.tuple #[.agg (hcs q.1 S), .int .i64 q.2]) ∧ Fs w' S (mkF q.1.fs) ∧ Fresh w S ∧ Below w.heap.size w w'
theorem heads_of {q : Hd × Int} {w : World} {E : Ending} {w' : World} (h : HeadEnds q w E w') : HdEnds q w E w' := by
  obtain ⟨m, t, st, r, mi, S, fs, rfl, hh, hF, hfr, hb⟩ := h
  refine ⟨S, ?_, ?_, hfr, hb⟩
  · rw [hcs_of (fs := fs), hh]
  · rw [← hh]
    simp only [hdOf, mkF_dls]
    exact hF
theorem rparse_c (s : Bs) (a : Bool) (w : World) (hs : s.length ≤ 4611686018427387904) : Calls Tryz.prog 79 #[.string (tb s), .bool a] w (HdEnds (parseH s a) w) := by
  have := (rparseH_any (tb s) a w (by rw [tb_size]; exact hs)).mono fun _ _ h => heads_of h
  rw [dl_tb] at this
  exact this
end Go.Proofs.YtdlihfbaepjliaaGreatDoor

/-
  A reader's box as one thing: it is loaded and stored whole.
-/
namespace Go.Proofs.YtdlihfbaepjliaaGreatDoor
open Go.RowKit

theorem loc_up {w w1 : World} {A0 A : Option Addr} {f0 fs : List Fd} (h : Loc w1 A0 f0 A fs) (hs : w.heap.size ≤ w1.heap.size) : Loc w A0 f0 A fs := fun ad hA => (h ad hA).elim (fun h => .inl (Nat.le_trans hs h)) .inr
theorem infoR : (Tryz.prog.info? 32).map (·.size) = some 17 := by kernel_rfl
theorem box_row {w : World} {g : Nat} {t : TypeId} {old : Array Value} (cells : Array Value) (h : Box w g t old) : Box (w.setRow g cells) g t cells := setRow_heap w g old _ t _ h
theorem row_heap (w : World) (g : Nat) (cells : Array Value) (k : Nat) (h : k ≠ g) : (w.setRow g cells).heap[k]? = w.heap[k]? := by
  simp only [World.setRow, Array.getElem?_modify]
  rw [if_neg (fun e => h e.symm)]
theorem row_size (w : World) (g : Nat) (cells : Array Value) : (w.setRow g cells).heap.size = w.heap.size := by simp [World.setRow]
theorem Box.row_far {w : World} {g k : Nat} {t : TypeId} {cs : Array Value} (h : Box w k t cs) (hk : k ≠ g) (cells : Array Value) : Box (w.setRow g cells) k t cs := (row_heap w g cells k hk).trans h
theorem below_row {B : Nat} {a w : World} (h : Below B a w) {g : Nat} (hg : B ≤ g) (cells : Array Value) : Below B a (w.setRow g cells) :=
  h.trans ⟨rfl, rfl, rfl, by rw [row_size]; exact Nat.le_refl _, fun k hk => row_heap w g cells k (by omega)⟩
theorem Fs.row {w : World} {S : Sli} {fs : List Fd} (h : Fs w S fs) {g : Nat} (ha : Away g S.A fs) (cells : Array Value) : Fs (w.setRow g cells) S fs :=
  h.keep (fun hne ad hA o => World.cell?_of_block (w := w) (row_heap w g cells ad.block (ha hne ad hA))) (by rw [row_size]; exact Nat.le_refl _)
theorem wpl_store {ops : Array Oper} {rest : List Oper} {o : Oper} {a : Act} {w : World} {Q : Exit → Act → World → Prop} (hgd : o.guard = none) (x y : Operand) (ho : o.op = .store 32 x y)
    (g : Nat) (cells : Array Value) (hx : a.eval x = .pointer (some ⟨g, 0, none⟩)) (hy : a.eval y = .agg cells) (old : Array Value) (hg : Box w g 32 old) (hc : cells.size = 17) (ho2 : old.size = 17) (h1 : cells.all (·.oneCell') = true)
    (h : wpList Tryz.prog ops Q rest (a.put o.dst undef) (w.setRow g cells)) : wpList Tryz.prog ops Q (o :: rest) a w :=
  wpList_store_row hgd 32 x y ho g cells hx hy 32 old hg (by rw [hc]; exact infoR) (by omega) h1 h
theorem isRowR : ∃ d, Tryz.prog.underlying 32 = some d ∧ d.isRow = true := ⟨_, Tryz.underlying32, rfl⟩
theorem box_range {w : World} {g : Nat} {t : TypeId} {cs : Array Value} (h : Box w g t cs) : w.rangeAt g 0 cs.toList := fun j v hv => by
  rw [Nat.zero_add]
  exact h.c j (by rw [← Array.getElem?_toList]; exact hv)
theorem wpl_load {ops : Array Oper} {rest : List Oper} {o : Oper} {a : Act} {w : World} {Q : Exit → Act → World → Prop} (hgd : o.guard = none) (x : Operand) (ho : o.op = .load 32 x)
    (g : Nat) (hx : a.eval x = .pointer (some ⟨g, 0, none⟩)) (cells : Array Value) (hg : Box w g 32 cells) (hc : cells.size = 17)
    (h : wpList Tryz.prog ops Q rest (a.put o.dst (.agg cells)) w) : wpList Tryz.prog ops Q (o :: rest) a w := by
  obtain ⟨d, h1, h2⟩ := isRowR
  refine wpList_load_mid hgd 32 x ho g 0 hx cells.toList d (box_range hg) h1 h2 (by rw [Array.length_toList, hc]; exact infoR) ?_
  simpa using h
theorem loadR {w : World} {g : Nat} {cs : Array Value} (hb : Box w g 32 cs) (hs : cs.size = 17) : (loadVar 32 ⟨g, 0, none⟩).run Tryz.prog w = .ok (.agg cs) w := by
  obtain ⟨d, h1, h2⟩ := isRowR
  have := run_loadVar_mid (P := Tryz.prog) w g 0 32 cs.toList d (box_range hb) h1 h2 (by rw [Array.length_toList, hs]; exact infoR)
  simpa using this
theorem storeR {w : World} {g : Nat} {old : Array Value} (cs : Array Value) (hb : Box w g 32 old) (ho : old.size = 17) (hs : cs.size = 17) (h1 : cs.all (·.oneCell') = true) : (storeCells ⟨g, 0, none⟩ cs.toList 0).run Tryz.prog w = .ok () (w.setRow g cs) := by
  have := run_storeCells_from (P := Tryz.prog) g 32 cs.toList 0 old w hb (by simp; omega) (fun v hv => (Array.all_eq_true_iff_forall_mem.1 h1) v (by simpa using hv))
  simpa using this
/-- one result, a reader -/
theorem res_one {fn : Func} {tmps : Array Value} {w : World} {i g : Nat} {cs : Array Value} (hf : fn.results = #[.cell i 32]) (ht : tmps[i]?.getD undef = .pointer (some ⟨g, 0, none⟩)) (hb : Box w g 32 cs) (hs : cs.size = 17) : (results fn tmps).run Tryz.prog w = .ok (.agg cs) w := by
  have hl := loadR hb hs
  unfold results
  rw [hf]
  simp [ht, asAddr, hl]
end Go.Proofs.YtdlihfbaepjliaaGreatDoor

/-
  Boxes that are loaded and stored whole or in part, as rows; the state of a call that holds a reader and its result in boxes.
-/
namespace Go.Proofs.YtdlihfbaepjliaaGreatDoor
open Go.RowKit

section
variable {w : World} {g : Nat} {t : TypeId} {cs : Array Value}
theorem Box.row_eq (h : Box w g t cs) (i : Nat) (u : Value) {cs' : Array Value} (he : cs.setIfInBounds i u = cs') : w.setCell ⟨g, i, none⟩ u = w.setRow g cs' := by
  rw [← he]
  exact setCell_eq_setRow w g i cs t (0, 0) u h
theorem Box.self (h : Box w g t cs) : w.setRow g cs = w := by
  unfold Box at h
  have hlt : g < w.heap.size := (Array.getElem?_eq_some_iff.1 h).1
  have hv : w.heap[g] = .cells cs t (0, 0) := (Array.getElem?_eq_some_iff.1 h).2
  unfold World.setRow
  cases w with
  | mk heap tape drawn os output =>
    congr 1
    apply Array.ext
    · simp
    · intro k h1 h2
      simp only [Array.getElem_modify]
      split
      · rename_i hk; subst hk; simp at hv; simp [hv]
      · rfl
/-- a row with a list laid over it -/
def spl (cs : Array Value) (o : Nat) : List Value → Array Value
  | [] => cs
  | v :: r => spl (cs.setIfInBounds o v) (o + 1) r
theorem Box.cells_eq (vs : List Value) : ∀ (o : Nat) (cs : Array Value) (w : World), Box w g t cs → w.setCells g o vs = w.setRow g (spl cs o vs) := by
  induction vs with
  | nil => intro o cs w h; exact h.self.symm
  | cons v r ih =>
    intro o cs w h
    rw [World.setCells, ih (o + 1) (cs.setIfInBounds o v) _ (h.set o v), h.row_eq o v rfl, setRow_setRow]
    rfl
/-- a struct is stored into the midst of a box -/
theorem storeM {P : Program} (h : Box w g t cs) (o : Nat) (vs : Array Value) (ho : o + vs.size ≤ cs.size) (h1 : vs.all (·.oneCell') = true) {cs' : Array Value} (he : spl cs o vs.toList = cs') :
    (storeCells ⟨g, o, none⟩ vs.toList 0).run P w = .ok () (w.setRow g cs') := by
  have := run_storeCells_cells (P := P) g o vs.toList 0 w (fun j hj => by
      have hj' : j < vs.size := by simpa using hj
      have e := h.c (o + (0 + j)) (v := cs[o + (0 + j)]'(by omega)) (Array.getElem?_eq_getElem (by omega))
      rw [Nat.add_assoc, e]
      rfl) (fun j _ => h.f _) (fun v hv => (Array.all_eq_true_iff_forall_mem.1 h1) v (by simpa using hv))
  rw [← he, ← Box.cells_eq vs.toList o cs w h]
  simpa using this
/-- a struct is loaded out of the midst of a box -/
theorem loadM {P : Program} (h : Box w g t cs) (ty : TypeId) (o : Nat) (vs : Array Value) (hv : ∀ j v, vs.toList[j]? = some v → cs[o + j]? = some v) (hd : ∃ d, P.underlying ty = some d ∧ d.isRow = true) (hi : (P.info? ty).map (·.size) = some vs.size) :
    (loadVar ty ⟨g, o, none⟩).run P w = .ok (.agg vs) w := by
  obtain ⟨d, h1, h2⟩ := hd
  have := run_loadVar_mid (P := P) w g o ty vs.toList d (fun j v hj => h.c (o + j) (hv j v hj)) h1 h2 (by rw [Array.length_toList]; exact hi)
  simpa using this
/-- a struct is stored into a box of its size -/
theorem storeW {P : Program} (h : Box w g t cs) (vs : Array Value) (ho : vs.size = cs.size) (h1 : vs.all (·.oneCell') = true) :
    (storeCells ⟨g, 0, none⟩ vs.toList 0).run P w = .ok () (w.setRow g vs) := by
  have := run_storeCells_from (P := P) g t vs.toList 0 cs w h (by simp; omega) (fun v hv => (Array.all_eq_true_iff_forall_mem.1 h1) v (by simpa using hv))
  simpa using this
end
theorem isRowH : ∃ d, Tryz.prog.underlying 29 = some d ∧ d.isRow = true := ⟨_, Tryz.underlying29, rfl⟩
theorem isRowK : ∃ d, Tryz.prog.underlying 26 = some d ∧ d.isRow = true := ⟨_, Tryz.underlying26, rfl⟩
theorem isRowF : ∃ d, Tryz.prog.underlying 24 = some d ∧ d.isRow = true := ⟨_, Tryz.underlying24, rfl⟩
theorem infoH : (Tryz.prog.info? 29).map (·.size) = some 6 := by kernel_rfl
theorem infoK : (Tryz.prog.info? 26).map (·.size) = some 4 := by kernel_rfl
theorem infoF : (Tryz.prog.info? 24).map (·.size) = some 2 := by kernel_rfl
theorem hcs_size (H : Hd) (S : Sli) : (hcs H S).size = 6 := rfl
theorem hcs_one (H : Hd) (S : Sli) : (hcs H S).all (·.oneCell') = true := by simp [hcs, Value.oneCell']
theorem kcs_one (c : Ck) : (kcs c).all (·.oneCell') = true := by simp [kcs, Value.oneCell']
theorem loadH {w : World} {g : Nat} {H : Hd} {S : Sli} (h : Box w g 29 (hcs H S)) : (loadVar 29 ⟨g, 0, none⟩).run Tryz.prog w = .ok (.agg (hcs H S)) w :=
  loadM h 29 0 (hcs H S) (fun j v hj => by rw [Nat.zero_add, ← Array.getElem?_toList]; exact hj) isRowH infoH
/-- cells of a part -/
theorem part_at {cs vs : Array Value} {o : Nat} (h : (cs.toList.drop o).take vs.size = vs.toList) : ∀ j v, vs.toList[j]? = some v → cs[o + j]? = some v := by
  intro j v hj
  rw [← h, List.getElem?_take] at hj
  split at hj
  · rw [List.getElem?_drop, Array.getElem?_toList] at hj
    exact hj
  · cases hj
theorem wplH_load {ops : Array Oper} {rest : List Oper} {o : Oper} {a : Act} {w : World} {Q : Exit → Act → World → Prop} (hgd : o.guard = none) (x : Operand) (ho : o.op = .load 29 x)
    (g : Nat) (hx : a.eval x = .pointer (some ⟨g, 0, none⟩)) (H : Hd) (S : Sli) (hg : Box w g 29 (hcs H S))
    (h : wpList Tryz.prog ops Q rest (a.put o.dst (.agg (hcs H S))) w) : wpList Tryz.prog ops Q (o :: rest) a w := by
  obtain ⟨d, h1, h2⟩ := isRowH
  refine wpList_load_mid hgd 29 x ho g 0 hx (hcs H S).toList d (box_range hg) h1 h2 (by rw [Array.length_toList]; exact infoH) ?_
  simpa using h
theorem wplN_load {ops : Array Oper} {rest : List Oper} {o : Oper} {a : Act} {w : World} {Q : Exit → Act → World → Prop} (hgd : o.guard = none) (x : Operand) (ho : o.op = .load 29 x)
    (g : Nat) (hx : a.eval x = .pointer (some ⟨g, 10, none⟩)) (R : Rr) (S : Sli) (hg : Box w g 32 (rcs R S))
    (h : wpList Tryz.prog ops Q rest (a.put o.dst (.agg (hcs R.now S))) w) : wpList Tryz.prog ops Q (o :: rest) a w := by
  obtain ⟨d, h1, h2⟩ := isRowH
  refine wpList_load_mid hgd 29 x ho g 10 hx (hcs R.now S).toList d (fun j v hj => hg.c (10 + j) (part_at (cs := rcs R S) (vs := hcs R.now S) rfl j v hj)) h1 h2 (by rw [Array.length_toList]; exact infoH) ?_
  simpa using h
theorem wplK_load {ops : Array Oper} {rest : List Oper} {o : Oper} {a : Act} {w : World} {Q : Exit → Act → World → Prop} (hgd : o.guard = none) (x : Operand) (ho : o.op = .load 26 x)
    (g : Nat) (hx : a.eval x = .pointer (some ⟨g, 6, none⟩)) (R : Rr) (S : Sli) (hg : Box w g 32 (rcs R S))
    (h : wpList Tryz.prog ops Q rest (a.put o.dst (.agg (kcs R.ck))) w) : wpList Tryz.prog ops Q (o :: rest) a w := by
  obtain ⟨d, h1, h2⟩ := isRowK
  refine wpList_load_mid hgd 26 x ho g 6 hx (kcs R.ck).toList d (fun j v hj => hg.c (6 + j) (part_at (cs := rcs R S) (vs := kcs R.ck) rfl j v hj)) h1 h2 (by rw [Array.length_toList]; exact infoK) ?_
  simpa using h
theorem wplB_load {ops : Array Oper} {rest : List Oper} {o : Oper} {a : Act} {w : World} {Q : Exit → Act → World → Prop} (hgd : o.guard = none) (x : Operand) (ho : o.op = .load 26 x)
    (g : Nat) (hx : a.eval x = .pointer (some ⟨g, 0, none⟩)) (c : Ck) (hg : Box w g 26 (kcs c))
    (h : wpList Tryz.prog ops Q rest (a.put o.dst (.agg (kcs c))) w) : wpList Tryz.prog ops Q (o :: rest) a w := by
  obtain ⟨d, h1, h2⟩ := isRowK
  refine wpList_load_mid hgd 26 x ho g 0 hx (kcs c).toList d (box_range hg) h1 h2 (by rw [Array.length_toList]; exact infoK) ?_
  simpa using h
theorem loadNow {w : World} {g : Nat} {R : Rr} {S : Sli} (h : Box w g 32 (rcs R S)) : (loadVar 29 ⟨g, 10, none⟩).run Tryz.prog w = .ok (.agg (hcs R.now S)) w :=
  loadM h 29 10 (hcs R.now S) (part_at rfl) isRowH infoH
theorem loadCk {w : World} {g : Nat} {R : Rr} {S : Sli} (h : Box w g 32 (rcs R S)) : (loadVar 26 ⟨g, 6, none⟩).run Tryz.prog w = .ok (.agg (kcs R.ck)) w :=
  loadM h 26 6 (kcs R.ck) (part_at rfl) isRowK infoK
theorem storeNow {w : World} {g : Nat} {R : Rr} {S : Sli} (h : Box w g 32 (rcs R S)) (H : Hd) (T : Sli) : (storeCells ⟨g, 10, none⟩ (hcs H T).toList 0).run Tryz.prog w = .ok () (w.setRow g (rcs { R with now := H } T)) :=
  storeM h 10 (hcs H T) (by rw [hcs_size, rcs_size]; decide) (hcs_one H T) rfl
theorem storeCk {w : World} {g : Nat} {R : Rr} {S : Sli} (h : Box w g 32 (rcs R S)) (c : Ck) : (storeCells ⟨g, 6, none⟩ (kcs c).toList 0).run Tryz.prog w = .ok () (w.setRow g (rcs { R with ck := c } S)) :=
  storeM h 6 (kcs c) (by rw [rcs_size, show (kcs c).size = 4 from rfl]; decide) (kcs_one c) rfl
/-- a text into a cell of a reader -/
theorem rset_hd {w : World} {g : Nat} {R : Rr} {S : Sli} (h : Box w g 32 (rcs R S)) (l : Bs) : w.setCell ⟨g, 2, none⟩ (.string (tb l)) = w.setRow g (rcs { R with hd := l } S) := h.row_eq 2 _ rfl
theorem rset_b {w : World} {g : Nat} {R : Rr} {S : Sli} (h : Box w g 32 (rcs R S)) (l : Bs) : w.setCell ⟨g, 5, none⟩ (.string (tb l)) = w.setRow g (rcs { R with b := l } S) := h.row_eq 5 _ rfl
theorem rset_k {w : World} {g : Nat} {R : Rr} {S : Sli} (h : Box w g 32 (rcs R S)) (x : Int) : w.setCell ⟨g, 3, none⟩ (.int .i64 x) = w.setRow g (rcs { R with k := x } S) := h.row_eq 3 _ rfl
theorem rset_z {w : World} {g : Nat} {R : Rr} {S : Sli} (h : Box w g 32 (rcs R S)) (x : Int) : w.setCell ⟨g, 4, none⟩ (.int .i64 x) = w.setRow g (rcs { R with z := x } S) := h.row_eq 4 _ rfl

/-- two cells are held while memory is made -/
theorem held2C {W0 W W' : World} {a b : Addr} {x y : Value} (hb : Below W.heap.size W W') (h : Below W0.heap.size W0 W ∧ W.cell? a = some x ∧ W.cell? b = some y) : Below W0.heap.size W0 W' ∧ W'.cell? a = some x ∧ W'.cell? b = some y :=
  ⟨bon h.1 hb, cell_up hb h.2.1, cell_up hb h.2.2⟩
theorem held2A {W0 W : World} {a b : Addr} {x y : Value} (o : Obj) (h : Below W0.heap.size W0 W ∧ W.cell? a = some x ∧ W.cell? b = some y) : Below W0.heap.size W0 (W.alloc o) ∧ (W.alloc o).cell? a = some x ∧ (W.alloc o).cell? b = some y :=
  held2C (ba1 W o) h
theorem held2R {W0 W : World} {a b : Addr} {x y : Value} (g : Nat) (cs : Array Value) (hg : W0.heap.size ≤ g) (ha : a.block ≠ g) (hb : b.block ≠ g) (h : Below W0.heap.size W0 W ∧ W.cell? a = some x ∧ W.cell? b = some y) : Below W0.heap.size W0 (W.setRow g cs) ∧ (W.setRow g cs).cell? a = some x ∧ (W.setRow g cs).cell? b = some y :=
  ⟨below_row h.1 hg cs, (cell_setRow_other W g cs a ha).trans h.2.1, (cell_setRow_other W g cs b hb).trans h.2.2⟩
/-- a reader in box g, its result in the next one -/
structure D2 (w W : World) (g : Nat) (R : Rr) (S : Sli) (old : Array Value) : Prop where
  bv : Box W g 32 (rcs R S)
  br : Box W (g + 1) 32 old
  os : old.size = 17
  hb : Below w.heap.size w W
  g0 : w.heap.size ≤ g
  fs : Fs W S (mkF R.now.fs)
  a0 : Away g S.A (mkF R.now.fs)
  a1 : Away (g + 1) S.A (mkF R.now.fs)
theorem D2.up {w W W' : World} {g : Nat} {R : Rr} {S : Sli} {old : Array Value} (h : D2 w W g R S old) (hb : Below W.heap.size W W') : D2 w W' g R S old :=
  ⟨h.bv.up hb, h.br.up hb, h.os, bon h.hb hb, h.g0, h.fs.up hb, h.a0, h.a1⟩
theorem D2.row {w W : World} {g : Nat} {R : Rr} {S : Sli} {old : Array Value} (h : D2 w W g R S old) {R' : Rr} {S' : Sli} (hF : Fs W S' (mkF R'.now.fs)) (a0 : Away g S'.A (mkF R'.now.fs)) (a1 : Away (g + 1) S'.A (mkF R'.now.fs)) : D2 w (W.setRow g (rcs R' S')) g R' S' old :=
  ⟨box_row _ h.bv, h.br.row_far (by omega) _, h.os, below_row h.hb h.g0 _, h.g0, Fs.row hF a0 _, a0, a1⟩
theorem D2.row0 {w W : World} {g : Nat} {R : Rr} {S : Sli} {old : Array Value} (h : D2 w W g R S old) {R' : Rr} (hn : R'.now = R.now) : D2 w (W.setRow g (rcs R' S)) g R' S old :=
  h.row (by rw [hn]; exact h.fs) (by rw [hn]; exact h.a0) (by rw [hn]; exact h.a1)
theorem D2.start (w : World) (R : Rr) (S : Sli) (old : Array Value) (ho : old.size = 17) (hF : Fs w S (mkF R.now.fs)) : D2 w ((w.alloc (.cells (rcs R S) 32)).alloc (.cells old 32)) w.heap.size R S old :=
  ⟨(Box.new w _ _).alloc _, Box.mk' _ _ _ _ (by simp), ho, ba2 w _ _, Nat.le_refl _, hF.up (ba2 w _ _), fun hne ad hA => by have := hF.lt hne hA; omega, fun hne ad hA => by have := hF.lt hne hA; omega⟩
theorem D2.far {w W : World} {g : Nat} {R : Rr} {S : Sli} {old : Array Value} (h : D2 w W g R S old) {k : Nat} (h0 : k ≠ g) (h1 : k ≠ g + 1) (hk : w.heap.size ≤ k) (ha : Away k S.A (mkF R.now.fs)) (cs : Array Value) : D2 w (W.setRow k cs) g R S old :=
  ⟨h.bv.row_far (Ne.symm h0) _, h.br.row_far (Ne.symm h1) _, h.os, below_row h.hb hk _, h.g0, Fs.row h.fs ha _, h.a0, h.a1⟩
theorem rset_two {w : World} {g : Nat} {t : TypeId} {a b : Value} (h : Box w g t #[a, b]) (u v : Value) : (w.setCell ⟨g, 0, none⟩ u).setCell ⟨g, 1, none⟩ v = w.setRow g #[u, v] := by
  rw [h.row_eq 0 u (cs' := #[u, b]) rfl, (box_row #[u, b] h).row_eq 1 v (cs' := #[u, v]) rfl, setRow_setRow]
theorem D2.ends {w W : World} {g : Nat} {R : Rr} {S : Sli} {old : Array Value} (h : D2 w W g R S old) {A0 : Option Addr} {f0 : List Fd} (hL : Loc w A0 f0 S.A (mkF R.now.fs)) : REnds R A0 f0 w (.returned (.agg (rcs R S))) (W.setRow (g + 1) (rcs R S)) :=
  ⟨S, rfl, Fs.row h.fs h.a1 _, hL, below_row h.hb (by have := h.g0; omega) _⟩
theorem D2.endsF {w W : World} {g : Nat} {R : Rr} {S : Sli} {old : Array Value} (h : D2 w W g R S old) {R2 : Rr} {S2 : Sli} (hF : Fs W S2 (mkF R2.now.fs)) (ha : Away (g + 1) S2.A (mkF R2.now.fs)) {A0 : Option Addr} {f0 : List Fd} (hL : Loc w A0 f0 S2.A (mkF R2.now.fs)) : REnds R2 A0 f0 w (.returned (.agg (rcs R2 S2))) (W.setRow (g + 1) (rcs R2 S2)) :=
  ⟨S2, rfl, Fs.row hF ha _, hL, below_row h.hb (by have := h.g0; omega) _⟩
theorem loc_old {w : World} {S : Sli} {fs : List Fd} : Loc w S.A fs S.A fs := loc_same w S.A fs
theorem loc_fresh {w w1 : World} {A0 : Option Addr} {f0 fs : List Fd} {S : Sli} (h : Fresh w1 S) (hs : w.heap.size ≤ w1.heap.size) : Loc w A0 f0 S.A fs := fun ad hA => .inl (Nat.le_trans hs (h ad hA))
theorem D2.loc1 {w W W' : World} {g : Nat} {R : Rr} {S : Sli} {old : Array Value} (h : D2 w W g R S old) {A : Option Addr} {fs : List Fd} (hL : Loc W S.A (mkF R.now.fs) A fs) (_hs : W.heap.size ≤ W'.heap.size) : Away (g + 1) A fs := fun hne ad hA => by
  have := h.br.lt
  rcases hL ad hA with h1 | ⟨h1, h2⟩
  · omega
  · subst h2
    exact h.a1 hne ad h1
end Go.Proofs.YtdlihfbaepjliaaGreatDoor

/-
  The walk of the document's own framed.
-/
namespace Go.Proofs.YtdlihfbaepjliaaGreatDoor
open Go.RowKit

theorem right_small {h : Hd} {a : Bool} (hr : rightB h a = true) : h.m.length ≤ 4096 ∧ h.t.length ≤ 4096 ∧ h.r.length ≤ 4096 ∧ h.fs.length ≤ 20 ∧ ∀ f ∈ h.fs, f.1.length ≤ 4096 ∧ f.2.length ≤ 4096 := by
  obtain ⟨_, h2, h3, h4⟩ := kind_parts hr
  have hf : ∀ f ∈ h.fs, f.1.length ≤ 4096 ∧ f.2.length ≤ 4096 := by
    intro f hf
    have := h3 f hf
    unfold fieldB at this
    rw [Bool.and_eq_true] at this
    obtain ⟨a1, a2⟩ := this
    unfold nameB at a1
    unfold valueB at a2
    simp only [Bool.and_eq_true, decide_eq_true_eq] at a1 a2
    omega
  unfold kindB at h4
  cases a with
  | true =>
    rw [if_pos rfl] at h4
    simp only [Bool.and_eq_true, List.isEmpty_iff] at h4
    obtain ⟨⟨⟨_, hr2⟩, hm⟩, ht⟩ := h4
    unfold reasonB at hr2
    simp only [Bool.and_eq_true, decide_eq_true_eq] at hr2
    rw [hm, ht]
    exact ⟨by simp, by simp, by omega, h2, hf⟩
  | false =>
    rw [if_neg (by decide)] at h4
    simp only [Bool.and_eq_true, List.isEmpty_iff, decide_eq_true_eq] at h4
    obtain ⟨⟨⟨hm, ht⟩, _⟩, hr2⟩ := h4
    unfold nameB at hm
    unfold targetB at ht
    simp only [Bool.and_eq_true, decide_eq_true_eq] at hm ht
    rw [hr2]
    exact ⟨by omega, by omega, by simp, h2, hf⟩


theorem frq_c (H : Hd) (S : Sli) (W : World) (hF : Fs W S (mkF H.fs)) {a : Bool} (hr : rightB H a = true) : Calls Tryz.prog 80 #[.agg (hcs H S)] W (FrEnds (reqF (rightB H false) (frH (mkF H.fs) H.mi)) W) := by
  obtain ⟨b1, b2, b3, b4, b5⟩ := right_small hr
  have hl := hF.len
  rw [show (mkF H.fs).length = H.fs.length from List.length_map _] at hl
  have := frrequest_any (tb H.m) (tb H.t) H.st (tb H.r) H.mi S.A S.n S.c (mkF H.fs) W (by rw [tb_size]; exact b1) (by rw [tb_size]; exact b2) (by rw [tb_size]; exact b3) hF (by omega) (few_of (by rw [dls_mkF]; exact b5))
  rw [hdOf_tb] at this
  exact this
theorem fra_c (H : Hd) (S : Sli) (q : Bs) (W : World) (hF : Fs W S (mkF H.fs)) {a : Bool} (hr : rightB H a = true) : Calls Tryz.prog 81 #[.agg (hcs H S), .string (tb q)] W (FrEnds (ansF (rightB H true) (bareB H.st q) (frH (mkF H.fs) H.mi)) W) := by
  obtain ⟨b1, b2, b3, b4, b5⟩ := right_small hr
  have hl := hF.len
  rw [show (mkF H.fs).length = H.fs.length from List.length_map _] at hl
  have := franswer_any (tb H.m) (tb H.t) H.st (tb H.r) H.mi S.A S.n S.c (mkF H.fs) W (by rw [tb_size]; exact b1) (by rw [tb_size]; exact b2) (by rw [tb_size]; exact b3) hF (by omega) (few_of (by rw [dls_mkF]; exact b5)) (tb q)
  rw [hdOf_tb, dl_tb] at this
  exact this
/-- a head in a box of the call's own, and its error -/
def CutHd (p : Hd × Int) (W : World) (v u : Value) (w' : World) : Prop :=
  ∃ (gq : Nat) (S : Sli), v = .pointer (some ⟨gq, 0, none⟩) ∧ u = .int .i64 p.2 ∧ Box w' gq 29 (hcs p.1 S) ∧ Fs w' S (mkF p.1.fs) ∧ Fresh W S ∧ W.heap.size ≤ gq ∧ Below W.heap.size W w'
theorem cutHd_a {p : Hd × Int} {W wP : World} {S : Sli} (z : Array Value) (hF : Fs wP S (mkF p.1.fs)) (hfr : Fresh W S) (hb : Below W.heap.size W wP) : CutHd p W (.pointer (some ⟨wP.heap.size, 0, none⟩)) (.int .i64 p.2) ((wP.alloc (.cells z 29)).setRow wP.heap.size (hcs p.1 S)) :=
  ⟨_, S, rfl, rfl, box_row _ (Box.new _ _ _), Fs.row (hF.up (ba1 _ _)) (fun hne ad hA => by have := hF.lt hne hA; omega) _, hfr, hb.size, below_row (bon hb (ba1 _ _)) hb.size _⟩
theorem cutHd_b {p : Hd × Int} {W wP : World} {S : Sli} {z : Array Value} (bq : Box wP W.heap.size 29 z) (hF : Fs wP S (mkF p.1.fs)) (hfr : ∀ ad, S.A = some ad → W.heap.size + 1 ≤ ad.block) (hb : Below W.heap.size W wP) : CutHd p W (.pointer (some ⟨W.heap.size, 0, none⟩)) (.int .i64 p.2) (wP.setRow W.heap.size (hcs p.1 S)) :=
  ⟨_, S, rfl, rfl, box_row _ bq, Fs.row hF (fun hne ad hA => by have := hfr ad hA; omega) _, fun ad h => by have := hfr ad h; omega, Nat.le_refl _, below_row hb (Nat.le_refl _) _⟩
/-- how the body ends, in a box of the call's own, and its error -/
def CutFr (f : Int × Int × Int) (gf : Nat) (w : World) (g : Nat) (R : Rr) (S : Sli) (old : Array Value) (H : Hd) (S1 : Sli) (gq : Nat) (v : Value) (w' : World) : Prop :=
  v = .int .i64 f.2.2 ∧ Box w' gf 24 #[.int .i64 f.1, .int .i64 f.2.1] ∧ D2 w w' g R S old ∧ Box w' gq 29 (hcs H S1) ∧ Fs w' S1 (mkF H.fs)
theorem away_nil (g : Nat) (A : Option Addr) : Away g A (mkF []) := fun h => absurd rfl h

set_option maxRecDepth 100000 in
set_option maxHeartbeats 4000000 in
theorem framed_c (R : Rr) (S : Sli) (w : World) (hF : Fs w S (mkF R.now.fs)) (h4 : 4 ≤ R.hd.length) (hh : R.hd.length ≤ 4096) : Calls Tryz.prog 50 #[.agg (rcs R S)] w (REnds (framedR R) S.A (mkF R.now.fs) w) := by
  obtain ⟨R', hR⟩ : ∃ R', framedR R = R' := ⟨_, rfl⟩
  rw [hR]
  obtain ⟨p, hp⟩ : ∃ p, parseH (R.hd.take (R.hd.length - 4)) R.a = p := ⟨_, rfl⟩
  have HE : Hid (R' = if p.2 ≠ 0 then failR R p.2 else if (frameR p.1 R.a R.q).2.2 ≠ 0 then failR R (frameR p.1 R.a R.q).2.2 else ⟨R.a, R.q, [], (frameR p.1 R.a R.q).1, (frameR p.1 R.a R.q).2.1, R.b, R.ck, p.1, R.e⟩) := Lib.hid (by rw [← hR, ← hp]; rfl)
  rw [← tb_size] at h4 hh
  obtain ⟨L, hL⟩ : ∃ L, tb R.hd = L := ⟨_, rfl⟩
  have HPar : Hid (∀ W, Calls Tryz.prog 79 #[.string (L.extract 0 (L.size - 4)), .bool R.a] W (HdEnds p W)) := Lib.hid (fun W => by
    rw [← hL, tb_size, tb_ext, List.drop_zero, ← hp]
    rw [tb_size] at hh
    exact rparse_c _ R.a W (by rw [List.length_take]; omega))
  have HSm : Hid (p.2 = 0 → rightB p.1 R.a = true) := Lib.hid (fun h => by rw [← hp] at h ⊢; exact (parse_right h).1)
  have h0 := D2.start w R S #[.bool false, .string ⟨#[]⟩, .string ⟨#[]⟩, .int .i64 0, .int .i64 0, .string ⟨#[]⟩, .int .i64 0, .int .i64 0, .string ⟨#[]⟩, .int .i64 0, .string ⟨#[]⟩, .string ⟨#[]⟩, .int .i64 0, .string ⟨#[]⟩, .int .i64 0, .slice none 0 0, .int .i64 0] rfl hF
  rw [hL] at h4 hh
  have HL := Lib.hid hL
  clear hR hp hF hL
  have tn1 : IntKind.i64.wrap ((L.size : Int) - 4) = (L.size : Int) - 4 := IntWalk.i64_in _ (by omega)
  have tn2 : ((L.size : Int) - 4).toNat = L.size - 4 := by omega
  have tn3 : (0 : Int) ≤ (L.size : Int) - 4 := by omega
  have tn4 : (L.size : Int) - 4 ≤ (L.size : Int) := by omega
  have h4i : (4 : Int) ≤ (L.size : Int) := by omega
  go_enter Tryz.func50, Tryz.ntmps50
  go_upto_region 1 with fail
  have hWs : ((w.alloc (.cells (rcs R S) 32)).alloc (.cells #[.bool false, .string ⟨#[]⟩, .string ⟨#[]⟩, .int .i64 0, .int .i64 0, .string ⟨#[]⟩, .int .i64 0, .int .i64 0, .string ⟨#[]⟩, .int .i64 0, .string ⟨#[]⟩, .string ⟨#[]⟩, .int .i64 0, .string ⟨#[]⟩, .int .i64 0, .slice none 0 0, .int .i64 0] 32)).heap.size = w.heap.size + 2 := by simp
  obtain ⟨g, hg⟩ : ∃ g, w.heap.size = g := ⟨_, rfl⟩
  rw [hg] at h0 hWs ⊢
  have HG : Hid (w.heap.size = g) := Lib.hid hg
  clear hg
  generalize (w.alloc (.cells (rcs R S) 32)).alloc (.cells #[.bool false, .string ⟨#[]⟩, .string ⟨#[]⟩, .int .i64 0, .int .i64 0, .string ⟨#[]⟩, .int .i64 0, .int .i64 0, .string ⟨#[]⟩, .int .i64 0, .string ⟨#[]⟩, .string ⟨#[]⟩, .int .i64 0, .string ⟨#[]⟩, .int .i64 0, .slice none 0 0, .int .i64 0] 32) = W0 at *
  have HW0 := Lib.hid hWs
  clear hWs
  have c0 : W0.cell? ⟨g, 0, none⟩ = some (.bool R.a) := h0.bv.c 0 rfl
  have c2 : W0.cell? ⟨g, 2, none⟩ = some (.string L) := HL.out ▸ h0.bv.c 2 rfl
  have e0 : ∀ o, (W0.alloc o).cell? ⟨g, 0, none⟩ = some (.bool R.a) := fun o => (h0.bv.alloc o).c 0 rfl
  have e2 : ∀ o, (W0.alloc o).cell? ⟨g, 2, none⟩ = some (.string L) := fun o => HL.out ▸ (h0.bv.alloc o).c 2 rfl
  go_cut [3, 4] (CutHd p W0)
  case first =>
    as_aux_lemma =>
      have hz := fun S => hcs_size p.1 S
      have hsw : W0.heap.size = g + 2 := HW0.out
      go_region_held3 (fun W' => Below W0.heap.size W0 W' ∧ W'.cell? ⟨g, 0, none⟩ = some (.bool R.a) ∧ W'.cell? ⟨g, 2, none⟩ = some (.string L))
        (first | exact held2C hbP (by assumption) | exact ⟨(Below.refl _ _).drew, c0, c2⟩ | exact held2A _ (by assumption) | exact held2R wP.heap.size _ hle (by show g ≠ _; omega) (by show g ≠ _; omega) (by assumption) | exact held2R (g + 2) _ (by omega) (by show g ≠ _; omega) (by show g ≠ _; omega) (by assumption) | fail)
        (first
          | (go_at_call 79; refine (HPar.out _).mono ?_; rintro E wP ⟨S1, rfl, hF1, hfr1, hbP⟩; have bq : Box wP W0.heap.size 29 #[.string ⟨#[]⟩, .string ⟨#[]⟩, .int .i64 0, .string ⟨#[]⟩, .int .i64 0, .slice none 0 0] := (by refine Box.up ?_ hbP; exact Box.new W0 29 #[.string ⟨#[]⟩, .string ⟨#[]⟩, .int .i64 0, .string ⟨#[]⟩, .int .i64 0, .slice none 0 0]); have hfr2 : ∀ ad, S1.A = some ad → W0.heap.size + 1 ≤ ad.block := (fun ad h => (by have := hfr1 ad h; simpa using this)); have hst := storeW (P := Tryz.prog) bq (hcs p.1 S1) rfl (hcs_one _ _); have hbQ : Below W0.heap.size W0 wP := (by refine bon ?_ hbP; first | exact (ba1 W0 _).drew | exact ba1 W0 _); rw [hsw] at hst)
          | (go_at_call 79; refine (HPar.out _).mono ?_; rintro E wP ⟨S1, rfl, hF1, hfr1, hbP⟩; have hle : W0.heap.size ≤ wP.heap.size := hbP.size; have hbQ : Below W0.heap.size W0 wP := bon ((Below.refl W0.heap.size W0).drew) hbP; have hst := storeW (P := Tryz.prog) (Box.new wP 29 #[.string ⟨#[]⟩, .string ⟨#[]⟩, .int .i64 0, .string ⟨#[]⟩, .int .i64 0, .slice none 0 0]) (hcs p.1 S1) rfl (hcs_one _ _))
          | fail)
      all_goals (go_wp2_with fail; go_meet; first | exact cutHd_a (p := p) (W := W0) (S := S1) _ hF1 (fun ad h => hfr1 ad h) hbQ | (rw [← hsw]; exact cutHd_b (p := p) (W := W0) (S := S1) bq hF1 hfr2 hbQ))
  case rest =>
    obtain ⟨gq, S1, rfl, rfl, bq, hF1, hfr1, hgq, hbc⟩ := hcut
    have h1 := h0.up hbc
    have HFr : Hid (∀ ad, S1.A = some ad → g + 2 ≤ ad.block) := Lib.hid (fun ad h => by have := hfr1 ad h; have := HW0.out; omega)
    have HGQ : Hid (g + 2 ≤ gq) := Lib.hid (by have := HW0.out; omega)
    clear c0 c2 e0 e2 h0 HPar tn1 tn2 tn3 tn4 h4i h4 hh HL hfr1 hgq hbc HW0
    obtain ⟨H, er⟩ := p
    simp only at HE HSm bq hF1 ⊢
    by_cases her : er = 0
    case neg =>
      as_aux_lemma =>
        have HV : Hid (R' = failR R er) := Lib.hid (by rw [HE.out, if_pos her])
        have t0 : (er != 0) = true := bne_iff_ne.2 her
        clear HE HSm her hF1 bq
        go_wp2_with (refine wpl_load rfl _ rfl g rfl (rcs R S) h1.bv rfl ?_)
        refine (rfail_c R S er S.A (mkF R.now.fs) _).mono ?_
        rintro E w9 ⟨S2, rfl, hF2, hL2, hb9⟩
        have h2 := h1.up hb9
        have HL2 := Lib.hid (loc_up hL2 (w := w) h1.hb.size)
        have HA2 := Lib.hid (h1.loc1 hL2 hb9.size)
        have hst := storeW (P := Tryz.prog) h2.br (rcs (failR R er) S2) (by rw [h2.os]; rfl) (rcs_one _ _)
        have hz := rcs_size (failR R er) S2
        clear hb9 hL2 h1
        go_wp2
        refine bodyPost_ret (res_one (i := 2) (g := g + 1) (cs := rcs (failR R er) S2) Tryz.results50 rfl (box_row _ h2.br) rfl) rfl ?_
        rw [HV.out]
        exact h2.endsF hF2 HA2.out HL2.out
    case pos =>
      subst her
      have hrg := HSm.out rfl
      rw [if_neg (by simp)] at HE
      obtain ⟨fq, hfq⟩ : ∃ f, reqF (rightB H false) (frH (mkF H.fs) H.mi) = f := ⟨_, rfl⟩
      obtain ⟨fa, hfa⟩ : ∃ f, ansF (rightB H true) (bareB H.st R.q) (frH (mkF H.fs) H.mi) = f := ⟨_, rfl⟩
      have HReq : Hid (∀ W, Fs W S1 (mkF H.fs) → Calls Tryz.prog 80 #[.agg (hcs H S1)] W (FrEnds fq W)) := Lib.hid (fun W hW => by rw [← hfq]; exact frq_c H S1 W hW hrg)
      have HAns : Hid (∀ W, Fs W S1 (mkF H.fs) → Calls Tryz.prog 81 #[.agg (hcs H S1), .string (tb R.q)] W (FrEnds fa W)) := Lib.hid (fun W hW => by rw [← hfa]; exact fra_c H S1 R.q W hW hrg)
      have HEr : Hid (frameR H R.a R.q = if R.a = true then fa else fq) := Lib.hid (by unfold frameR; rw [hfa, hfq])
      clear hfq hfa hrg HSm
      go_wp2_with (refine wplH_load rfl _ rfl gq rfl H S1 bq ?_)
      refine (HReq.out _ hF1).mono ?_
      rintro E w3 ⟨rfl, hb3⟩
      go_upto_region 5 with fail
      have hd3 := bon hb3 (ba1 w3 (.cells #[.int .i64 fq.1, .int .i64 fq.2.1] 24))
      have h2 := h1.up hd3
      have bq2 := bq.up hd3
      have hF2 := hF1.up hd3
      have bf := Box.new w3 24 #[.int .i64 fq.1, .int .i64 fq.2.1]
      have HGF : Hid (gq < w3.heap.size) := Lib.hid (Nat.lt_of_lt_of_le bq.lt hb3.size)
      have HAX : Hid (mkF R.now.fs ≠ [] → ∀ ad, S.A = some ad → ad.block ≠ w3.heap.size) := Lib.hid (fun hne ad hA => by have := h1.fs.lt hne hA; have := hb3.size; omega)
      have HFF : Hid (mkF H.fs ≠ [] → ∀ ad, S1.A = some ad → ad.block < w3.heap.size) := Lib.hid (fun hne ad hA => Nat.lt_of_lt_of_le (hF1.lt hne hA) hb3.size)
      obtain ⟨gf, hg⟩ : ∃ g, w3.heap.size = g := ⟨_, rfl⟩
      rw [hg] at bf HGF HFF HAX ⊢
      clear hg hd3 hb3 h1 bq hF1 HReq
      generalize w3.alloc (.cells #[.int .i64 fq.1, .int .i64 fq.2.1] 24) = w5 at *
      obtain ⟨f, hf⟩ : ∃ f, (if R.a = true then fa else fq) = f := ⟨_, rfl⟩
      rw [hf] at HEr
      have HX := Lib.hid hf
      have HG1 := Lib.hid h2.br.lt
      clear hf
      have ca : w5.cell? ⟨g, 0, none⟩ = some (.bool R.a) := h2.bv.c 0 rfl
      go_upto_if 31 with fail
      go_cut [6] (CutFr f gf w g R S #[.bool false, .string ⟨#[]⟩, .string ⟨#[]⟩, .int .i64 0, .int .i64 0, .string ⟨#[]⟩, .int .i64 0, .int .i64 0, .string ⟨#[]⟩, .int .i64 0, .string ⟨#[]⟩, .string ⟨#[]⟩, .int .i64 0, .string ⟨#[]⟩, .int .i64 0, .slice none 0 0, .int .i64 0] H S1 gq)
      case first =>
        by_cases ha : R.a = true
        · have hfa : Hid (fa = f) := Lib.hid (by rw [← HX.out, if_pos ha])
          rw [ha]
          clear ha ca
          have cq : w5.cell? ⟨g, 1, none⟩ = some (.string (tb R.q)) := h2.bv.c 1 rfl
          have HAA := Lib.hid h2.fs.lt
          go_wp2_with (refine wplH_load rfl _ rfl gq rfl H S1 bq2 ?_)
          refine (HAns.out _ hF2).mono ?_
          rintro E w6 ⟨rfl, hb6⟩
          have hG := HG1.out
          have hGF := HGF.out
          obtain ⟨y0, y1, y2, y3⟩ := Fr2 (bf.up hb6)
          have h3 := h2.up hb6
          have hF3 := hF2.up hb6
          have bq3 := bq2.up hb6
          have bf3 := bf.up hb6
          clear hb6 h2 hF2 bq2 bf cq
          go_wp2_with fail
          go_meet
          have e : (w6.setCell ⟨gf, 0, none⟩ (.int .i64 fa.1)).setCell ⟨gf, 1, none⟩ (.int .i64 fa.2.1) = w6.setRow gf #[.int .i64 fa.1, .int .i64 fa.2.1] := rset_two bf3 _ _
          have hgg : g + 2 ≤ gf := by have := HGQ.out; omega
          rw [e, ← hfa.out]
          exact ⟨rfl, box_row _ bf3, h3.far (by omega) (by omega) (by have := h3.g0; omega) (fun hne ad hA => HAX.out hne ad hA) _, bq3.row_far (by omega) _, Fs.row hF3 (fun hne ad hA => by have := HFF.out hne ad hA; omega) _⟩
        · have hfa : Hid (fq = f) := Lib.hid (by rw [← HX.out, if_neg ha])
          have ha2 : R.a = false := by simpa using ha
          rw [ha2]
          clear ha ha2
          go_wp2
          go_meet
          rw [← hfa.out]
          exact ⟨rfl, bf, h2, bq2, hF2⟩
      case rest =>
      obtain ⟨rfl, bf, h3, bq, hF⟩ := hcut
      clear ca h2 bq2 hF2
      obtain ⟨f1, f2, f3⟩ := f
      simp only at HEr bf ⊢
      by_cases hf0 : f3 = 0
      case neg =>
       as_aux_lemma =>
        have HV : Hid (R' = failR R f3) := Lib.hid (by rw [HE.out, HEr.out, if_pos hf0])
        have t0 : (f3 != 0) = true := bne_iff_ne.2 hf0
        clear HE HEr hf0 hF bq bf
        go_wp2_with (refine wpl_load rfl _ rfl g rfl (rcs R S) h3.bv rfl ?_)
        refine (rfail_c R S f3 S.A (mkF R.now.fs) _).mono ?_
        rintro E w9 ⟨S2, rfl, hF2, hL2, hb9⟩
        have h2 := h3.up hb9
        have HL2 := Lib.hid (loc_up hL2 (w := w) h3.hb.size)
        have HA2 := Lib.hid (h3.loc1 hL2 hb9.size)
        have hst := storeW (P := Tryz.prog) h2.br (rcs (failR R f3) S2) (by rw [h2.os]; rfl) (rcs_one _ _)
        have hz := rcs_size (failR R f3) S2
        clear hb9 hL2 h3
        go_wp2
        refine bodyPost_ret (res_one (i := 2) (g := g + 1) (cs := rcs (failR R f3) S2) Tryz.results50 rfl (box_row _ h2.br) rfl) rfl ?_
        rw [HV.out]
        exact h2.endsF hF2 HA2.out HL2.out
      case pos =>
       as_aux_lemma =>
        subst hf0
        have HV : Hid (R' = ⟨R.a, R.q, [], f1, f2, R.b, R.ck, H, R.e⟩) := Lib.hid (by rw [HE.out, HEr.out, if_neg (by simp)])
        have n1 : gq ≠ g := by have := HGQ.out; omega
        have n2 : gf ≠ g := by have := HGQ.out; have := HGF.out; omega
        have hA0 : Away g S1.A (mkF H.fs) := fun _ ad hA => by have := HFr.out ad hA; omega
        have hA1 : Away (g + 1) S1.A (mkF H.fs) := fun _ ad hA => by have := HFr.out ad hA; omega
        have HL : Hid (Loc w S.A (mkF R.now.fs) S1.A (mkF H.fs)) := Lib.hid (fun ad hA => .inl (by have := HFr.out ad hA; have := h3.g0; omega))
        clear HE HEr HX HG1 HGF HFF HFr HGQ HAns HAX
        have c2 : wc.cell? ⟨g, 2, none⟩ = some (.string (tb R.hd)) := h3.bv.c 2 rfl
        have d2 := h3.bv.f 2
        go_upto_region 10 with fail
        rw [show wc.setCell ⟨g, 2, none⟩ (.string ⟨#[]⟩) = wc.setRow g (rcs { R with hd := [] } S) from rset_hd h3.bv []]
        have h4 := h3.row0 (R' := { R with hd := [] }) rfl
        have bq4 := bq.row_far n1 (rcs { R with hd := [] } S)
        have bf4 := bf.row_far n2 (rcs { R with hd := [] } S)
        have hF4 := Fs.row hF hA0 (rcs { R with hd := [] } S)
        clear c2 d2 h3 bq bf hF
        generalize wc.setRow g (rcs { R with hd := [] } S) = w10 at *
        have hst := storeNow h4.bv H S1
        have hz := hcs_size H S1
        go_upto_region 11 with (refine wplH_load rfl _ rfl gq rfl H S1 bq4 ?_)
        have h5 := h4.row (R' := { R with hd := [], now := H }) (S' := S1) hF4 hA0 hA1
        have bf5 := bf4.row_far n2 (rcs { R with hd := [], now := H } S1)
        clear hst hz h4 bq4 bf4 hF4
        generalize w10.setRow g (rcs { R with hd := [], now := H } S1) = w11 at *
        obtain ⟨y0, y1, y2, y3⟩ := Fr2 bf5
        have c3 : w11.cell? ⟨g, 3, none⟩ = some (.int .i64 R.k) := h5.bv.c 3 rfl
        have d3 := h5.bv.f 3
        have c4 : w11.cell? ⟨g, 4, none⟩ = some (.int .i64 R.z) := h5.bv.c 4 rfl
        have d4 := h5.bv.f 4
        go_upto_region 12 with fail
        have e : (w11.setCell ⟨g, 3, none⟩ (.int .i64 f1)).setCell ⟨g, 4, none⟩ (.int .i64 f2) = w11.setRow g (rcs ⟨R.a, R.q, [], f1, f2, R.b, R.ck, H, R.e⟩ S1) := by
          rw [rset_k h5.bv, rset_z (box_row _ h5.bv), setRow_setRow]
        rw [e]
        have h6 := h5.row0 (R' := ⟨R.a, R.q, [], f1, f2, R.b, R.ck, H, R.e⟩) rfl
        clear y0 y1 y2 y3 c3 d3 c4 d4 e h5 bf5
        generalize w11.setRow g (rcs ⟨R.a, R.q, [], f1, f2, R.b, R.ck, H, R.e⟩ S1) = w12 at *
        rw [← HV.out] at h6
        apply wp_region_lit
        refine wpl_load rfl _ rfl g rfl (rcs R' S1) h6.bv rfl ?_
        refine wpl_store rfl _ _ rfl (g + 1) (rcs R' S1) rfl rfl _ h6.br rfl h6.os (rcs_one _ _) ?_
        apply wpList_nil
        go_wp2
        refine bodyPost_ret (res_one (i := 2) (g := g + 1) (cs := rcs R' S1) Tryz.results50 rfl (box_row _ h6.br) rfl) rfl ?_
        have HN : R'.now = H := by rw [HV.out]
        exact h6.ends (by rw [HN]; exact HL.out)
end Go.Proofs.YtdlihfbaepjliaaGreatDoor
