/-
  The box of a reader that one call moves on: its first seventeen cells are the reader, the last one the messages.
-/
import Derived.Test.YtdlihfbaepjliaaGreatDoorJMc
import Derived.Test.YtdlihfbaepjliaaGreatDoorJCkL
import Derived.Test.YtdlihfbaepjliaaGreatDoorShelf
namespace Go.Proofs.YtdlihfbaepjliaaGreatDoor
open Go.RowKit

/-- a progress's cells -/
def pcs (R : Rr) (S O : Sli) : Array Value := #[.bool R.a, .string (tb R.q), .string (tb R.hd), .int .i64 R.k, .int .i64 R.z, .string (tb R.b), .int .i64 R.ck.s, .int .i64 R.ck.l, .string (tb R.ck.ln), .int .i64 R.ck.m, .string (tb R.now.m), .string (tb R.now.t), .int .i64 R.now.st, .string (tb R.now.r), .int .i64 R.now.mi, .slice S.A S.n S.c, .int .i64 R.e, .slice O.A O.n O.c]
theorem pcs_size (R : Rr) (S O : Sli) : (pcs R S O).size = 18 := rfl
theorem pcs_one (R : Rr) (S O : Sli) : (pcs R S O).all (·.oneCell') = true := by simp [pcs, Value.oneCell']
theorem pspl_rd (R R' : Rr) (S T O : Sli) : spl (pcs R S O) 0 (rcs R' T).toList = pcs R' T O := by
  simp only [spl, pcs, rcs, List.setIfInBounds_toArray, List.set_cons_zero, List.set_cons_succ, Nat.zero_add, Nat.reduceAdd]
section
variable {w : World} {g : Nat} {R : Rr} {S O : Sli}
theorem pstoreNow (h : Box w g 75 (pcs R S O)) (H : Hd) (T : Sli) : (storeCells ⟨g, 10, none⟩ (hcs H T).toList 0).run Tryz.prog w = .ok () (w.setRow g (pcs { R with now := H } T O)) :=
  storeM h 10 (hcs H T) (by rw [hcs_size, pcs_size]; decide) (hcs_one H T) rfl
theorem pstoreCk (h : Box w g 75 (pcs R S O)) (c : Ck) : (storeCells ⟨g, 6, none⟩ (kcs c).toList 0).run Tryz.prog w = .ok () (w.setRow g (pcs { R with ck := c } S O)) :=
  storeM h 6 (kcs c) (by rw [pcs_size, show (kcs c).size = 4 from rfl]; decide) (kcs_one c) rfl
theorem pstoreR (h : Box w g 75 (pcs R S O)) (R' : Rr) (T : Sli) : (storeCells ⟨g, 0, none⟩ (rcs R' T).toList 0).run Tryz.prog w = .ok () (w.setRow g (pcs R' T O)) :=
  storeM h 0 (rcs R' T) (by rw [pcs_size, rcs_size]; decide) (rcs_one R' T) (pspl_rd R R' S T O)
theorem pset_hd (h : Box w g 75 (pcs R S O)) (l : Bs) : w.setCell ⟨g, 2, none⟩ (.string (tb l)) = w.setRow g (pcs { R with hd := l } S O) := h.row_eq 2 _ rfl
theorem pset_b (h : Box w g 75 (pcs R S O)) (l : Bs) : w.setCell ⟨g, 5, none⟩ (.string (tb l)) = w.setRow g (pcs { R with b := l } S O) := h.row_eq 5 _ rfl
theorem pset_k (h : Box w g 75 (pcs R S O)) (x : Int) : w.setCell ⟨g, 3, none⟩ (.int .i64 x) = w.setRow g (pcs { R with k := x } S O) := h.row_eq 3 _ rfl
theorem pset_z (h : Box w g 75 (pcs R S O)) (x : Int) : w.setCell ⟨g, 4, none⟩ (.int .i64 x) = w.setRow g (pcs { R with z := x } S O) := h.row_eq 4 _ rfl
theorem pset_e (h : Box w g 75 (pcs R S O)) (x : Int) : w.setCell ⟨g, 16, none⟩ (.int .i64 x) = w.setRow g (pcs { R with e := x } S O) := h.row_eq 16 _ rfl
theorem pset_m (h : Box w g 75 (pcs R S O)) (T : Sli) : w.setCell ⟨g, 17, none⟩ (.slice T.A T.n T.c) = w.setRow g (pcs R S T) := h.row_eq 17 _ rfl
variable {ops : Array Oper} {rest : List Oper} {o : Oper} {a : Act} {Q : Exit → Act → World → Prop}
theorem wplPN_load (hgd : o.guard = none) (x : Operand) (ho : o.op = .load 29 x)
    (g : Nat) (hx : a.eval x = .pointer (some ⟨g, 10, none⟩)) (R : Rr) (S O : Sli) (hg : Box w g 75 (pcs R S O))
    (h : wpList Tryz.prog ops Q rest (a.put o.dst (.agg (hcs R.now S))) w) : wpList Tryz.prog ops Q (o :: rest) a w := by
  obtain ⟨d, h1, h2⟩ := isRowH
  refine wpList_load_mid hgd 29 x ho g 10 hx (hcs R.now S).toList d (fun j v hj => hg.c (10 + j) (part_at (cs := pcs R S O) (vs := hcs R.now S) rfl j v hj)) h1 h2 (by rw [Array.length_toList]; exact infoH) ?_
  simpa using h
theorem wplPK_load (hgd : o.guard = none) (x : Operand) (ho : o.op = .load 26 x)
    (g : Nat) (hx : a.eval x = .pointer (some ⟨g, 6, none⟩)) (R : Rr) (S O : Sli) (hg : Box w g 75 (pcs R S O))
    (h : wpList Tryz.prog ops Q rest (a.put o.dst (.agg (kcs R.ck))) w) : wpList Tryz.prog ops Q (o :: rest) a w := by
  obtain ⟨d, h1, h2⟩ := isRowK
  refine wpList_load_mid hgd 26 x ho g 6 hx (kcs R.ck).toList d (fun j v hj => hg.c (6 + j) (part_at (cs := pcs R S O) (vs := kcs R.ck) rfl j v hj)) h1 h2 (by rw [Array.length_toList]; exact infoK) ?_
  simpa using h
theorem wplPR_load (hgd : o.guard = none) (x : Operand) (ho : o.op = .load 32 x)
    (g : Nat) (hx : a.eval x = .pointer (some ⟨g, 0, none⟩)) (R : Rr) (S O : Sli) (hg : Box w g 75 (pcs R S O))
    (h : wpList Tryz.prog ops Q rest (a.put o.dst (.agg (rcs R S))) w) : wpList Tryz.prog ops Q (o :: rest) a w := by
  obtain ⟨d, h1, h2⟩ := isRowR
  refine wpList_load_mid hgd 32 x ho g 0 hx (rcs R S).toList d (fun j v hj => hg.c (0 + j) (part_at (cs := pcs R S O) (vs := rcs R S) rfl j v hj)) h1 h2 (by rw [Array.length_toList]; exact infoR) ?_
  simpa using h
end
/-- a reader in a progress's box -/
structure PS (W : World) (g : Nat) (R : Rr) (S O : Sli) : Prop where
  bx : Box W g 75 (pcs R S O)
  fs : Fs W S (mkF R.now.fs)
  aw : Away g S.A (mkF R.now.fs)
  mx : Mx W
  gx : 3 ≠ g
theorem PS.up {W W' : World} {g : Nat} {R : Rr} {S O : Sli} (h : PS W g R S O) (hb : Below W.heap.size W W') : PS W' g R S O := ⟨h.bx.up hb, h.fs.up hb, h.aw, h.mx.up hb, h.gx⟩
theorem PS.row {W : World} {g : Nat} {R : Rr} {S O : Sli} (h : PS W g R S O) {R' : Rr} {S' : Sli} (hF : Fs W S' (mkF R'.now.fs)) (ha : Away g S'.A (mkF R'.now.fs)) : PS (W.setRow g (pcs R' S' O)) g R' S' O :=
  ⟨box_row _ h.bx, Fs.row hF ha _, ha, h.mx.imp fun _ hm => (cell_setRow_other _ _ _ _ h.gx).trans hm, h.gx⟩
theorem PS.row0 {W : World} {g : Nat} {R : Rr} {S O : Sli} (h : PS W g R S O) {R' : Rr} (hn : R'.now = R.now) : PS (W.setRow g (pcs R' S O)) g R' S O :=
  h.row (by rw [hn]; exact h.fs) (by rw [hn]; exact h.aw)
theorem but_row {w W : World} {g : Nat} (h : But g w W) (cs : Array Value) : But g w (W.setRow g cs) :=
  h.on ⟨rfl, rfl, rfl, by rw [row_size]; exact Nat.le_refl _, fun k _ hn => row_heap W g cs k hn⟩
/-- the reader in the box is turned to that one -/
def IEnds (g : Nat) (O : Sli) (A0 : Option Addr) (f0 : List Fd) (R : Rr) (w : World) (E : Ending) (w' : World) : Prop :=
  E = .returned (.tuple #[]) ∧ ∃ S : Sli, PS w' g R S O ∧ But g w w' ∧ Loc w A0 f0 S.A (mkF R.now.fs)
theorem mnew_c (a : Bool) (q : Bs) (w : World) : Calls Tryz.prog 20 #[.bool a, .string (tb q)] w (fun E w' => E = .returned (.agg (rcs (newR a q) ⟨none, 0, 0⟩)) ∧ Below w.heap.size w w') := by
  go_enter Tryz.func20, Tryz.ntmps20
  go_wp2
  refine bodyPost_ret (v := .agg #[.bool a, .string (tb q), .string ⟨#[]⟩, .int .i64 0, .int .i64 0, .string ⟨#[]⟩, .int .i64 0, .int .i64 0, .string ⟨#[]⟩, .int .i64 0, .string ⟨#[]⟩, .string ⟨#[]⟩, .int .i64 0, .string ⟨#[]⟩, .int .i64 0, .slice none 0 0, .int .i64 0]) (by simp [results, Tryz.results20, go_sem]) rfl ?_
  exact ⟨rfl, ba1 _ _⟩

theorem pcs_rd (R : Rr) (S O : Sli) : (pcs R S O).extract 0 17 = rcs R S := Array.toList_inj.1 (by rw [Array.toList_extract]; rfl)
theorem pcs_now (R : Rr) (S O : Sli) : (pcs R S O).extract 10 16 = hcs R.now S := rfl
theorem pcs_ck (R : Rr) (S O : Sli) : (pcs R S O).extract 6 10 = kcs R.ck := rfl
theorem pcs_oneN (R : Rr) (S O : Sli) : (pcs R S O).all (fun x => x.oneCell') 0 18 = true := pcs_one R S O
theorem pspl_now (R : Rr) (S O : Sli) (H : Hd) (T : Sli) : spl (pcs R S O) 10 (hcs H T).toList = pcs { R with now := H } T O := rfl
theorem pspl_ck (R : Rr) (S O : Sli) (c : Ck) : spl (pcs R S O) 6 (kcs c).toList = pcs { R with ck := c } S O := rfl
theorem infoP : (Tryz.prog.info? 75).map (·.size) = some 18 := by kernel_rfl
theorem exec_stP (ρ : Operand → Value) (dst : Option Tmp) (x y : Operand) (ty : TypeId) (pos : String) (after : Array Edge) (guard : Option (Nat × Bool)) :
    execOp ρ { dst, op := .store 75 x y, type := ty, pos, after, guard } = stS 75 (ρ x) (ρ y) := rfl
theorem run_stP (g o : Nat) (x : Value) (w : World) : (stS 75 (.pointer (some ⟨g, o, none⟩)) x).run Tryz.prog w = match stO 18 o x (hpat w g) with | some cs => .ok .skip (w.setRow g cs) | none => stZ 75 g o x w := st_any infoP g o x w
/-- a progress is built of a reader -/
def bdP (x : Value) : Sem Next := do pure (.value (← Instr.build 75 #[(0, x)]))
theorem exec_bdP (ρ : Operand → Value) (dst : Option Tmp) (x : Operand) (ty : TypeId) (pos : String) (after : Array Edge) (guard : Option (Nat × Bool)) :
    execOp ρ { dst, op := .build 75 #[(0, x)], type := ty, pos, after, guard } = bdP (ρ x) := by simp [execOp, bdP]
theorem run_bdP (R : Rr) (S : Sli) (w : World) : (bdP (.agg (rcs R S))).run Tryz.prog w = .ok (.value (.agg (pcs R S ⟨none, 0, 0⟩))) w := by
  have h : (Instr.build 75 #[(0, .agg (rcs R S))]).run Tryz.prog w = .ok (.agg (pcs R S ⟨none, 0, 0⟩)) w := by kernel_rfl
  simp only [bdP, Sem.run_bind, h, Result.andThen_ok, Sem.run_pure]
end Go.Proofs.YtdlihfbaepjliaaGreatDoor
