/-
  Messages in memory as functions of what they read as; a row of messages that grows.
-/
import Derived.Test.YtdlihfbaepjliaaGreatDoorJRc
import Derived.Test.YtdlihfbaepjliaaGreatDoorJHdU
import Derived.Test.YtdlihfbaepjliaaGreatDoorRz
import Derived.Test.YtdlihfbaepjliaaGreatDoorJRefS
namespace Go.Proofs.YtdlihfbaepjliaaGreatDoor
open Go.RowKit

/-- a message's cells; its fields lie at S -/
def mca (M : Mg) (S : Sli) : Array Value := #[.string (tb M.h.m), .string (tb M.h.t), .int .i64 M.h.st, .string (tb M.h.r), .int .i64 M.h.mi, .slice S.A S.n S.c, .string (tb M.b)]
abbrev MS7 := Mg × Sli
def mcs (x : MS7) : List Value := (mca x.1 x.2).toList
def mvs (ms : List MS7) : List Value := ms.flatMap mcs
theorem mca_size (M : Mg) (S : Sli) : (mca M S).size = 7 := rfl
theorem mca_one (M : Mg) (S : Sli) : (mca M S).all (·.oneCell') = true := by simp [mca, Value.oneCell']
theorem mcs_len (x : MS7) : (mcs x).length = 7 := rfl
theorem mvs_len (ms : List MS7) : (mvs ms).length = ms.length * 7 := by
  induction ms with
  | nil => rfl
  | cons x r ih =>
    rw [mvs, List.flatMap_cons, List.length_append]
    rw [mvs] at ih
    rw [ih, mcs_len]
    simp
    omega
theorem mvs_app (xs ys : List MS7) : mvs (xs ++ ys) = mvs xs ++ mvs ys := by simp [mvs]
theorem mvs_one (xs : List MS7) : ∀ u ∈ mvs xs, u.oneCell' = true := by
  intro u hu
  obtain ⟨x, _, hx⟩ := List.mem_flatMap.1 hu
  exact (Array.all_eq_true_iff_forall_mem.1 (mca_one x.1 x.2)) u (by simpa [mcs] using hx)
theorem mvs_at (xs : List MS7) : ∀ (k : Nat) (x : MS7), xs[k]? = some x → ∀ j, j < 7 → (mvs xs)[k * 7 + j]? = (mcs x)[j]? := by
  induction xs with
  | nil => intro k x h; cases h
  | cons y r ih =>
    intro k x h j hj
    have hl : (mcs y).length = 7 := rfl
    cases k with
    | zero =>
      simp only [List.getElem?_cons_zero, Option.some.injEq] at h
      subst h
      rw [mvs, List.flatMap_cons, Nat.zero_mul, Nat.zero_add, List.getElem?_append_left (by omega)]
    | succ k =>
      simp only [List.getElem?_cons_succ] at h
      rw [mvs, List.flatMap_cons, List.getElem?_append_right (by omega), hl, show (k + 1) * 7 + j - 7 = k * 7 + j by omega]
      exact ih k x h j hj
/-- a slice of messages -/
structure Ms (w : World) (s : Sli) (ms : List MS7) : Prop where
  len : ms.length = s.n
  rd : Rd w s.A (mvs ms)
  cap : s.A = none → s.c = 0
  le : s.n ≤ s.c ∧ s.c ≤ maxLen
  fs : ∀ x ∈ ms, Fs w x.2 (mkF x.1.h.fs)
theorem Ms.up {w w' : World} {s : Sli} {ms : List MS7} (h : Ms w s ms) (hb : Below w.heap.size w w') : Ms w' s ms := ⟨h.len, h.rd.up hb, h.cap, h.le, fun x hx => (h.fs x hx).up hb⟩
theorem Ms.cell {w : World} {s : Sli} {ms : List MS7} (h : Ms w s ms) {k : Nat} (hk : k < s.n) : ∃ b o x, s.A = some ⟨b, o, none⟩ ∧ ms[k]? = some x ∧ x ∈ ms ∧ b < w.heap.size ∧ ∀ j u, (mcs x)[j]? = some u → w.cell? ⟨b, o + (k * 7 + j), none⟩ = some u := by
  have hl := h.len
  obtain ⟨b, o, h1, h2, h3⟩ := h.rd (by rw [mvs_len]; omega)
  obtain ⟨x, hx⟩ : ∃ x, ms[k]? = some x := ⟨_, List.getElem?_eq_getElem (by omega)⟩
  refine ⟨b, o, x, h1, hx, List.mem_of_getElem? hx, h2, fun j u hu => ?_⟩
  have hj : j < 7 := (List.getElem?_eq_some_iff.1 hu).1
  have := mvs_at ms k x hx j hj
  rw [hu] at this
  exact h3 (k * 7 + j) u this
/-- no fields of the slice lie in a block -/
def Apt (O S : Sli) (fs : List Fd) : Prop := fs ≠ [] → ∀ ad o, S.A = some ad → O.A = some o → ad.block ≠ o.block
/-- a row of messages of the call's own, from block B on; their fields lie neither in it nor in the blocks P -/
structure Mo (W : World) (B : Nat) (P : Nat → Prop) (O : Sli) (ms : List MS7) : Prop where
  row : Row W B 49 7 O (mvs ms)
  fs : ∀ x ∈ ms, Fs W x.2 (mkF x.1.h.fs)
  aw : ∀ x ∈ ms, ∀ k, P k → Away k x.2.A (mkF x.1.h.fs)
  ap : ∀ x ∈ ms, Apt O x.2 (mkF x.1.h.fs)
theorem Mo.nil (W : World) (B : Nat) (P : Nat → Prop) : Mo W B P ⟨none, 0, 0⟩ [] := ⟨World.ownsRow_nil _ _ _ _, (fun _ h => by cases h), (fun _ h => by cases h), (fun _ h => by cases h)⟩
theorem Mo.up {W W' : World} {B : Nat} {P : Nat → Prop} {O : Sli} {ms : List MS7} (h : Mo W B P O ms) (hb : Below W.heap.size W W') : Mo W' B P O ms :=
  ⟨h.row.up hb, fun x hx => (h.fs x hx).up hb, h.aw, h.ap⟩
theorem Mo.row_set {W : World} {B g : Nat} {P : Nat → Prop} {O : Sli} {ms : List MS7} {t : TypeId} {ps : Array Value} (h : Mo W B P O ms) (hg : Box W g t ps) (ht : t ≠ 49) (hP : P g) (cs : Array Value) : Mo (W.setRow g cs) B P O ms :=
  ⟨h.row.keep fun k _ hk => row_heap W g cs k (box_ne hg hk ht), fun x hx => Fs.row (h.fs x hx) (h.aw x hx g hP) cs, h.aw, h.ap⟩
theorem Mo.len {W : World} {B : Nat} {P : Nat → Prop} {O : Sli} {ms : List MS7} (h : Mo W B P O ms) : ms.length = O.n := by
  have := h.row.1
  rw [mvs_len] at this
  omega
theorem Mo.ms {W : World} {B : Nat} {P : Nat → Prop} {O : Sli} {ms : List MS7} (h : Mo W B P O ms) : Ms W O ms where
  len := h.len
  rd := h.row.rd fun hn => by have := h.len; rw [hn] at this; rw [List.eq_nil_of_length_eq_zero this]; rfl
  cap hA := by
    rcases h.row.2 with ⟨h1, _⟩ | ⟨g, cap, cur, h1, _⟩
    · simp only [Value.slice.injEq] at h1
      exact h1.2.2
    · simp only [Value.slice.injEq] at h1
      rw [h1.1] at hA
      cases hA
  le := by
    rcases h.row.2 with ⟨h1, h2⟩ | ⟨g, cap, cur, h1, _, _, hnc, hm, _⟩
    · rw [h2]
      simp only [Value.slice.injEq] at h1
      rw [h1.2.2]
      exact ⟨Nat.zero_le _, Nat.zero_le _⟩
    · simp only [Value.slice.injEq] at h1
      rw [h1.2.2]
      exact ⟨hnc, hm⟩
  fs := h.fs
/-- the row's own block -/
theorem Row.own {W : World} {B sz : Nat} {e : TypeId} {O : Sli} {cs : List Value} (_h : Row W B e sz O cs) : (Value.slice O.A O.n O.c).ownBlock = O.A.map (·.block) := by
  cases O with
  | mk A n c => cases A <;> rfl
theorem own_of (A : Option Addr) (n c : Nat) : (Value.slice A n c).ownBlock = A.map (·.block) := by cases A <;> rfl
/-- the fields stay while the row grows -/
theorem Fs.grown {W W' : World} {O S : Sli} {fs : List Fd} (h : Fs W S fs) (hg : W.grownBy W' (Value.slice O.A O.n O.c).ownBlock) (ha : Apt O S fs) : Fs W' S fs :=
  h.keep (fun hne ad hA o => World.cell?_of_block (w := W) (hg.block ad.block (h.lt hne hA) (by
    rw [own_of]
    intro e
    cases hO : O.A with
    | none => rw [hO] at e; cases e
    | some x =>
      rw [hO] at e
      exact ha hne ad x hA hO (Option.some.inj e)))) hg.size
theorem mo_app {W W' : World} {B : Nat} {P : Nat → Prop} {O : Sli} {ms : List MS7} (h : Mo W B P O ms) {A : Option Addr} {n c : Nat} {x : MS7}
    (h1 : W'.ownsRow B 49 7 (.slice A n c) n (mvs ms ++ mcs x)) (h2 : W.grownBy W' (Value.slice O.A O.n O.c).ownBlock) (h3 : (Value.slice A n c).ownBlock = (Value.slice O.A O.n O.c).ownBlock ∨ (Value.slice A n c).ownBlock = some W.heap.size)
    (hF : Fs W x.2 (mkF x.1.h.fs)) (ha : ∀ k, P k → Away k x.2.A (mkF x.1.h.fs)) (hp : Apt O x.2 (mkF x.1.h.fs)) : Mo W' B P ⟨A, n, c⟩ (ms ++ [x]) := by
  have hap : ∀ (y : MS7), Fs W y.2 (mkF y.1.h.fs) → Apt O y.2 (mkF y.1.h.fs) → Apt ⟨A, n, c⟩ y.2 (mkF y.1.h.fs) := by
    intro y hy hq hne ad o hA hO
    simp only at hO
    rw [own_of, own_of] at h3
    rw [hO] at h3
    rcases h3 with h3 | h3
    · cases hOA : O.A with
      | none => rw [hOA] at h3; cases h3
      | some z =>
        rw [hOA] at h3
        have e : o.block = z.block := Option.some.inj h3
        rw [e]
        exact hq hne ad z hA hOA
    · have e : o.block = W.heap.size := Option.some.inj h3
      have := hy.lt hne hA
      omega
  refine ⟨by rw [mvs_app]; simpa [mvs] using h1, fun y hy => ?_, fun y hy => ?_, fun y hy => ?_⟩
  · rcases List.mem_append.1 hy with hy | hy
    · exact (h.fs y hy).grown h2 (h.ap y hy)
    · obtain rfl := List.mem_singleton.1 hy
      exact hF.grown h2 hp
  · rcases List.mem_append.1 hy with hy | hy
    · exact h.aw y hy
    · obtain rfl := List.mem_singleton.1 hy
      exact ha
  · rcases List.mem_append.1 hy with hy | hy
    · exact hap y (h.fs y hy) (h.ap y hy)
    · obtain rfl := List.mem_singleton.1 hy
      exact hap y hF hp
theorem cells_whole {w : World} {g : Nat} {t : TypeId} {old : Array Value} (h : Box w g t old) (vs : Array Value) (hs : vs.size = old.size) (h1 : vs.all (·.oneCell') = true) : w.setCells g 0 vs.toList = w.setRow g vs := by
  have e1 := storeW (P := Tryz.prog) h vs hs h1
  have e2 := run_storeCells_cells (P := Tryz.prog) g 0 vs.toList 0 w (fun j hj => by
      have hj' : j < vs.size := by simpa using hj
      have e := h.c (0 + (0 + j)) (v := old[0 + (0 + j)]'(by omega)) (Array.getElem?_eq_getElem (by omega))
      rw [Nat.add_assoc, e]
      rfl) (fun j _ => h.f _) (fun v hv => (Array.all_eq_true_iff_forall_mem.1 h1) v (by simpa using hv))
  rw [e1] at e2
  injection e2 with _ e3
  exact e3.symm
theorem Box.there {w : World} {g : Nat} {t : TypeId} {cs : Array Value} (h : Box w g t cs) (n : Nat) (hn : n ≤ cs.size) : w.there g 0 n := fun j hj => ⟨by
  rw [h.c (0 + j) (v := cs[0 + j]'(by omega)) (Array.getElem?_eq_getElem (by omega))]
  rfl, h.f _⟩
theorem Box.cr {w : World} {g : Nat} {R : Rr} {S : Sli} (h : Box w g 32 (rcs R S)) : w.cell? ⟨g, 0, none⟩ = some (.bool R.a) ∧ w.cell? ⟨g, 1, none⟩ = some (.string (tb R.q)) ∧ w.cell? ⟨g, 2, none⟩ = some (.string (tb R.hd)) ∧ w.cell? ⟨g, 3, none⟩ = some (.int .i64 R.k) ∧ w.cell? ⟨g, 4, none⟩ = some (.int .i64 R.z) ∧ w.cell? ⟨g, 5, none⟩ = some (.string (tb R.b)) ∧ w.cell? ⟨g, 6, none⟩ = some (.int .i64 R.ck.s) ∧ w.cell? ⟨g, 7, none⟩ = some (.int .i64 R.ck.l) ∧ w.cell? ⟨g, 8, none⟩ = some (.string (tb R.ck.ln)) ∧ w.cell? ⟨g, 9, none⟩ = some (.int .i64 R.ck.m) ∧ w.cell? ⟨g, 10, none⟩ = some (.string (tb R.now.m)) ∧ w.cell? ⟨g, 11, none⟩ = some (.string (tb R.now.t)) ∧ w.cell? ⟨g, 12, none⟩ = some (.int .i64 R.now.st) ∧ w.cell? ⟨g, 13, none⟩ = some (.string (tb R.now.r)) ∧ w.cell? ⟨g, 14, none⟩ = some (.int .i64 R.now.mi) ∧ w.cell? ⟨g, 15, none⟩ = some (.slice S.A S.n S.c) ∧ w.cell? ⟨g, 16, none⟩ = some (.int .i64 R.e) :=
  ⟨h.c 0 rfl, h.c 1 rfl, h.c 2 rfl, h.c 3 rfl, h.c 4 rfl, h.c 5 rfl, h.c 6 rfl, h.c 7 rfl, h.c 8 rfl, h.c 9 rfl, h.c 10 rfl, h.c 11 rfl, h.c 12 rfl, h.c 13 rfl, h.c 14 rfl, h.c 15 rfl, h.c 16 rfl⟩
theorem D2.grown {w W W' : World} {g B : Nat} {R : Rr} {S O : Sli} {old : Array Value} {ys : List Value} (h : D2 w W g R S old) (hr : Row W B 49 7 O ys) (hB : w.heap.size ≤ B) (hg : W.grownBy W' (Value.slice O.A O.n O.c).ownBlock) (ha : Apt O S (mkF R.now.fs)) : D2 w W' g R S old :=
  ⟨(grown_other hr hg h.bv (by decide)).trans h.bv, (grown_other hr hg h.br (by decide)).trans h.br, h.os, grown_base hr hg h.hb hB h.hb.size, h.g0, h.fs.grown hg ha, h.a0, h.a1⟩
/-- a reader, messages and an error are handed back -/
def Feed9Ends (Z : Rr × List Mg × Int) (A0 : Option Addr) (f0 : List Fd) (w : World) (E : Ending) (w' : World) : Prop :=
  ∃ (S O : Sli) (ms : List MS7), E = .returned (.tuple #[.agg (rcs Z.1 S), .slice O.A O.n O.c, .int .i64 Z.2.2]) ∧ Fs w' S (mkF Z.1.now.fs) ∧ Loc w A0 f0 S.A (mkF Z.1.now.fs) ∧ Ms w' O ms ∧ ms.map (·.1) = Z.2.1 ∧ Below w.heap.size w w'
/-- a message, whether there is one, and an error -/
def End9Ends (Z : Mg × Bool × Int) (w : World) (E : Ending) (w' : World) : Prop :=
  ∃ S : Sli, E = .returned (.tuple #[.agg (mca Z.1 S), .bool Z.2.1, .int .i64 Z.2.2]) ∧ Fs w' S (mkF Z.1.h.fs) ∧ Below w.heap.size w w'
theorem isRowM : ∃ d, Tryz.prog.underlying 49 = some d ∧ d.isRow = true := ⟨_, Tryz.underlying49, rfl⟩
theorem infoM : (Tryz.prog.info? 49).map (·.size) = some 7 := by kernel_rfl
theorem infoMz : (Tryz.prog.info? 49).map (fun i => (i.zero, i.size, i.bytes)) = some (some (.agg #[.string ⟨#[]⟩, .string ⟨#[]⟩, .int .i64 0, .string ⟨#[]⟩, .int .i64 0, .slice none 0 0, .string ⟨#[]⟩]), 7, 104) := by kernel_rfl
theorem builtM (H : Hd) (S : Sli) (b : Bs) : Tryz.prog.built 49 [(0, .agg (hcs H S)), (1, .string (tb b))] = some (mca ⟨H, b⟩ S) := by kernel_rfl
theorem wplM_build {ops : Array Oper} {rest : List Oper} {o : Oper} {a : Act} {w : World} {Q : Exit → Act → World → Prop} (hgd : o.guard = none) (x y : Operand) (ho : o.op = .build 49 #[(0, x), (1, y)])
    (H : Hd) (S : Sli) (b : Bs) (hx : a.eval x = .agg (hcs H S)) (hy : a.eval y = .string (tb b))
    (h : wpList Tryz.prog ops Q rest (a.put o.dst (.agg (mca ⟨H, b⟩ S))) w) : wpList Tryz.prog ops Q (o :: rest) a w := by
  have e : (Tryz.prog.built 49 ((#[(0, x), (1, y)] : Array (Nat × Operand)).map fun (i, x) => (i, a.eval x)).toList) = some (mca ⟨H, b⟩ S) := by
    simp only [List.map_toArray, List.map_cons, List.map_nil, hx, hy]
    exact builtM H S b
  refine wpList_build hgd 49 _ ho (by rw [e]; rfl) ?_
  rw [e]
  exact h
end Go.Proofs.YtdlihfbaepjliaaGreatDoor

/-
  Structs loaded and stored whole by a walk: laws that keep them as rows.
-/
namespace Go.Proofs.YtdlihfbaepjliaaGreatDoor
open Go.RowKit

/-- what lies at a place of the heap -/
def hpat (w : World) (g : Nat) : Option Obj := w.heap[g]?
/-- the load of a struct, kept whole -/
def ldS (t : TypeId) (v : Value) : Sem Next := do pure (.value (← Instr.loadAt t v))
/-- the store of a struct, kept whole -/
def stS (t : TypeId) (v x : Value) : Sem Next := do Instr.storeAt t v x; pure .skip
/-- the cells of a part of a block -/
def ldO (n o : Nat) : Option Obj → Option (Array Value)
  | some (.cells cs _ _) => if o + n ≤ cs.size then some (if o = 0 ∧ n = cs.size then cs else cs.extract o (o + n)) else none
  | _ => none
/-- a block's cells with a part stored anew -/
def stO (n o : Nat) (x : Value) : Option Obj → Option (Array Value)
  | some (.cells cs _ fz) => match x with
    | .agg vs => if fz = (0, 0) ∧ o + n ≤ cs.size ∧ vs.size = n ∧ vs.all (·.oneCell') = true then some (if o = 0 ∧ n = cs.size then vs else spl cs o vs.toList) else none
    | _ => none
  | _ => none
theorem ldO_at (n o : Nat) (cs : Array Value) (t : TypeId) (fz : Nat × Nat) : ldO n o (some (.cells cs t fz)) = if o + n ≤ cs.size then some (if o = 0 ∧ n = cs.size then cs else cs.extract o (o + n)) else none := rfl
theorem stO_at (n o : Nat) (vs : Array Value) (cs : Array Value) (t : TypeId) : stO n o (.agg vs) (some (.cells cs t (0, 0))) = if o + n ≤ cs.size ∧ vs.size = n ∧ vs.all (·.oneCell') = true then some (if o = 0 ∧ n = cs.size then vs else spl cs o vs.toList) else none := by
  simp [stO]
theorem ld_any {t : TypeId} {n : Nat} (hd : ∃ d, Tryz.prog.underlying t = some d ∧ d.isRow = true) (hi : (Tryz.prog.info? t).map (·.size) = some n) (g o : Nat) (w : World) :
    (ldS t (.pointer (some ⟨g, o, none⟩))).run Tryz.prog w = match ldO n o (hpat w g) with | some cs => .ok (.value (.agg cs)) w | none => (ldS t (.pointer (some ⟨g, o, none⟩))).run Tryz.prog w := by
  unfold hpat
  cases hc : ldO n o w.heap[g]? with
  | none => rfl
  | some vs =>
    obtain ⟨d, h1, h2⟩ := hd
    unfold ldO at hc
    split at hc
    case h_2 => cases hc
    case h_1 cs t' fz hg =>
    split at hc
    case isFalse => cases hc
    case isTrue hle =>
    have hvs : vs = cs.extract o (o + n) := by
      replace hc := Option.some.inj hc
      split at hc
      case isTrue h0 =>
        obtain ⟨rfl, rfl⟩ := h0
        rw [← hc]
        simp
      case isFalse => exact hc.symm
    have hsz : vs.size = n := by rw [hvs]; simp; omega
    have hrun := run_loadAt_mid (P := Tryz.prog) w g o t vs.toList d (fun j v hj => by
      rw [cell_of_row w g (o + j) cs t' fz hg]
      rw [hvs, Array.getElem?_toList, Array.getElem?_extract] at hj
      split at hj
      · exact hj
      · cases hj) h1 h2 (by rw [Array.length_toList, hsz]; exact hi)
    simp only [ldS, Sem.run_bind, hrun, Result.andThen_ok, Sem.run_pure, Array.toArray_toList]
theorem st_any {t : TypeId} {n : Nat} (hi : (Tryz.prog.info? t).map (·.size) = some n) (g o : Nat) (x : Value) (w : World) :
    (stS t (.pointer (some ⟨g, o, none⟩)) x).run Tryz.prog w = match stO n o x (hpat w g) with | some cs => .ok .skip (w.setRow g cs) | none => (stS t (.pointer (some ⟨g, o, none⟩)) x).run Tryz.prog w := by
  unfold hpat
  cases hc : stO n o x w.heap[g]? with
  | none => rfl
  | some new =>
    unfold stO at hc
    split at hc
    case h_2 => cases hc
    case h_1 cs t' fz hg =>
    split at hc
    case h_2 => cases hc
    case h_1 vs =>
    split at hc
    case isFalse => cases hc
    case isTrue hq =>
    obtain ⟨rfl, hle, hsz, hone⟩ := hq
    have hb : Box w g t' cs := hg
    have hth : w.there g o vs.size := fun j hj => ⟨by
      rw [hb.c (o + j) (v := cs[o + j]'(by omega)) (Array.getElem?_eq_getElem (by omega))]
      rfl, hb.f _⟩
    have hrun := run_storeAt_mid (P := Tryz.prog) w g o t vs hth (by rw [hsz]; exact hi) hone
    have hrow : w.setCells g o vs.toList = w.setRow g new := by
      replace hc := Option.some.inj hc
      split at hc
      case isTrue h0 =>
        obtain ⟨rfl, h0⟩ := h0
        rw [← hc]
        exact cells_whole hb vs (by omega) hone
      case isFalse =>
        rw [← hc]
        exact Box.cells_eq vs.toList o cs w hb
    simp only [stS, Sem.run_bind, hrun, Result.andThen_ok, Sem.run_pure, hrow]
theorem exec_ldR (ρ : Operand → Value) (dst : Option Tmp) (x : Operand) (ty : TypeId) (pos : String) (after : Array Edge) (guard : Option (Nat × Bool)) :
    execOp ρ { dst, op := .load 32 x, type := ty, pos, after, guard } = ldS 32 (ρ x) := rfl
theorem exec_ldH (ρ : Operand → Value) (dst : Option Tmp) (x : Operand) (ty : TypeId) (pos : String) (after : Array Edge) (guard : Option (Nat × Bool)) :
    execOp ρ { dst, op := .load 29 x, type := ty, pos, after, guard } = ldS 29 (ρ x) := rfl
theorem exec_ldK (ρ : Operand → Value) (dst : Option Tmp) (x : Operand) (ty : TypeId) (pos : String) (after : Array Edge) (guard : Option (Nat × Bool)) :
    execOp ρ { dst, op := .load 26 x, type := ty, pos, after, guard } = ldS 26 (ρ x) := rfl
theorem exec_ldM (ρ : Operand → Value) (dst : Option Tmp) (x : Operand) (ty : TypeId) (pos : String) (after : Array Edge) (guard : Option (Nat × Bool)) :
    execOp ρ { dst, op := .load 49 x, type := ty, pos, after, guard } = ldS 49 (ρ x) := rfl
theorem exec_stR (ρ : Operand → Value) (dst : Option Tmp) (x y : Operand) (ty : TypeId) (pos : String) (after : Array Edge) (guard : Option (Nat × Bool)) :
    execOp ρ { dst, op := .store 32 x y, type := ty, pos, after, guard } = stS 32 (ρ x) (ρ y) := rfl
theorem exec_stH (ρ : Operand → Value) (dst : Option Tmp) (x y : Operand) (ty : TypeId) (pos : String) (after : Array Edge) (guard : Option (Nat × Bool)) :
    execOp ρ { dst, op := .store 29 x y, type := ty, pos, after, guard } = stS 29 (ρ x) (ρ y) := rfl
theorem exec_stK (ρ : Operand → Value) (dst : Option Tmp) (x y : Operand) (ty : TypeId) (pos : String) (after : Array Edge) (guard : Option (Nat × Bool)) :
    execOp ρ { dst, op := .store 26 x y, type := ty, pos, after, guard } = stS 26 (ρ x) (ρ y) := rfl
theorem exec_stM (ρ : Operand → Value) (dst : Option Tmp) (x y : Operand) (ty : TypeId) (pos : String) (after : Array Edge) (guard : Option (Nat × Bool)) :
    execOp ρ { dst, op := .store 49 x y, type := ty, pos, after, guard } = stS 49 (ρ x) (ρ y) := rfl
/-- what is left of a load or a store that does not fit -/
noncomputable def ldZ (t : TypeId) (g o : Nat) (w : World) : Result Next := (ldS t (.pointer (some ⟨g, o, none⟩))).run Tryz.prog w
noncomputable def stZ (t : TypeId) (g o : Nat) (x : Value) (w : World) : Result Next := (stS t (.pointer (some ⟨g, o, none⟩)) x).run Tryz.prog w
theorem run_ldR (g o : Nat) (w : World) : (ldS 32 (.pointer (some ⟨g, o, none⟩))).run Tryz.prog w = match ldO 17 o (hpat w g) with | some cs => .ok (.value (.agg cs)) w | none => ldZ 32 g o w := ld_any isRowR infoR g o w
theorem run_ldH (g o : Nat) (w : World) : (ldS 29 (.pointer (some ⟨g, o, none⟩))).run Tryz.prog w = match ldO 6 o (hpat w g) with | some cs => .ok (.value (.agg cs)) w | none => ldZ 29 g o w := ld_any isRowH infoH g o w
theorem run_ldK (g o : Nat) (w : World) : (ldS 26 (.pointer (some ⟨g, o, none⟩))).run Tryz.prog w = match ldO 4 o (hpat w g) with | some cs => .ok (.value (.agg cs)) w | none => ldZ 26 g o w := ld_any isRowK infoK g o w
theorem run_ldM (g o : Nat) (w : World) : (ldS 49 (.pointer (some ⟨g, o, none⟩))).run Tryz.prog w = match ldO 7 o (hpat w g) with | some cs => .ok (.value (.agg cs)) w | none => ldZ 49 g o w := ld_any isRowM infoM g o w
theorem run_stR (g o : Nat) (x : Value) (w : World) : (stS 32 (.pointer (some ⟨g, o, none⟩)) x).run Tryz.prog w = match stO 17 o x (hpat w g) with | some cs => .ok .skip (w.setRow g cs) | none => stZ 32 g o x w := st_any infoR g o x w
theorem run_stH (g o : Nat) (x : Value) (w : World) : (stS 29 (.pointer (some ⟨g, o, none⟩)) x).run Tryz.prog w = match stO 6 o x (hpat w g) with | some cs => .ok .skip (w.setRow g cs) | none => stZ 29 g o x w := st_any infoH g o x w
theorem run_stK (g o : Nat) (x : Value) (w : World) : (stS 26 (.pointer (some ⟨g, o, none⟩)) x).run Tryz.prog w = match stO 4 o x (hpat w g) with | some cs => .ok .skip (w.setRow g cs) | none => stZ 26 g o x w := st_any infoK g o x w
theorem run_stM (g o : Nat) (x : Value) (w : World) : (stS 49 (.pointer (some ⟨g, o, none⟩)) x).run Tryz.prog w = match stO 7 o x (hpat w g) with | some cs => .ok .skip (w.setRow g cs) | none => stZ 49 g o x w := st_any infoM g o x w
theorem rcs_oneN (R : Rr) (S : Sli) : (rcs R S).all (fun x => x.oneCell') 0 17 = true := rcs_one R S
theorem hcs_oneN (H : Hd) (S : Sli) : (hcs H S).all (fun x => x.oneCell') 0 6 = true := hcs_one H S
theorem kcs_oneN (c : Ck) : (kcs c).all (fun x => x.oneCell') 0 4 = true := kcs_one c
theorem mca_oneN (M : Mg) (S : Sli) : (mca M S).all (fun x => x.oneCell') 0 7 = true := mca_one M S
theorem kcs_size (c : Ck) : (kcs c).size = 4 := rfl
theorem rcs_now (R : Rr) (S : Sli) : (rcs R S).extract 10 16 = hcs R.now S := rfl
theorem rcs_ck (R : Rr) (S : Sli) : (rcs R S).extract 6 10 = kcs R.ck := rfl
theorem mca_head (M : Mg) (S : Sli) : (mca M S).extract 0 6 = hcs M.h S := rfl
theorem spl_now (R : Rr) (S : Sli) (H : Hd) (T : Sli) : spl (rcs R S) 10 (hcs H T).toList = rcs { R with now := H } T := rfl
theorem spl_ck (R : Rr) (S : Sli) (c : Ck) : spl (rcs R S) 6 (kcs c).toList = rcs { R with ck := c } S := rfl
theorem heldG {W : World} {g : Nat} {o : Obj} {a : Addr} {v : Value} (g2 : Nat) (cs : Array Value) (h1 : g ≠ g2) (h2 : a.block ≠ g2) (h : hpat W g = some o ∧ W.cell? a = some v) : hpat (W.setRow g2 cs) g = some o ∧ (W.setRow g2 cs).cell? a = some v :=
  ⟨(row_heap W g2 cs g h1).trans h.1, (cell_setRow_other W g2 cs a h2).trans h.2⟩
/-- a message is built of a head and a text -/
def bdM (x y : Value) : Sem Next := do pure (.value (← Instr.build 49 #[(0, x), (1, y)]))
theorem exec_bdM (ρ : Operand → Value) (dst : Option Tmp) (x y : Operand) (ty : TypeId) (pos : String) (after : Array Edge) (guard : Option (Nat × Bool)) :
    execOp ρ { dst, op := .build 49 #[(0, x), (1, y)], type := ty, pos, after, guard } = bdM (ρ x) (ρ y) := by simp [execOp, bdM]
theorem run_bdM (H : Hd) (S : Sli) (b : Bs) (w : World) : (bdM (.agg (hcs H S)) (.string (tb b))).run Tryz.prog w = .ok (.value (.agg (mca ⟨H, b⟩ S))) w := by
  have h : (Instr.build 49 #[(0, .agg (hcs H S)), (1, .string (tb b))]).run Tryz.prog w = .ok (.agg (mca ⟨H, b⟩ S)) w := by kernel_rfl
  simp only [bdM, Sem.run_bind, h, Result.andThen_ok, Sem.run_pure]
/-- a slice of one message -/
def bsM (x : Value) : Sem Next := do pure (.value (← Instr.buildSlice 44 1 #[(0, x)]))
theorem exec_bsM (ρ : Operand → Value) (dst : Option Tmp) (x : Operand) (ty : TypeId) (pos : String) (after : Array Edge) (guard : Option (Nat × Bool)) :
    execOp ρ { dst, op := .buildSlice 44 1 #[(0, x)], type := ty, pos, after, guard } = bsM (ρ x) := by simp [execOp, bsM]
theorem run_bsM (M : Mg) (S : Sli) (w : World) : (bsM (.agg (mca M S))).run Tryz.prog w = .ok (.value (.slice (some ⟨w.heap.size, 0, none⟩) 1 1)) (w.alloc (.cells (mca M S) 49)) := by
  have h : (Instr.buildSlice 44 1 #[(0, .agg (mca M S))]).run Tryz.prog w = .ok (.slice (some ⟨w.heap.size, 0, none⟩) 1 1) (w.alloc (.cells (mca M S) 49)) := by kernel_rfl
  simp only [bsM, Sem.run_bind, h, Result.andThen_ok, Sem.run_pure]
theorem hpat_drew (w : World) (g : Nat) : hpat w.drew g = hpat w g := rfl
theorem hpat_new (w : World) (o : Obj) : hpat (w.alloc o) w.heap.size = some o := heap_alloc_new w o
end Go.Proofs.YtdlihfbaepjliaaGreatDoor

/-
  The walk of the document's own one.
-/
namespace Go.Proofs.YtdlihfbaepjliaaGreatDoor
open Go.RowKit

/-- chunks, a count, a text and an error are handed back -/
def KEnds (q : Ck × Nat × Bs × Int) (w : World) (E : Ending) (w' : World) : Prop :=
  E = .returned (.tuple #[.agg (kcs q.1), .int .i64 (q.2.1 : Int), .string (tb q.2.2.1), .int .i64 q.2.2.2]) ∧ Below w.heap.size w w'
theorem kends_of {q : Ck × Nat × Bs × Int} {w : World} {E : Ending} {w' : World} (h : FeedEnds q w E w') : KEnds q w E w' := by
  obtain ⟨n, B, rfl, hn, hB, hb⟩ := h
  refine ⟨?_, hb⟩
  rw [tb_of hn, tb_of hB]
  rfl
theorem kfeed_c (c : Ck) (ch : UInt8) (w : World) : Calls Tryz.prog 52 #[.agg (kcs c), .string (tb [ch])] w (KEnds (feedC c [ch]) w) := by
  have := (rfeed_any c.s c.l (tb c.ln) c.m (tb [ch]) (by rw [tb_size]; simp) w).mono fun _ _ h => kends_of h
  rw [ckOf_tb, dl_tb] at this
  exact this
theorem feed_short (c : Ck) (ch : UInt8) : (feedC c [ch]).2.2.1.length ≤ 1 := by
  unfold feedC
  split
  · split
    · unfold feedA
      split
      · simp
      · split
        · simp
        · simp only [feedA, List.nil_append]
          unfold stepC
          split
          · simp
          · split
            · simp
            · split <;> simp
    · simp
  · simp
theorem rends_c (l : Bs) (hl : l.length ≤ 4611686018427387904) (w : World) : Calls Tryz.prog 46 #[.string (tb l)] w (fun e w' => e = .returned (.bool (ends4 l)) ∧ w = w') := by
  have := rends_any (tb l) (by rw [tb_size]; exact hl) w
  rw [dl_tb] at this
  exact this.mono fun _ _ h => ⟨h.1, h.2.symm⟩

set_option maxRecDepth 100000 in
set_option maxHeartbeats 4000000 in
theorem one_c (R : Rr) (S : Sli) (ch : UInt8) (w : World) (hF : Fs w S (mkF R.now.fs)) (hh : R.hd.length ≤ 4000) (hbb : R.b.length ≤ 4611686018427387000) : Calls Tryz.prog 31 #[.agg (rcs R S), .string (tb [ch])] w (REnds (oneR R ch) S.A (mkF R.now.fs) w) := by
  obtain ⟨R', hR⟩ : ∃ R', oneR R ch = R' := ⟨_, rfl⟩
  rw [hR]
  have HE : Hid (R' = if R.k = 0 then
    (if ends4 (R.hd ++ [ch]) = true then framedR { R with hd := R.hd ++ [ch] } else if 2004 ≤ R.hd.length + 1 then failR R 2 else { R with hd := R.hd ++ [ch] })
  else if R.k = 3 then
    (if (feedC R.ck [ch]).2.2.2 ≠ 0 then failR R (feedC R.ck [ch]).2.2.2 else { R with ck := (feedC R.ck [ch]).1, b := R.b ++ (feedC R.ck [ch]).2.2.1 })
  else if R.b.length = 4000 then failR R 2 else { R with b := R.b ++ [ch] }) := Lib.hid (by rw [← hR]; rfl)
  clear hR
  have h0 := D2.start w R S #[.bool false, .string ⟨#[]⟩, .string ⟨#[]⟩, .int .i64 0, .int .i64 0, .string ⟨#[]⟩, .int .i64 0, .int .i64 0, .string ⟨#[]⟩, .int .i64 0, .string ⟨#[]⟩, .string ⟨#[]⟩, .int .i64 0, .string ⟨#[]⟩, .int .i64 0, .slice none 0 0, .int .i64 0] rfl hF
  obtain ⟨X, hX⟩ : ∃ X, tb [ch] = X := ⟨_, rfl⟩
  have hxs : X.size = 1 := by rw [← hX, tb_size]; rfl
  have HX := Lib.hid hX
  rw [hX]
  clear hX hF
  go_enter Tryz.func31, Tryz.ntmps31
  go_upto_region 1 with fail
  obtain ⟨g, hg⟩ : ∃ g, w.heap.size = g := ⟨_, rfl⟩
  rw [hg] at h0 ⊢
  clear hg
  generalize (w.alloc (.cells (rcs R S) 32)).alloc (.cells #[.bool false, .string ⟨#[]⟩, .string ⟨#[]⟩, .int .i64 0, .int .i64 0, .string ⟨#[]⟩, .int .i64 0, .int .i64 0, .string ⟨#[]⟩, .int .i64 0, .string ⟨#[]⟩, .string ⟨#[]⟩, .int .i64 0, .string ⟨#[]⟩, .int .i64 0, .slice none 0 0, .int .i64 0] 32) = W0 at *
  have HL0 : Hid (Loc w S.A (mkF R.now.fs) S.A (mkF R.now.fs)) := Lib.hid (loc_same _ _ _)
  by_cases k0 : R.k = 0
  · rw [if_pos k0] at HE
    have c3 : W0.cell? ⟨g, 3, none⟩ = some (.int .i64 R.k) := h0.bv.c 3 rfl
    rw [k0] at c3
    have c2 : W0.cell? ⟨g, 2, none⟩ = some (.string (tb R.hd)) := h0.bv.c 2 rfl
    have d2 : W0.frozen? ⟨g, 2, none⟩ = false := h0.bv.f 2
    have kadd := fun W => run_string_add_sum (P := Tryz.prog) W (tb R.hd) X (by rw [tb_size, hxs]; omega)
    go_upto_region 7 with fail
    have e1 : W0.setCell ⟨g, 2, none⟩ (.string (tb R.hd ++ X)) = W0.setRow g (rcs { R with hd := R.hd ++ [ch] } S) := by rw [← HX.out, tb_app]; exact rset_hd h0.bv _
    rw [e1]
    have h1 := h0.row0 (R' := { R with hd := R.hd ++ [ch] }) rfl
    clear c3 c2 d2 kadd e1 h0
    generalize W0.setRow g (rcs { R with hd := R.hd ++ [ch] } S) = W1 at *
    have hL : (R.hd ++ [ch]).length = R.hd.length + 1 := by simp
    obtain ⟨L, hLe⟩ : ∃ L, R.hd ++ [ch] = L := ⟨_, rfl⟩
    rw [hLe] at h1 HE hL
    have HLs := Lib.hid hL
    clear hLe
    have c2 : W1.cell? ⟨g, 2, none⟩ = some (.string (tb L)) := h1.bv.c 2 rfl
    obtain ⟨R1, hR1⟩ : ∃ R1 : Rr, { R with hd := L } = R1 := ⟨_, rfl⟩
    have HN1 : Hid (R1.now = R.now) := Lib.hid (by rw [← hR1])
    have HH1 : Hid (R1.hd = L) := Lib.hid (by rw [← hR1])
    have HF1 : Hid (failR R1 2 = failR R 2) := Lib.hid (by rw [← hR1]; rfl)
    rw [hR1] at h1 HE
    clear hR1
    obtain ⟨be, hbe⟩ : ∃ b, ends4 L = b := ⟨_, rfl⟩
    have HEn := Lib.hid (rends_c L (by omega) W1)
    rw [hbe] at HEn HE
    have HBe := Lib.hid hbe
    clear hbe hL
    go_wp2_with fail
    refine HEn.out.mono ?_
    rintro E w1 ⟨rfl, rfl⟩
    clear HEn
    cases be with
    | true =>
      rw [if_pos rfl] at HE
      have h4 : 4 ≤ L.length := by
        have := HBe.out
        unfold ends4 at this
        rw [Bool.and_eq_true, decide_eq_true_eq] at this
        exact this.1
      have HFm : Hid (Calls Tryz.prog 50 #[.agg (rcs R1 S)] W1 (REnds (framedR R1) S.A (mkF R1.now.fs) W1)) := Lib.hid (framed_c R1 S W1 h1.fs (by rw [HH1.out]; exact h4) (by rw [HH1.out]; have := HLs.out; omega))
      rw [HN1.out] at HFm
      clear h4
      as_aux_lemma =>
        clear c2
        go_wp2_with (refine wpl_load rfl _ rfl g rfl (rcs R1 S) h1.bv rfl ?_)
        refine (HFm.out).mono ?_
        rintro E w9 ⟨S2, rfl, hF2, hL2, hb9⟩
        have h9 := h1.up hb9
        have HL2 := Lib.hid (loc_up hL2 (w := w) h1.hb.size)
        have HA2 := Lib.hid (h1.loc1 (by rw [HN1.out]; exact hL2) hb9.size)
        have hst := storeW (P := Tryz.prog) h9.br (rcs (framedR R1) S2) (by rw [h9.os]; rfl) (rcs_one _ _)
        have hz := rcs_size (framedR R1) S2
        clear hb9 hL2 h1
        go_wp2
        refine bodyPost_ret (res_one (i := 4) (g := g + 1) (cs := rcs (framedR R1) S2) Tryz.results31 rfl (box_row _ h9.br) rfl) rfl ?_
        rw [HE.out]
        exact h9.endsF hF2 HA2.out HL2.out
    | false =>
      rw [if_neg (by decide)] at HE
      have hsz : (tb L).size = R.hd.length + 1 := by rw [tb_size]; exact HLs.out
      by_cases hbig : 2004 ≤ R.hd.length + 1
      · rw [if_pos hbig] at HE
        have hbi : (2004 : Int) ≤ ((R.hd.length + 1 : Nat) : Int) := by omega
        have hbj : (2004 : Int) ≤ ((tb L).size : Int) := by rw [hsz]; omega
        clear hsz
        as_aux_lemma =>
          rw [← HF1.out] at HE
          go_wp2_with (refine wpl_load rfl _ rfl g rfl (rcs R1 S) h1.bv rfl ?_)
          refine (rfail_c R1 S 2 S.A (mkF R.now.fs) _).mono ?_
          rintro E w9 ⟨S2, rfl, hF2, hL2, hb9⟩
          have h9 := h1.up hb9
          have HL2 := Lib.hid (loc_up hL2 (w := w) h1.hb.size)
          have HA2 := Lib.hid (h1.loc1 (by rw [HN1.out]; exact hL2) hb9.size)
          have hst := storeW (P := Tryz.prog) h9.br (rcs (failR R1 2) S2) (by rw [h9.os]; rfl) (rcs_one _ _)
          have hz := rcs_size (failR R1 2) S2
          clear hb9 hL2 h1
          go_wp2
          refine bodyPost_ret (res_one (i := 4) (g := g + 1) (cs := rcs (failR R1 2) S2) Tryz.results31 rfl (box_row _ h9.br) rfl) rfl ?_
          rw [HE.out]
          exact h9.endsF hF2 HA2.out HL2.out
      · rw [if_neg hbig] at HE
        have hbj : ¬ (2004 : Int) ≤ ((tb L).size : Int) := by rw [hsz]; omega
        clear hsz
        as_aux_lemma =>
          go_upto_region 17 with fail
          rw [← HE.out] at h1
          have HN : Hid (R'.now = R.now) := Lib.hid (by rw [HE.out, HN1.out])
          apply wp_region_lit
          refine wpl_load rfl _ rfl g rfl (rcs R' S) h1.bv rfl ?_
          refine wpl_store rfl _ _ rfl (g + 1) (rcs R' S) rfl rfl _ h1.br rfl h1.os (rcs_one _ _) ?_
          apply wpList_nil
          go_wp2
          refine bodyPost_ret (res_one (i := 4) (g := g + 1) (cs := rcs R' S) Tryz.results31 rfl (box_row _ h1.br) rfl) rfl ?_
          exact h1.ends (by rw [HN.out]; exact HL0.out)
  · rw [if_neg k0] at HE
    have kb0 : (R.k == 0) = false := beq_eq_false_iff_ne.2 k0
    by_cases k3 : R.k = 3
    · rw [if_pos k3] at HE
      have c3 : W0.cell? ⟨g, 3, none⟩ = some (.int .i64 R.k) := h0.bv.c 3 rfl
      rw [k3] at c3
      clear kb0 k3 k0
      have HFd : Hid (∀ W, Calls Tryz.prog 52 #[.agg (kcs R.ck), .string X] W (KEnds (feedC R.ck [ch]) W)) := Lib.hid (fun W => by rw [← HX.out]; exact kfeed_c R.ck ch W)
      have hsh := feed_short R.ck ch
      obtain ⟨fq, hfq⟩ : ∃ f, feedC R.ck [ch] = f := ⟨_, rfl⟩
      rw [hfq] at HE HFd hsh
      clear hfq
      obtain ⟨c1, nn, bq, er⟩ := fq
      simp only at HE HFd hsh
      go_wp2_with (refine wplK_load rfl _ rfl g rfl R S h0.bv ?_)
      refine (HFd.out _).mono ?_
      rintro E w3 ⟨rfl, hb3⟩
      clear HFd c3
      have hst := storeW (P := Tryz.prog) (Box.new w3 26 #[.int .i64 0, .int .i64 0, .string ⟨#[]⟩, .int .i64 0]) (kcs c1) rfl (kcs_one c1)
      have hz : (kcs c1).size = 4 := rfl
      go_upto_region 13 with fail
      have hB : Below w3.heap.size w3 ((w3.alloc (.cells #[.int .i64 0, .int .i64 0, .string ⟨#[]⟩, .int .i64 0] 26)).setRow w3.heap.size (kcs c1)) := below_row (ba1 w3 _) (Nat.le_refl _) _
      have h1 := (h0.up hb3).up hB
      have bk := box_row (kcs c1) (Box.new w3 26 #[.int .i64 0, .int .i64 0, .string ⟨#[]⟩, .int .i64 0])
      have HG3 : Hid (g + 1 < w3.heap.size) := Lib.hid (Nat.lt_of_lt_of_le h0.br.lt hb3.size)
      clear hst hz hB hb3 h0
      obtain ⟨gk, hgk⟩ : ∃ k, w3.heap.size = k := ⟨_, rfl⟩
      rw [hgk] at h1 bk HG3 ⊢
      clear hgk
      generalize (w3.alloc (.cells #[.int .i64 0, .int .i64 0, .string ⟨#[]⟩, .int .i64 0] 26)).setRow gk (kcs c1) = W1 at *
      by_cases her : er = 0
      case neg =>
        rw [if_pos her] at HE
        have t0 : (er != 0) = true := bne_iff_ne.2 her
        clear her bk hsh
        as_aux_lemma =>
          skip
          go_wp2_with (refine wpl_load rfl _ rfl g rfl (rcs R S) h1.bv rfl ?_)
          refine (rfail_c R S er S.A (mkF R.now.fs) _).mono ?_
          rintro E w9 ⟨S2, rfl, hF2, hL2, hb9⟩
          have h9 := h1.up hb9
          have HL2 := Lib.hid (loc_up hL2 (w := w) h1.hb.size)
          have HA2 := Lib.hid (h1.loc1 hL2 hb9.size)
          have hst := storeW (P := Tryz.prog) h9.br (rcs (failR R er) S2) (by rw [h9.os]; rfl) (rcs_one _ _)
          have hz := rcs_size (failR R er) S2
          clear hb9 hL2 h1
          go_wp2
          refine bodyPost_ret (res_one (i := 4) (g := g + 1) (cs := rcs (failR R er) S2) Tryz.results31 rfl (box_row _ h9.br) rfl) rfl ?_
          rw [HE.out]
          exact h9.endsF hF2 HA2.out HL2.out
      case pos =>
        subst her
        rw [if_neg (by simp)] at HE
        as_aux_lemma =>
          have hst := storeCk h1.bv c1
          have hz : (kcs c1).size = 4 := rfl
          go_upto_region 16 with (refine wplB_load rfl _ rfl gk rfl c1 bk ?_)
          have h2 := h1.row0 (R' := { R with ck := c1 }) rfl
          obtain ⟨R1, hR1⟩ : ∃ R1 : Rr, { R with ck := c1 } = R1 := ⟨_, rfl⟩
          have HB1 : Hid (R1.b = R.b) := Lib.hid (by rw [← hR1])
          have HE1 : Hid (R' = { R1 with b := R1.b ++ bq }) := Lib.hid (by rw [HE.out, ← hR1])
          have HN1 : Hid (R1.now = R.now) := Lib.hid (by rw [← hR1])
          rw [hR1] at h2
          rw [show W1.setRow g (rcs { R with ck := c1 } S) = W1.setRow g (rcs R1 S) by rw [hR1]]
          clear hst hz h1 bk HE hR1
          generalize W1.setRow g (rcs R1 S) = W2 at *
          have c5 : W2.cell? ⟨g, 5, none⟩ = some (.string (tb R1.b)) := h2.bv.c 5 rfl
          have d5 : W2.frozen? ⟨g, 5, none⟩ = false := h2.bv.f 5
          have kadd := fun W => run_string_add_sum (P := Tryz.prog) W (tb R1.b) (tb bq) (by rw [tb_size, tb_size, HB1.out]; omega)
          go_upto_region 17 with fail
          have e1 : W2.setCell ⟨g, 5, none⟩ (.string (tb R1.b ++ tb bq)) = W2.setRow g (rcs { R1 with b := R1.b ++ bq } S) := by rw [tb_app]; exact rset_b h2.bv _
          rw [e1]
          have h3 := h2.row0 (R' := { R1 with b := R1.b ++ bq }) rfl
          rw [← HE1.out] at h3 ⊢
          clear c5 d5 kadd e1 h2
          generalize W2.setRow g (rcs R' S) = W3 at *
          have HN : Hid (R'.now = R.now) := Lib.hid (by rw [HE1.out, HN1.out])
          apply wp_region_lit
          refine wpl_load rfl _ rfl g rfl (rcs R' S) h3.bv rfl ?_
          refine wpl_store rfl _ _ rfl (g + 1) (rcs R' S) rfl rfl _ h3.br rfl h3.os (rcs_one _ _) ?_
          apply wpList_nil
          go_wp2
          refine bodyPost_ret (res_one (i := 4) (g := g + 1) (cs := rcs R' S) Tryz.results31 rfl (box_row _ h3.br) rfl) rfl ?_
          exact h3.ends (by rw [HN.out]; exact HL0.out)
    · rw [if_neg k3] at HE
      have kb3 : (R.k == 3) = false := beq_eq_false_iff_ne.2 k3
      have c3 : W0.cell? ⟨g, 3, none⟩ = some (.int .i64 R.k) := h0.bv.c 3 rfl
      have c5 : W0.cell? ⟨g, 5, none⟩ = some (.string (tb R.b)) := h0.bv.c 5 rfl
      have d5 : W0.frozen? ⟨g, 5, none⟩ = false := h0.bv.f 5
      have hsz : (tb R.b).size = R.b.length := tb_size _
      by_cases b4 : R.b.length = 4000
      · rw [if_pos b4] at HE
        have hb4 : (((tb R.b).size : Int) == 4000) = true := by rw [hsz, b4]; rfl
        clear hsz b4 k0 k3
        as_aux_lemma =>
          skip
          go_wp2_with (refine wpl_load rfl _ rfl g rfl (rcs R S) h0.bv rfl ?_)
          refine (rfail_c R S 2 S.A (mkF R.now.fs) _).mono ?_
          rintro E w9 ⟨S2, rfl, hF2, hL2, hb9⟩
          have h9 := h0.up hb9
          have HL2 := Lib.hid (loc_up hL2 (w := w) h0.hb.size)
          have HA2 := Lib.hid (h0.loc1 hL2 hb9.size)
          have hst := storeW (P := Tryz.prog) h9.br (rcs (failR R 2) S2) (by rw [h9.os]; rfl) (rcs_one _ _)
          have hz := rcs_size (failR R 2) S2
          clear hb9 hL2 h0
          go_wp2
          refine bodyPost_ret (res_one (i := 4) (g := g + 1) (cs := rcs (failR R 2) S2) Tryz.results31 rfl (box_row _ h9.br) rfl) rfl ?_
          rw [HE.out]
          exact h9.endsF hF2 HA2.out HL2.out
      · rw [if_neg b4] at HE
        have hb4 : (((tb R.b).size : Int) == 4000) = false := by rw [hsz]; exact beq_eq_false_iff_ne.2 (by omega)
        have kadd := fun W => run_string_add_sum (P := Tryz.prog) W (tb R.b) X (by rw [tb_size, hxs]; omega)
        clear hsz b4 k0 k3
        as_aux_lemma =>
          go_upto_region 17 with fail
          have e1 : W0.setCell ⟨g, 5, none⟩ (.string (tb R.b ++ X)) = W0.setRow g (rcs { R with b := R.b ++ [ch] } S) := by rw [← HX.out, tb_app]; exact rset_b h0.bv _
          rw [e1]
          have h1 := h0.row0 (R' := { R with b := R.b ++ [ch] }) rfl
          clear c3 c5 d5 kadd e1 h0
          generalize W0.setRow g (rcs { R with b := R.b ++ [ch] } S) = W1 at *
          rw [← HE.out] at h1
          have HN : Hid (R'.now = R.now) := Lib.hid (by rw [HE.out])
          apply wp_region_lit
          refine wpl_load rfl _ rfl g rfl (rcs R' S) h1.bv rfl ?_
          refine wpl_store rfl _ _ rfl (g + 1) (rcs R' S) rfl rfl _ h1.br rfl h1.os (rcs_one _ _) ?_
          apply wpList_nil
          go_wp2
          refine bodyPost_ret (res_one (i := 4) (g := g + 1) (cs := rcs R' S) Tryz.results31 rfl (box_row _ h1.br) rfl) rfl ?_
          exact h1.ends (by rw [HN.out]; exact HL0.out)
end Go.Proofs.YtdlihfbaepjliaaGreatDoor

/-
  The walk of the document's own Feed.
-/
namespace Go.Proofs.YtdlihfbaepjliaaGreatDoor
open Go.RowKit
attribute [local go_sem ↓] exec_ldR exec_ldH exec_ldK exec_ldM exec_stR exec_stH exec_stK exec_stM exec_bdM exec_bsM
attribute [local go_sem] run_bdM run_bsM run_ldR run_ldH run_ldK run_ldM run_stR run_stH run_stK run_stM ldO_at stO_at rcs_size hcs_size kcs_size mca_size rcs_one hcs_one kcs_one mca_one rcs_oneN hcs_oneN kcs_oneN mca_oneN rcs_now rcs_ck mca_head hpat_drew hpat_new

theorem rright9_c (R : Rr) (S : Sli) (w : World) (hF : Fs w S (mkF R.now.fs)) (hS : SmR R) : Calls Tryz.prog 29 #[.agg (rcs R S)] w (BoolEnds (decide (okR R)) w) := by
  have := rright9_any R.a (tb R.q) (tb R.hd) R.k R.z (tb R.b) R.ck.s R.ck.l (tb R.ck.ln) R.ck.m (tb R.now.m) (tb R.now.t) R.now.st (tb R.now.r) R.now.mi S.A S.n S.c R.e (mkF R.now.fs) w hF (by rw [rr_tb]; exact hS)
  rw [rr_tb] at this
  exact this
/-- bounds that hold while bytes are read -/
def InvR (R : Rr) (N : Nat) : Prop := R.hd.length ≤ 2003 ∧ R.b.length ≤ N
theorem invR_ok {R : Rr} (h : okR R) : InvR R 4000 := by
  unfold okR at h
  unfold InvR
  split at h
  · obtain ⟨h1, h2, _⟩ := h
    rw [h1, h2]
    exact ⟨by simp, by simp⟩
  · split at h
    · obtain ⟨_, h2, _, _, h5, _⟩ := h
      rw [h2]
      exact ⟨h5, by simp⟩
    · obtain ⟨h1, _, h3, _⟩ := h
      rw [h1]
      exact ⟨by simp, h3⟩
theorem invR_one {R : Rr} {N : Nat} (h : InvR R N) (c : UInt8) : InvR (oneR R c) (N + 1) := by
  obtain ⟨h1, h2⟩ := h
  have hf : ∀ (r : Rr) e, InvR (failR r e) (N + 1) := fun r e => ⟨by simp [failR], by simp [failR]⟩
  unfold oneR
  split
  · split
    · unfold framedR
      split
      · exact hf _ _
      · split
        · exact hf _ _
        · exact ⟨by simp, by simp only; omega⟩
    · split
      · exact hf _ _
      · exact ⟨by simp only [List.length_append, List.length_cons, List.length_nil]; omega, by simp only; omega⟩
  · split
    · split
      · exact hf _ _
      · have := feed_short R.ck c
        exact ⟨h1, by simp only [List.length_append]; omega⟩
    · split
      · exact hf _ _
      · exact ⟨h1, by simp only [List.length_append, List.length_cons, List.length_nil]; omega⟩
theorem invR_new (a : Bool) (q : Bs) (N : Nat) : InvR (newR a q) N := ⟨by simp [newR], by simp [newR]⟩
theorem feedM_take {R R1 : Rr} {out : List Mg} {s : Bs} {k : Nat} {c : UInt8} (h : feedM R [] (s.take k) = (R1, out)) (hk : s[k]? = some c) (he : R1.e = 0) : feedM R [] (s.take (k + 1)) = stepR R1 out c := by
  have e : s.take (k + 1) = s.take k ++ [c] := by
    rw [List.take_add_one, hk]
    rfl
  rw [e, feedM_app, h, feedM, if_neg (by simp [he])]
  rfl
theorem feedM_end {R R1 : Rr} {out : List Mg} {s : Bs} {k : Nat} (h : feedM R [] (s.take k) = (R1, out)) (he : R1.e ≠ 0 ∨ s.length ≤ k) : feedM R [] s = (R1, out) := by
  rcases he with he | he
  · rw [← List.take_append_drop k s, feedM_app, h]
    exact feedM_stop he out _
  · rw [List.take_of_length_le he] at h
    exact h
/-- three results, the first a reader -/
theorem res_3 {fn : Func} {tmps : Array Value} {w : World} {i j l g : Nat} {cs : Array Value} (hf : fn.results = #[.cell i 32, .tmp j, .tmp l]) (ht : tmps[i]?.getD undef = .pointer (some ⟨g, 0, none⟩)) (hb : Box w g 32 cs) (hs : cs.size = 17) {u v : Value} (hu : tmps[j]?.getD undef = u) (hv : tmps[l]?.getD undef = v) : (results fn tmps).run Tryz.prog w = .ok (.tuple #[.agg cs, u, v]) w := by
  have hl := loadR hb hs
  unfold results
  rw [hf]
  simp [ht, asAddr, hl, hu, hv]
theorem infoMs : (Tryz.prog.info? 49).map (fun i => (i.zero, i.size, i.bytes)) = some (some (.agg #[.string ⟨#[]⟩, .string ⟨#[]⟩, .int .i64 0, .string ⟨#[]⟩, .int .i64 0, .slice none 0 0, .string ⟨#[]⟩]), 7, 104) := infoMz
/-- the state of the loop -/
structure FeedI (w wr : World) (g : Nat) (old : Array Value) (R R1 : Rr) (S S1 O : Sli) (ms : List MS7) (s : Bs) (k : Nat) : Prop where
  d : D2 w wr g R1 S1 old
  mo : Mo wr w.heap.size (fun k => k = g ∨ k = g + 1) O ms
  ap : Apt O S1 (mkF R1.now.fs)
  lo : Loc w S.A (mkF R.now.fs) S1.A (mkF R1.now.fs)
  eq : feedM R [] (s.take k) = (R1, ms.map (·.1))
  iv : InvR R1 (4000 + k)
  ln : ms.length ≤ k
theorem D2.loc0 {w W : World} {g : Nat} {R : Rr} {S : Sli} {old : Array Value} (h : D2 w W g R S old) {A : Option Addr} {fs : List Fd} (hL : Loc W S.A (mkF R.now.fs) A fs) : Away g A fs := fun hne ad hA => by
  have := h.bv.lt
  rcases hL ad hA with h1 | ⟨h1, h2⟩
  · omega
  · subst h2
    exact h.a0 hne ad h1
theorem FeedI.apl {w wr : World} {g : Nat} {old : Array Value} {R R1 : Rr} {S S1 O : Sli} {ms : List MS7} {s : Bs} {k : Nat} (h : FeedI w wr g old R R1 S S1 O ms s k) {A : Sli} {fs : List Fd} (hL : Loc wr S1.A (mkF R1.now.fs) A.A fs) : Apt O A fs := fun hne ad o hA hO => by
  rcases hL ad hA with h1 | ⟨h1, h2⟩
  · have hr := h.mo.row.2
    rcases hr with ⟨e, _⟩ | ⟨gb, cap, cur, e, _, hgb, _⟩
    · simp only [Value.slice.injEq] at e
      rw [e.1] at hO
      cases hO
    · simp only [Value.slice.injEq] at e
      rw [e.1] at hO
      obtain rfl := Option.some.inj hO
      have := (Array.getElem?_eq_some_iff.1 hgb).1
      simp only
      omega
  · subst h2
    exact h.ap hne ad o h1 hO
theorem FeedI.lol {w wr : World} {g : Nat} {old : Array Value} {R R1 : Rr} {S S1 O : Sli} {ms : List MS7} {s : Bs} {k : Nat} (h : FeedI w wr g old R R1 S S1 O ms s k) {A : Option Addr} {fs : List Fd} (hL : Loc wr S1.A (mkF R1.now.fs) A fs) : Loc w S.A (mkF R.now.fs) A fs :=
  h.lo.on h.d.hb.size hL
set_option maxRecDepth 100000 in
set_option maxHeartbeats 4000000 in
theorem rfeed9_c (R : Rr) (S : Sli) (s : Bs) (w : World) (hF : Fs w S (mkF R.now.fs)) (hS : SmR R) (hs : s.length ≤ 1000000) : Calls Tryz.prog 16 #[.agg (rcs R S), .string (tb s)] w (Feed9Ends (feedR R s) S.A (mkF R.now.fs) w) := by
  obtain ⟨Z, hZ⟩ : ∃ Z, feedR R s = Z := ⟨_, rfl⟩
  rw [hZ]
  have HZ : Hid (Z = if okR R then ((feedM R [] s).1, (feedM R [] s).2, (feedM R [] s).1.e) else (R, [], 1)) := Lib.hid (by rw [← hZ]; rfl)
  clear hZ
  have h0 := D2.start w R S #[.bool false, .string ⟨#[]⟩, .string ⟨#[]⟩, .int .i64 0, .int .i64 0, .string ⟨#[]⟩, .int .i64 0, .int .i64 0, .string ⟨#[]⟩, .int .i64 0, .string ⟨#[]⟩, .string ⟨#[]⟩, .int .i64 0, .string ⟨#[]⟩, .int .i64 0, .slice none 0 0, .int .i64 0] rfl hF
  obtain ⟨L, hL⟩ : ∃ L, tb s = L := ⟨_, rfl⟩
  have hLs : L.size = s.length := by rw [← hL, tb_size]
  have HL := Lib.hid hL
  have HLs := Lib.hid hLs
  rw [hL]
  clear hL hF hLs
  go_enter Tryz.func16, Tryz.ntmps16
  go_upto_region 1 with fail
  obtain ⟨g, hg⟩ : ∃ g, w.heap.size = g := ⟨_, rfl⟩
  rw [hg] at h0 ⊢
  have HGW := Lib.hid hg
  clear hg
  generalize (w.alloc (.cells (rcs R S) 32)).alloc (.cells #[.bool false, .string ⟨#[]⟩, .string ⟨#[]⟩, .int .i64 0, .int .i64 0, .string ⟨#[]⟩, .int .i64 0, .int .i64 0, .string ⟨#[]⟩, .int .i64 0, .string ⟨#[]⟩, .string ⟨#[]⟩, .int .i64 0, .string ⟨#[]⟩, .int .i64 0, .slice none 0 0, .int .i64 0] 32) = W0 at *
  have HRt := Lib.hid (rright9_c R S W0 h0.fs hS)
  clear hS
  go_wp2_with (refine wpl_load rfl _ rfl g rfl (rcs R S) h0.bv rfl ?_)
  refine HRt.out.mono ?_
  rintro E w1 ⟨rfl, hb1⟩
  have h1 := h0.up hb1
  clear HRt h0 hb1
  by_cases hok : okR R
  case neg =>
    have HV : Hid (Z = (R, [], 1)) := Lib.hid (by rw [HZ.out, if_neg hok])
    rw [decide_eq_false hok]
    clear hok HZ
    go_upto_region 2 with fail
    apply wp_region_lit
    refine wpl_load rfl _ rfl g rfl (rcs R S) h1.bv rfl ?_
    refine wpl_store rfl _ _ rfl (g + 1) (rcs R S) rfl rfl _ h1.br rfl h1.os (rcs_one _ _) ?_
    go_wp2
    refine bodyPost_ret (res_3 (i := 4) (j := 5) (l := 6) (g := g + 1) (cs := rcs R S) Tryz.results16 rfl (box_row _ h1.br) rfl rfl rfl) rfl ?_
    rw [HV.out]
    exact ⟨S, ⟨none, 0, 0⟩, [], rfl, Fs.row h1.fs h1.a1 _, loc_same _ _ _, (Mo.nil _ 0 (fun _ => True)).ms, rfl, below_row h1.hb (by have := h1.g0; omega) _⟩
  case pos =>
    have HV : Hid (∀ R1 ms, feedM R [] s = (R1, ms) → Z = (R1, ms, R1.e)) := Lib.hid (fun R1 ms h => by rw [HZ.out, if_pos hok, h])
    have hiv := invR_ok hok
    have hI : FeedI w w1 g #[.bool false, .string ⟨#[]⟩, .string ⟨#[]⟩, .int .i64 0, .int .i64 0, .string ⟨#[]⟩, .int .i64 0, .int .i64 0, .string ⟨#[]⟩, .int .i64 0, .string ⟨#[]⟩, .string ⟨#[]⟩, .int .i64 0, .string ⟨#[]⟩, .int .i64 0, .slice none 0 0, .int .i64 0] R R S S ⟨none, 0, 0⟩ [] s 0 := ⟨h1, Mo.nil _ _ _, (fun _ _ _ _ h => by cases h), loc_same _ _ _, rfl, hiv, Nat.le_refl _⟩
    rw [decide_eq_true hok]
    clear hok HZ hiv h1
    go_wp2_with fail
    go_loopw [7, 8] (fun m i wr => ∃ (k : Nat) (R1 : Rr) (S1 O : Sli) (ms : List MS7), k ≤ s.length ∧ i = .int .i64 (k : Int) ∧ m = .slice O.A O.n O.c ∧ FeedI w wr g #[.bool false, .string ⟨#[]⟩, .string ⟨#[]⟩, .int .i64 0, .int .i64 0, .string ⟨#[]⟩, .int .i64 0, .int .i64 0, .string ⟨#[]⟩, .int .i64 0, .string ⟨#[]⟩, .string ⟨#[]⟩, .int .i64 0, .string ⟨#[]⟩, .int .i64 0, .slice none 0 0, .int .i64 0] R R1 S S1 O ms s k) (fun _ i _ => s.length - (intOf i).toNat)
    case atStart => exact ⟨0, R, S, ⟨none, 0, 0⟩, [], Nat.zero_le _, rfl, rfl, hI⟩
    case round =>
      obtain ⟨k, R1, S1, O, ms, hk, rfl, rfl, hi⟩ := hrel
      have ce : wr.cell? ⟨g, 16, none⟩ = some (.int .i64 R1.e) := hi.d.bv.c 16 rfl
      by_cases hgo : k < s.length ∧ R1.e = 0
      case neg =>
        have HE : Hid (feedM R [] s = (R1, ms.map (·.1))) := Lib.hid (feedM_end hi.eq (by
          by_cases he : R1.e = 0
          · exact .inr (by omega)
          · exact .inl he))
        have HV2 : Hid (Z = (R1, ms.map (·.1), R1.e)) := Lib.hid (HV.out _ _ HE.out)
        clear HE HV
        by_cases hlt : k < s.length
        · have he : R1.e ≠ 0 := fun h => hgo ⟨hlt, h⟩
          have heb : (R1.e == 0) = false := beq_eq_false_iff_ne.2 he
          have hn : k < L.size := by rw [HLs.out]; exact hlt
          have tlt : (k : Int) < (L.size : Int) := by omega
          clear hgo he
          go_upto_region 11 with fail
          have hbg : hpat wr g = some (.cells (rcs R1 S1) 32 (0, 0)) := hi.d.bv
          have hbr : hpat wr (g + 1) = some (.cells #[.bool false, .string ⟨#[]⟩, .string ⟨#[]⟩, .int .i64 0, .int .i64 0, .string ⟨#[]⟩, .int .i64 0, .int .i64 0, .string ⟨#[]⟩, .int .i64 0, .string ⟨#[]⟩, .string ⟨#[]⟩, .int .i64 0, .string ⟨#[]⟩, .int .i64 0, .slice none 0 0, .int .i64 0] 32 (0, 0)) := hi.d.br
          go_region_held3 (fun W' => hpat W' g = some (.cells (rcs R1 S1) 32 (0, 0)) ∧ W'.cell? ⟨g, 16, none⟩ = some (.int .i64 R1.e)) (first | exact ⟨hbg, ce⟩ | exact heldG (g + 1) _ (by omega) (by show g ≠ g + 1; omega) (by assumption) | fail) (fail)
          have h2 := hi.d.up ((Below.refl wr.heap.size wr).drew)
          have hM := (hi.mo.up ((Below.refl wr.heap.size wr).drew)).row_set h2.br (by decide) (.inr rfl) (rcs R1 S1)
          have HM := Lib.hid hM.ms
          have HF := Lib.hid (Fs.row h2.fs h2.a1 (rcs R1 S1))
          have HB := Lib.hid (below_row h2.hb (g := g + 1) (by have := h2.g0; omega) (rcs R1 S1))
          have HLo := Lib.hid hi.lo
          have HBR := Lib.hid (box_row (rcs R1 S1) h2.br)
          clear hbg hbr ce hM h2 hi
          go_wp2
          refine bodyPost_ret (res_3 (i := 4) (j := 5) (l := 6) (g := g + 1) (cs := rcs R1 S1) Tryz.results16 rfl HBR.out rfl rfl rfl) rfl ?_
          rw [HV2.out]
          exact ⟨S1, O, ms, rfl, HF.out, HLo.out, HM.out, rfl, HB.out⟩
        · have hn : ¬ k < L.size := by rw [HLs.out]; exact hlt
          have tlt : ¬ (k : Int) < (L.size : Int) := by omega
          clear hgo
          go_upto_region 11 with fail
          have hbg : hpat wr g = some (.cells (rcs R1 S1) 32 (0, 0)) := hi.d.bv
          have hbr : hpat wr (g + 1) = some (.cells #[.bool false, .string ⟨#[]⟩, .string ⟨#[]⟩, .int .i64 0, .int .i64 0, .string ⟨#[]⟩, .int .i64 0, .int .i64 0, .string ⟨#[]⟩, .int .i64 0, .string ⟨#[]⟩, .string ⟨#[]⟩, .int .i64 0, .string ⟨#[]⟩, .int .i64 0, .slice none 0 0, .int .i64 0] 32 (0, 0)) := hi.d.br
          go_region_held3 (fun W' => hpat W' g = some (.cells (rcs R1 S1) 32 (0, 0)) ∧ W'.cell? ⟨g, 16, none⟩ = some (.int .i64 R1.e)) (first | exact ⟨hbg, ce⟩ | exact heldG (g + 1) _ (by omega) (by show g ≠ g + 1; omega) (by assumption) | fail) (fail)
          have h2 := hi.d.up ((Below.refl wr.heap.size wr).drew)
          have hM := (hi.mo.up ((Below.refl wr.heap.size wr).drew)).row_set h2.br (by decide) (.inr rfl) (rcs R1 S1)
          have HM := Lib.hid hM.ms
          have HF := Lib.hid (Fs.row h2.fs h2.a1 (rcs R1 S1))
          have HB := Lib.hid (below_row h2.hb (g := g + 1) (by have := h2.g0; omega) (rcs R1 S1))
          have HLo := Lib.hid hi.lo
          have HBR := Lib.hid (box_row (rcs R1 S1) h2.br)
          clear hbg hbr ce hM h2 hi
          go_wp2
          refine bodyPost_ret (res_3 (i := 4) (j := 5) (l := 6) (g := g + 1) (cs := rcs R1 S1) Tryz.results16 rfl HBR.out rfl rfl rfl) rfl ?_
          rw [HV2.out]
          exact ⟨S1, O, ms, rfl, HF.out, HLo.out, HM.out, rfl, HB.out⟩
      case pos =>
        obtain ⟨hlt, he⟩ := hgo
        obtain ⟨ch, hch⟩ : ∃ ch, s[k]? = some ch := ⟨_, List.getElem?_eq_getElem hlt⟩
        have HEq : Hid (feedM R [] (s.take (k + 1)) = stepR R1 (ms.map (·.1)) ch) := Lib.hid (feedM_take hi.eq hch he)
        have HX : Hid (L.extract k (k + 1) = tb [ch]) := Lib.hid (by
          rw [← HL.out, tb_ext, List.take_add_one, hch]
          congr 1
          rw [List.drop_append_of_le_length (by rw [List.length_take]; omega), List.drop_eq_nil_of_le (by rw [List.length_take]; omega)]
          rfl)
        obtain ⟨R2, hR2⟩ : ∃ R2, oneR R1 ch = R2 := ⟨_, rfl⟩
        have HI2 : Hid (InvR R2 (4000 + k + 1)) := Lib.hid (by rw [← hR2]; exact invR_one hi.iv ch)
        have HOn : Hid (∀ W, Fs W S1 (mkF R1.now.fs) → Calls Tryz.prog 31 #[.agg (rcs R1 S1), .string (L.extract k (k + 1))] W (REnds R2 S1.A (mkF R1.now.fs) W)) := Lib.hid (fun W hW => by
          rw [HX.out, ← hR2]
          exact one_c R1 S1 ch W hW (by have := hi.iv.1; omega) (by have := hi.iv.2; omega))
        have HSt : Hid (stepR R1 (ms.map (·.1)) ch = if R2.e = 0 ∧ wholeR R2 = true then (newR R2.a R2.q, ms.map (·.1) ++ [⟨R2.now, R2.b⟩]) else (R2, ms.map (·.1))) := Lib.hid (by rw [← hR2]; rfl)
        clear hR2 hch
        rw [he] at ce
        have hn : k < L.size := by rw [HLs.out]; exact hlt
        have tlt : (k : Int) < (L.size : Int) := by omega
        have tle : ((k : Int) + 1) ≤ (L.size : Int) := by omega
        have tw : IntKind.i64.wrap ((k : Int) + 1) = (k : Int) + 1 := IntWalk.i64_in _ (by omega)
        have tn : ((k : Int) + 1).toNat = k + 1 := by omega
        have t0 : (0 : Int) ≤ (k : Int) := by omega
        have t1 : (0 : Int) ≤ (k : Int) + 1 := by omega
        have t2 : (k : Int) ≤ (k : Int) + 1 := by omega
        clear HV
        go_upto_region 7 with fail
        have hbg : hpat wr g = some (.cells (rcs R1 S1) 32 (0, 0)) := hi.d.bv
        have hfs := hi.d.fs
        go_region_law (first
          | (go_simp; go_at_call 31; refine (HOn.out _ (hfs.up ((Below.refl wr.heap.size wr).drew))).mono ?_; rintro E w2 ⟨S2, rfl, hF2, hL2, hb2⟩; have hbg2 : hpat w2 g = some (.cells (rcs R1 S1) 32 (0, 0)) := hi.d.bv.up (bon ((Below.refl wr.heap.size wr).drew) hb2))
          | fail)
        all_goals
          have hd2 := bon ((Below.refl wr.heap.size wr).drew) hb2
          have h2 := (hi.d.up hd2).row (R' := R2) (S' := S2) hF2 (hi.d.loc0 hL2) (hi.d.loc1 hL2 hd2.size)
          have hM2 := (hi.mo.up hd2).row_set (hi.d.bv.up hd2) (by decide) (.inl rfl) (rcs R2 S2)
          have hA2 : Apt O S2 (mkF R2.now.fs) := hi.apl hL2
          have hL9 : Loc w S.A (mkF R.now.fs) S2.A (mkF R2.now.fs) := hi.lol hL2
          have HLN := Lib.hid hi.ln
          clear hbg hbg2 hfs tw tn t0 t1 t2 tle tlt hn ce hi hF2 hL2 hb2 hd2 HOn HX
          generalize w2.setRow g (rcs R2 S2) = W2 at *
          have ce : W2.cell? ⟨g, 16, none⟩ = some (.int .i64 R2.e) := h2.bv.c 16 rfl
          have hbg : hpat W2 g = some (.cells (rcs R2 S2) 32 (0, 0)) := h2.bv
          have tw : IntKind.i64.wrap ((k : Int) + 1) = (k : Int) + 1 := IntWalk.i64_in _ (by omega)
          by_cases e2 : R2.e = 0
          case neg =>
            have heb : (R2.e == 0) = false := beq_eq_false_iff_ne.2 e2
            have HS2 : Hid (stepR R1 (ms.map (·.1)) ch = (R2, ms.map (·.1))) := Lib.hid (by rw [HSt.out, if_neg (fun h => e2 h.1)])
            clear e2 HSt
            go_wp2_with fail
            go_roundw
            case rel => exact ⟨k + 1, R2, S2, O, ms, by omega, by go_num, rfl, ⟨h2, hM2, hA2, hL9, HEq.out.trans HS2.out, HI2.out, by have := HLN.out; omega⟩⟩
            case measure => simp [intOf]; omega
          case pos =>
            rw [e2] at ce
            go_wp2_with fail
            refine (rwhole_c R2 S2 _).mono ?_
            rintro E w3 ⟨rfl, hb3⟩
            have h3 := h2.up hb3
            have hM3 := hM2.up hb3
            clear hbg ce h2 hM2 hb3
            cases hwh : wholeR R2 with
            | false =>
              have HS2 : Hid (stepR R1 (ms.map (·.1)) ch = (R2, ms.map (·.1))) := Lib.hid (by rw [HSt.out, hwh, if_neg (fun h => by cases h.2)])
              clear e2 HSt hwh
              go_wp2_with fail
              go_roundw
              case rel => exact ⟨k + 1, R2, S2, O, ms, by omega, by go_num, rfl, ⟨h3, hM3, hA2, hL9, HEq.out.trans HS2.out, HI2.out, by have := HLN.out; omega⟩⟩
              case measure => simp [intOf]; omega
            | true =>
              have HS2 : Hid (stepR R1 (ms.map (·.1)) ch = (newR R2.a R2.q, ms.map (·.1) ++ [⟨R2.now, R2.b⟩])) := Lib.hid (by rw [HSt.out, if_pos ⟨e2, hwh⟩])
              clear e2 HSt hwh
              have hbg : hpat w3 g = some (.cells (rcs R2 S2) 32 (0, 0)) := h3.bv
              have c5 : w3.cell? ⟨g, 5, none⟩ = some (.string (tb R2.b)) := h3.bv.c 5 rfl
              obtain ⟨iM, hi, hz0, hz1, hz2⟩ := info_parts infoMz
              have hba := ba1 w3 (.cells (mca ⟨R2.now, R2.b⟩ S2) 49)
              have h4 := h3.up hba
              have hM4 := hM3.up hba
              have HSrc : Hid (Src (w3.alloc (.cells (mca ⟨R2.now, R2.b⟩ S2) 49)) 7 (some ⟨w3.heap.size, 0, none⟩) 1 1 (mcs (⟨R2.now, R2.b⟩, S2))) := Lib.hid (by
                have := src_one w3 49 (mcs (⟨R2.now, R2.b⟩, S2)) 1 7 rfl
                simpa [mcs] using this)
              have HOn2 : Hid (∀ u ∈ mcs (⟨R2.now, R2.b⟩, S2), u.oneCell' = true) := Lib.hid (fun u hu => (Array.all_eq_true_iff_forall_mem.1 (mca_one ⟨R2.now, R2.b⟩ S2)) u (by simpa [mcs] using hu))
              have HRow := Lib.hid hM4.row
              have hOn : O.n ≤ 1000000 := by have := HLN.out; have := hM4.len; omega
              have hBw : w.heap.size ≤ (w3.alloc (.cells (mca ⟨R2.now, R2.b⟩ S2) 49)).heap.size := h4.hb.size
              clear h3 hM3 hba
              go_wp2_with (at_builtin; refine wpList_app _ rfl _ _ 44 rfl w.heap.size 49 iM _ 7 104 (by decide) Tryz.underlying44 hi hz0 hz1 hz2 rfl (.slice O.A O.n O.c) O.n (mvs ms) rfl HRow.out (some ⟨w3.heap.size, 0, none⟩) 1 1 (mcs (⟨R2.now, R2.b⟩, S2)) rfl HSrc.out HOn2.out ?_ ?_ hBw (O.n + 1) rfl ?_; (unfold maxLen; omega); omega; intro A' c' w4 q1 q2 q3; refine Hid.out ?_)
              refine Lib.hid ?_
              have h5 := h4.grown HRow.out (Nat.le_refl _) q2 hA2
              have hM5 := mo_app (x := (⟨R2.now, R2.b⟩, S2)) hM4 q1 q2 q3 h4.fs (fun j hj => by rcases hj with rfl | rfl; exact h4.a0; exact h4.a1) hA2
              clear hBw HRow HOn2 HSrc q1 q2 q3 h4 hM4 hbg c5 hi hz0 hz1 hz2 iM
              have c0 : w4.cell? ⟨g, 0, none⟩ = some (.bool R2.a) := h5.bv.c 0 rfl
              have c1 : w4.cell? ⟨g, 1, none⟩ = some (.string (tb R2.q)) := h5.bv.c 1 rfl
              go_wp2_with fail
              refine (rnew_c R2.a R2.q S.A (mkF R.now.fs) _).mono ?_
              rintro E w5 ⟨S5, rfl, hF5, hL5, hb5⟩
              have h6 := h5.up hb5
              have hM6 := hM5.up hb5
              have hbg : hpat w5 g = some (.cells (rcs R2 S2) 32 (0, 0)) := h6.bv
              have h7 := h6.row (R' := newR R2.a R2.q) (S' := S5) hF5 (fun hne => absurd rfl hne) (fun hne => absurd rfl hne)
              have hM7 := hM6.row_set h6.bv (by decide) (.inl rfl) (rcs (newR R2.a R2.q) S5)
              have HL7 := Lib.hid (loc_up (w := w) hL5 h5.hb.size)
              clear c0 c1 hb5 h5 hM5 h6 hM6 hF5 hL5
              go_wp2_with fail
              go_roundw
              case rel => exact ⟨k + 1, newR R2.a R2.q, S5, ⟨A', O.n + 1, c'⟩, ms ++ [(⟨R2.now, R2.b⟩, S2)], by omega, by go_num, rfl, ⟨h7, hM7, fun hne => absurd rfl hne, HL7.out, by rw [HEq.out, HS2.out, List.map_append]; rfl, invR_new _ _ _, by rw [List.length_append]; have := HLN.out; simp; omega⟩⟩
              case measure => simp [intOf]; omega
end Go.Proofs.YtdlihfbaepjliaaGreatDoor
