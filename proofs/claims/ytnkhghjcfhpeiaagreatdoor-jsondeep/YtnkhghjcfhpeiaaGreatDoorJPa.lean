/-
  A reader in memory; the program's at, fail, skip, passes, pass.
-/
import Derived.Test.YtnkhghjcfhpeiaaGreatDoorJWords
import Derived.Test.YtnkhghjcfhpeiaaGreatDoorShelf
import Derived.Test.YtnkhghjcfhpeiaaGreatDoorJQn
import Derived.Test.YtnkhghjcfhpeiaaGreatDoorJFm
import Derived.BigQuiet
namespace Go.Proofs.YtnkhghjcfhpeiaaGreatDoor
open Go.RowKit

/-- what reads a value that begins with that byte -/
def kindF (c : UInt8) : Option FuncId :=
  if c = 110 then some 37 else if c = 102 then some 38 else if c = 116 then some 39 else if c = 34 then some 41 else if c = 91 then some 42 else if c = 123 then some 43 else if c = 45 ∨ digB c = true then some 40 else none
/-- a method of the reader in block g -/
def mv (g : Nat) (f : FuncId) : Value := .func (.func f) #[.pointer (some ⟨g, 0, none⟩)] #[]
/-- the kinds of values, by their first bytes -/
def KJ (g : Nat) : Array MapEntry := #[
  { key := .int .u8 110, val := mv g 37, born := 0 }, { key := .int .u8 102, val := mv g 38, born := 1 }, { key := .int .u8 116, val := mv g 39, born := 2 },
  { key := .int .u8 45, val := mv g 40, born := 3 }, { key := .int .u8 34, val := mv g 41, born := 4 }, { key := .int .u8 91, val := mv g 42, born := 5 }, { key := .int .u8 123, val := mv g 43, born := 6 },
  { key := .int .u8 48, val := mv g 40, born := 7 }, { key := .int .u8 49, val := mv g 40, born := 8 }, { key := .int .u8 50, val := mv g 40, born := 9 }, { key := .int .u8 51, val := mv g 40, born := 10 }, { key := .int .u8 52, val := mv g 40, born := 11 },
  { key := .int .u8 53, val := mv g 40, born := 12 }, { key := .int .u8 54, val := mv g 40, born := 13 }, { key := .int .u8 55, val := mv g 40, born := 14 }, { key := .int .u8 56, val := mv g 40, born := 15 }, { key := .int .u8 57, val := mv g 40, born := 16 }]
def RMap (w : World) (g h : Nat) : Prop := w.heap[h]? = some (.map (KJ g) 17)
/-- the reader in block g, with its map in block h: s is the whole text, l what is left, m values were read, it stands in o others -/
structure RS (w : World) (g h : Nat) (s l : Bs) (m o : Nat) : Prop where
  bx : Box w g 69 #[.string (tb s), .string (tb l), .int .i64 (m : Int), .int .i64 (o : Int), .map (some h)]
  mp : RMap w g h
section
variable {w w' : World} {g h : Nat} {s l : Bs} {m o : Nat}
theorem RS.ne (r : RS w g h s l m o) : h ≠ g := by
  intro e
  have h1 := r.bx
  have h2 := r.mp
  unfold Box at h1
  unfold RMap at h2
  rw [e, h1] at h2
  cases h2
theorem RS.up (r : RS w g h s l m o) (hb : Below w.heap.size w w') : RS w' g h s l m o := ⟨r.bx.up hb, (hb.block h (Array.getElem?_eq_some_iff.1 r.mp).1).trans r.mp⟩
theorem RS.lt (r : RS w g h s l m o) : g < w.heap.size := r.bx.lt
theorem map_set {i : Nat} {u : Value} (hm : RMap w g h) (hne : h ≠ g) : RMap (w.setCell ⟨g, i, none⟩ u) g h := (Below.heap_setCell w ⟨g, i, none⟩ u h hne).trans hm
theorem RS.setl (r : RS w g h s l m o) (l' : Bs) : RS (w.setCell ⟨g, 1, none⟩ (.string (tb l'))) g h s l' m o := ⟨by have := r.bx.set 1 (.string (tb l')); simpa using this, map_set r.mp r.ne⟩
theorem RS.setm (r : RS w g h s l m o) (m' : Nat) : RS (w.setCell ⟨g, 2, none⟩ (.int .i64 (m' : Int))) g h s l m' o := ⟨by have := r.bx.set 2 (.int .i64 (m' : Int)); simpa using this, map_set r.mp r.ne⟩
theorem RS.seto (r : RS w g h s l m o) (o' : Nat) : RS (w.setCell ⟨g, 3, none⟩ (.int .i64 (o' : Int))) g h s l m o' := ⟨by have := r.bx.set 3 (.int .i64 (o' : Int)); simpa using this, map_set r.mp r.ne⟩
theorem RS.cells (r : RS w g h s l m o) : w.cell? ⟨g, 0, none⟩ = some (.string (tb s)) ∧ w.cell? ⟨g, 1, none⟩ = some (.string (tb l)) ∧ w.cell? ⟨g, 2, none⟩ = some (.int .i64 (m : Int)) ∧ w.cell? ⟨g, 3, none⟩ = some (.int .i64 (o : Int)) ∧ w.cell? ⟨g, 4, none⟩ = some (.map (some h)) := ⟨r.bx.c 0 rfl, r.bx.c 1 rfl, r.bx.c 2 rfl, r.bx.c 3 rfl, r.bx.c 4 rfl⟩
theorem but_cell (w : World) (g i : Nat) (u : Value) : But g w (w.setCell ⟨g, i, none⟩ u) := ⟨rfl, rfl, rfl, by simp [World.setCell], fun k _ hk => Below.heap_setCell w ⟨g, i, none⟩ u k hk⟩
end
/-- the reading ends with an error, at the place where r is left -/
def Thr (g : Nat) (s : Bs) (e : Int) (r : Bs) (w : World) (E : Ending) (w' : World) : Prop := E = .panicked [{ v := .iface 48 (.agg #[.int .i64 e, .int .i64 ((s.length : Int) - (r.length : Int))]), recovered := false }] ∧ But g w w'
theorem Thr.on {g : Nat} {s : Bs} {e : Int} {r : Bs} {w w1 : World} {E : Ending} {w' : World} (h : But g w w1) (t : Thr g s e r w1 E w') : Thr g s e r w E w' := ⟨t.1, h.on t.2⟩
/-- a call of the reader that hands back a value, or ends the reading -/
def RdEnds (g h : Nat) (s : Bs) (w : World) (res : Except (Int × Bs) (Value × Bs × Nat × Nat)) (E : Ending) (w' : World) : Prop := match res with
  | .error (e, r) => Thr g s e r w E w'
  | .ok (v, l, m, o) => E = .returned v ∧ But g w w' ∧ RS w' g h s l m o
theorem RdEnds.on {g h : Nat} {s : Bs} {w w1 w' : World} {res : Except (Int × Bs) (Value × Bs × Nat × Nat)} {E : Ending} (hb : But g w w1) (h2 : RdEnds g h s w1 res E w') : RdEnds g h s w res E w' := by
  unfold RdEnds at h2 ⊢
  split at h2
  · exact h2.on hb
  · exact ⟨h2.1, hb.on h2.2.1, h2.2.2⟩
theorem pos_wrap {s l : Bs} (hs : s.length ≤ 1000000) (hl : l.length ≤ 1000000) : IntKind.i64.wrap ((s.length : Int) - (l.length : Int)) = (s.length : Int) - (l.length : Int) := IntWalk.i64_in _ (by omega)
set_option maxRecDepth 100000 in
set_option maxHeartbeats 2000000 in
theorem at_any (g h : Nat) (s l : Bs) (m o : Nat) (w : World) (hs : s.length ≤ 1000000) (hl : l.length ≤ 1000000) (r : RS w g h s l m o) : Calls Tryz.prog 68 #[.pointer (some ⟨g, 0, none⟩)] w (fun E w' => E = .returned (.int .i64 ((s.length : Int) - (l.length : Int))) ∧ Below w.heap.size w w') := by
  obtain ⟨c0, c1, c2, c3, c4⟩ := r.cells
  have hp := pos_wrap hs hl
  have z1 : (tb s).size = s.length := tb_size s
  have z2 : (tb l).size = l.length := tb_size l
  clear r hs hl
  go_enter Tryz.func68, Tryz.ntmps68
  go_wp2_with fail
  go_quiet (fail)
  go_wp2
  go_ret
  exact ⟨rfl, below_drewN (Below.refl _ _) _⟩
theorem conc_fault : Tryz.prog.concrete 48 = true := by kernel_rfl
set_option maxRecDepth 100000 in
set_option maxHeartbeats 2000000 in
theorem fail_any (g h : Nat) (s l : Bs) (m o : Nat) (e : Int) (w : World) (hs : s.length ≤ 1000000) (hl : l.length ≤ 1000000) (r : RS w g h s l m o) : Calls Tryz.prog 46 #[.pointer (some ⟨g, 0, none⟩), .int .i64 e] w (Thr g s e l w) := by
  have HA := Lib.hid (at_any g h s l m o w hs hl r)
  have hc := conc_fault
  clear r hs hl
  go_enter Tryz.func46, Tryz.ntmps46
  go_wp2_with fail
  refine HA.out.mono ?_
  rintro E w1 ⟨rfl, hb⟩
  go_wp2
  exact ⟨rfl, rfl, But.of hb⟩
end Go.Proofs.YtnkhghjcfhpeiaaGreatDoor

/-
  The program's skip, passes, pass, ended, walked.
-/
namespace Go.Proofs.YtnkhghjcfhpeiaaGreatDoor
open Go.RowKit

theorem end_unit {fn : Func} {tmps : Array Value} {w : World} (hf : fn.results = #[]) : (results fn tmps).run Tryz.prog w = .ok (.tuple #[]) w := by
  unfold results
  rw [hf]
  simp
theorem skip_drop : ∀ l : Bs, Lib.trimLeftS l [32, 9, 10, 13] = skipB l
  | [] => rfl
  | c :: t => by
    have ih := skip_drop t
    unfold Lib.trimLeftS at ih ⊢
    rw [skipB, List.dropWhile_cons, ih]
    have : ([32, 9, 10, 13] : Bs).contains c = blankB c := by
      unfold blankB
      simp [Bool.or_assoc]
    rw [this]
theorem skip_skip : ∀ l : Bs, skipB (skipB l) = skipB l
  | [] => rfl
  | c :: t => by
    rw [skipB]
    split
    · exact skip_skip t
    · rename_i h
      rw [skipB, if_neg h]
def TxtB (t : Bs) (w : World) (E : Ending) (w' : World) : Prop := E = .returned (.string (tb t)) ∧ Below w.heap.size w w'
theorem trim_any (l : Bs) (w : World) : Calls Tryz.prog 67 #[.string (tb l), .string ⟨#[32, 9, 10, 13]⟩] w (TxtB (skipB l) w) := by
  refine (sh_TrimLeft (tb l) ⟨#[32, 9, 10, 13]⟩ w (by decide) (ascii_of_all (by decide))).mono ?_
  rintro E w' ⟨rfl, hb⟩
  refine ⟨?_, hb⟩
  rw [show (tb l).data.toList = l from dl_tb l, show (⟨#[32, 9, 10, 13]⟩ : ByteArray).data.toList = [32, 9, 10, 13] from rfl, skip_drop]
  rfl
/-- what is left behind a mark, and whether it is there -/
def cutP (p l : Bs) : Bs × Bool := if p.isPrefixOf l = true then (l.drop p.length, true) else (l, false)
theorem hasP_iff (l p : Bs) : Lib.hasPrefix l p = p.isPrefixOf l := by
  rw [Bool.eq_iff_iff, pre_iff, List.isPrefixOf_iff_prefix]
  exact ⟨fun ⟨r, h⟩ => ⟨r, h.symm⟩, fun ⟨r, h⟩ => ⟨r, h.symm⟩⟩
theorem cut_any (l p : Bs) (w : World) : Calls Tryz.prog 104 #[.string (tb l), .string (tb p)] w (fun e w' => e = .returned (.tuple #[.string (tb (cutP p l).1), .bool (cutP p l).2]) ∧ w' = w) := by
  refine (sh_CutPrefix (tb l) (tb p) w).mono ?_
  rintro E w' ⟨rfl, rfl⟩
  refine ⟨?_, rfl⟩
  rw [show (tb l).data.toList = l from dl_tb l, show (tb p).data.toList = p from dl_tb p, hasP_iff]
  unfold Lib.trimPrefix cutP
  rw [hasP_iff]
  cases p.isPrefixOf l <;> rfl
set_option maxRecDepth 100000 in
set_option maxHeartbeats 2000000 in
theorem skip_any (g h : Nat) (s l : Bs) (m o : Nat) (w : World) (r : RS w g h s l m o) : Calls Tryz.prog 45 #[.pointer (some ⟨g, 0, none⟩)] w (RdEnds g h s w (.ok (.tuple #[], skipB l, m, o))) := by
  obtain ⟨c0, c1, c2, c3, c4⟩ := r.cells
  have HT := Lib.hid (trim_any l w)
  have HR := Lib.hid r
  have hgl := r.lt
  clear r
  go_enter Tryz.func45, Tryz.ntmps45
  go_wp2_with fail
  refine HT.out.mono ?_
  rintro E w1 ⟨rfl, hb⟩
  have HR1 := Lib.hid (HR.out.up hb)
  have f1 := HR1.out.bx.f 1
  have HS := Lib.hid (HR1.out.setl (skipB l))
  have HB := Lib.hid ((But.of (g := g) hb).on (but_cell w1 g 1 (.string (tb (skipB l)))))
  clear c0 c1 c2 c3 c4
  obtain ⟨c0, c1, c2, c3, c4⟩ := HR1.out.cells
  go_wp2
  exact ⟨rfl, .tuple #[], end_unit rfl, rfl, HB.out, HS.out⟩
set_option maxRecDepth 100000 in
set_option maxHeartbeats 2000000 in
theorem passes_any (g h : Nat) (s l p : Bs) (m o : Nat) (w : World) (r : RS w g h s l m o) : Calls Tryz.prog 82 #[.pointer (some ⟨g, 0, none⟩), .string (tb p)] w (RdEnds g h s w (.ok (.bool (cutP p (skipB l)).2, (cutP p (skipB l)).1, m, o))) := by
  have HS := Lib.hid (skip_any g h s l m o w r)
  have hgl := r.lt
  clear r
  obtain ⟨⟨x, b⟩, hx⟩ : ∃ q, cutP p (skipB l) = q := ⟨_, rfl⟩
  have HC := Lib.hid (fun W => cut_any (skipB l) p W)
  rw [hx] at HC ⊢
  clear hx
  go_enter Tryz.func82, Tryz.ntmps82
  go_wp2_with fail
  refine HS.out.mono ?_
  rintro E w1 ⟨rfl, hb1, hr1⟩
  have HR1 := Lib.hid hr1
  have HB1 := Lib.hid hb1
  clear hr1 hb1 HS
  obtain ⟨c0, c1, c2, c3, c4⟩ := HR1.out.cells
  go_wp2_with fail
  refine (HC.out _).mono ?_
  rintro E w2 ⟨rfl, rfl⟩
  have f1 := HR1.out.bx.f 1
  have HS := Lib.hid (HR1.out.setl x)
  have HB := Lib.hid (HB1.out.on (but_cell w2 g 1 (.string (tb x))))
  go_wp2
  go_ret
  exact ⟨rfl, HB.out, HS.out⟩
/-- what a mark that must stand here leaves -/
def needP (p l : Bs) (m o : Nat) : Except (Int × Bs) (Value × Bs × Nat × Nat) := if (cutP p (skipB l)).2 = true then .ok (.tuple #[], (cutP p (skipB l)).1, m, o) else .error (31, skipB l)
set_option maxRecDepth 100000 in
set_option maxHeartbeats 2000000 in
theorem pass_any (g h : Nat) (s l p : Bs) (m o : Nat) (w : World) (hs : s.length ≤ 1000000) (hl : l.length ≤ 1000000) (r : RS w g h s l m o) : Calls Tryz.prog 60 #[.pointer (some ⟨g, 0, none⟩), .string (tb p)] w (RdEnds g h s w (needP p l m o)) := by
  have HP := Lib.hid (passes_any g h s l p m o w r)
  have hgl := r.lt
  clear r
  unfold needP
  cases hc : (cutP p (skipB l)).2 with
  | true =>
    rw [if_pos rfl]
    rw [hc] at HP
    clear hc
    go_enter Tryz.func60, Tryz.ntmps60
    go_wp2_with fail
    refine HP.out.mono ?_
    rintro E w1 ⟨rfl, hb1, hr1⟩
    go_wp2
    exact ⟨rfl, .tuple #[], end_unit rfl, rfl, hb1, hr1⟩
  | false =>
    rw [if_neg (by decide)]
    have hx : (cutP p (skipB l)).1 = skipB l := by
      unfold cutP at hc ⊢
      split
      · rename_i h1
        rw [if_pos h1] at hc
        cases hc
      · rfl
    rw [hc, hx] at HP
    clear hc hx
    have hle := skip_le l
    have HF := Lib.hid (fun W (r : RS W g h s (skipB l) m o) => fail_any g h s (skipB l) m o 31 W hs (by omega) r)
    go_enter Tryz.func60, Tryz.ntmps60
    go_wp2_with fail
    refine HP.out.mono ?_
    rintro E w1 ⟨rfl, hb1, hr1⟩
    have HR1 := Lib.hid hr1
    have HB1 := Lib.hid hb1
    clear hr1 hb1
    go_wp2_with fail
    refine (HF.out _ HR1.out).mono ?_
    rintro E w2 ⟨rfl, hb2⟩
    go_wp2
    exact ⟨rfl, rfl, HB1.out.on hb2⟩
/-- what stands behind a value or a member -/
def endP (p l : Bs) (m o : Nat) : Except (Int × Bs) (Value × Bs × Nat × Nat) := if (cutP p (skipB l)).2 = true then .ok (.bool true, (cutP p (skipB l)).1, m, o) else if (cutP [44] (skipB l)).2 = true then .ok (.bool false, (cutP [44] (skipB l)).1, m, o) else .error (31, skipB l)
set_option maxRecDepth 100000 in
set_option maxHeartbeats 2000000 in
theorem ended_any (g h : Nat) (s l p : Bs) (m o : Nat) (w : World) (hs : s.length ≤ 1000000) (hl : l.length ≤ 1000000) (r : RS w g h s l m o) : Calls Tryz.prog 89 #[.pointer (some ⟨g, 0, none⟩), .string (tb p)] w (RdEnds g h s w (endP p l m o)) := by
  have HP := Lib.hid (passes_any g h s l p m o w r)
  have hgl := r.lt
  clear r
  unfold endP
  cases hc : (cutP p (skipB l)).2 with
  | true =>
    rw [if_pos rfl]
    rw [hc] at HP
    clear hc
    go_enter Tryz.func89, Tryz.ntmps89
    go_wp2_with fail
    refine HP.out.mono ?_
    rintro E w1 ⟨rfl, hb1, hr1⟩
    go_wp2
    go_ret
    exact ⟨rfl, hb1, hr1⟩
  | false =>
    rw [if_neg (by decide)]
    have hx : (cutP p (skipB l)).1 = skipB l := by
      unfold cutP at hc ⊢
      split
      · rename_i h1
        rw [if_pos h1] at hc
        cases hc
      · rfl
    rw [hc, hx] at HP
    clear hc hx
    have hle := skip_le l
    have HN : Hid (∀ W, RS W g h s (skipB l) m o → Calls Tryz.prog 60 #[.pointer (some ⟨g, 0, none⟩), .string ⟨#[44]⟩] W (RdEnds g h s W (needP [44] (skipB l) m o))) := Lib.hid (fun W r => pass_any g h s (skipB l) [44] m o W hs (by omega) r)
    unfold needP at HN
    rw [skip_skip] at HN
    cases hc2 : (cutP [44] (skipB l)).2 with
    | true =>
      rw [if_pos rfl]
      rw [hc2, if_pos rfl] at HN
      go_enter Tryz.func89, Tryz.ntmps89
      go_wp2_with fail
      refine HP.out.mono ?_
      rintro E w1 ⟨rfl, hb1, hr1⟩
      have HR1 := Lib.hid hr1
      have HB1 := Lib.hid hb1
      clear hr1 hb1
      go_wp2_with fail
      refine (HN.out _ HR1.out).mono ?_
      rintro E w2 ⟨rfl, hb2, hr2⟩
      have HB2 := Lib.hid (HB1.out.on hb2)
      have HR2 := Lib.hid hr2
      clear hb2 hr2
      go_wp2
      go_ret
      exact ⟨rfl, HB2.out, HR2.out⟩
    | false =>
      rw [if_neg (by decide)]
      rw [hc2, if_neg (by decide)] at HN
      go_enter Tryz.func89, Tryz.ntmps89
      go_wp2_with fail
      refine HP.out.mono ?_
      rintro E w1 ⟨rfl, hb1, hr1⟩
      have HR1 := Lib.hid hr1
      have HB1 := Lib.hid hb1
      clear hr1 hb1
      go_wp2_with fail
      refine (HN.out _ HR1.out).mono ?_
      rintro E w2 ⟨rfl, hb2⟩
      go_wp2
      exact ⟨rfl, rfl, HB1.out.on hb2⟩
end Go.Proofs.YtnkhghjcfhpeiaaGreatDoor
