/-
  The state of the document's own reader; its fail, skip, is, need.
-/
import Derived.Test.YtnkhghjcfhpeiaaGreatDoorJWords
import Derived.Test.YtnkhghjcfhpeiaaGreatDoorJu
import Derived.Test.YtnkhghjcfhpeiaaGreatDoorJPa
import Derived.Deep.LoopGhost
import Derived.BigQuiet
namespace Go.Proofs.YtnkhghjcfhpeiaaGreatDoor
open Go.RowKit

/-- the document's own reader in block g: s is the whole text, l what is left, m values were read, e is the first error -/
structure DS (w : World) (g : Nat) (s l : Bs) (m : Nat) (e : Int) : Prop where
  bx : Box w g 61 #[.string (tb s), .int .i64 ((s.length - l.length : Nat) : Int), .int .i64 (m : Int), .int .i64 e]
  suf : s.drop (s.length - l.length) = l
  le : l.length ≤ s.length
section
variable {w w' : World} {g : Nat} {s l : Bs} {m : Nat} {e : Int}
theorem DS.up (h : DS w g s l m e) (hb : Below w.heap.size w w') : DS w' g s l m e := ⟨h.bx.up hb, h.suf, h.le⟩
theorem DS.lt (h : DS w g s l m e) : g < w.heap.size := h.bx.lt
theorem DS.cells (h : DS w g s l m e) : w.cell? ⟨g, 0, none⟩ = some (.string (tb s)) ∧ w.cell? ⟨g, 1, none⟩ = some (.int .i64 ((s.length - l.length : Nat) : Int)) ∧ w.cell? ⟨g, 2, none⟩ = some (.int .i64 (m : Int)) ∧ w.cell? ⟨g, 3, none⟩ = some (.int .i64 e) := box4 h.bx
theorem DS.sete (h : DS w g s l m e) (e' : Int) : DS (w.setCell ⟨g, 3, none⟩ (.int .i64 e')) g s l m e' := ⟨by have := h.bx.set 3 (.int .i64 e'); simpa using this, h.suf, h.le⟩
theorem DS.setm (h : DS w g s l m e) (m' : Nat) : DS (w.setCell ⟨g, 2, none⟩ (.int .i64 (m' : Int))) g s l m' e := ⟨by have := h.bx.set 2 (.int .i64 (m' : Int)); simpa using this, h.suf, h.le⟩
/-- the place moves on -/
theorem DS.setp (h : DS w g s l m e) {l' : Bs} {p : Nat} (hp : s.drop p = l') (hl : p ≤ s.length) : DS (w.setCell ⟨g, 1, none⟩ (.int .i64 (p : Int))) g s l' m e := by
  have h1 : s.length - l'.length = p := by rw [← hp, List.length_drop]; omega
  refine ⟨?_, by rw [h1, hp], by rw [← hp, List.length_drop]; omega⟩
  have := h.bx.set 1 (.int .i64 (p : Int))
  rw [h1]
  simpa using this
theorem DS.at (h : DS w g s l m e) (i : Nat) : l[i]? = s[s.length - l.length + i]? := by
  rw [← List.getElem?_drop, h.suf]
end
theorem drop_cons {s : Bs} {p : Nat} {c : UInt8} {r : Bs} (h : s.drop p = c :: r) : s.drop (p + 1) = r ∧ p < s.length ∧ s[p]? = some c := by
  have h1 : p < s.length := by
    rcases Nat.lt_or_ge p s.length with h1 | h1
    · exact h1
    · rw [List.drop_of_length_le h1] at h
      cases h
  rw [List.drop_eq_getElem_cons h1] at h
  obtain ⟨h2, h3⟩ := List.cons.inj h
  exact ⟨h3, h1, by rw [List.getElem?_eq_getElem h1, h2]⟩
/-- a call that hands back a value and leaves the reader so -/
def DEnds (g : Nat) (s : Bs) (w : World) (v : Value) (l : Bs) (m : Nat) (e : Int) (E : Ending) (w' : World) : Prop := E = .returned v ∧ But g w w' ∧ DS w' g s l m e
theorem DEnds.on {g : Nat} {s : Bs} {w w1 w' : World} {v : Value} {l : Bs} {m : Nat} {e : Int} {E : Ending} (hb : But g w w1) (h : DEnds g s w1 v l m e E w') : DEnds g s w v l m e E w' := ⟨h.1, hb.on h.2.1, h.2.2⟩
set_option maxRecDepth 100000 in
set_option maxHeartbeats 2000000 in
theorem sfail_any (g : Nat) (s l : Bs) (m : Nat) (e e1 : Int) (w : World) (h : DS w g s l m e) : Calls Tryz.prog 33 #[.pointer (some ⟨g, 0, none⟩), .int .i64 e1] w (DEnds g s w (.tuple #[]) l m (if e = 0 then e1 else e)) := by
  obtain ⟨c0, c1, c2, c3⟩ := h.cells
  have f3 := h.bx.f 3
  have H1 := Lib.hid (h.sete e1)
  have H := Lib.hid h
  by_cases he : e = 0
  · subst he
    rw [if_pos rfl]
    clear h
    go_enter Tryz.func33, Tryz.ntmps33
    go_wp2_with fail
    exact ⟨rfl, .tuple #[], end_unit rfl, rfl, but_cell _ _ _ _, H1.out⟩
  · rw [if_neg he]
    have hee : (e == 0) = false := beq_eq_false_iff_ne.2 he
    clear h H1 he
    go_enter Tryz.func33, Tryz.ntmps33
    go_wp2_with fail
    exact ⟨rfl, .tuple #[], end_unit rfl, rfl, But.refl _ _, H.out⟩
set_option maxRecDepth 100000 in
set_option maxHeartbeats 4000000 in
/-- skip, where nothing went wrong so far -/
theorem sskip_ok (g : Nat) (s l : Bs) (m : Nat) (w : World) (hs : s.length ≤ 1000000) (h : DS w g s l m 0) : Calls Tryz.prog 32 #[.pointer (some ⟨g, 0, none⟩)] w (DEnds g s w (.tuple #[]) (skipB l) m 0) := by
  have zs : (tb s).size = s.length := tb_size s
  obtain ⟨Q, hQ⟩ : ∃ Q, skipB l = Q := ⟨_, rfl⟩
  rw [hQ]
  have HQ0 : Hid (skipB l = Q) := Lib.hid hQ
  have H := Lib.hid h
  clear h hQ
  go_enter Tryz.func32, Tryz.ntmps32
  go_wp2_with fail
  go_loopg [2] (s.length + 1) (fun k _ wr => ∃ (l1 : Bs), l1.length < k ∧ Hid (skipB l1 = Q) ∧ Hid (DS wr g s l1 m 0) ∧ Hid (But g w wr))
  case atStart => exact ⟨l, by have := H.out.le; omega, HQ0, H, Lib.hid (But.refl _ _)⟩
  case round =>
    obtain ⟨l1, hlk, HQ, HD, HB⟩ := hrel
    obtain ⟨c0, c1, c2, c3⟩ := HD.out.cells
    have hle := HD.out.le
    have hsf := HD.out.suf
    obtain ⟨p, hp⟩ : ∃ p, s.length - l1.length = p := ⟨_, rfl⟩
    rw [hp] at c1 hsf
    cases l1 with
    | nil =>
      have hps : p = s.length := by simp only [List.length_nil] at hp; omega
      subst hps
      have hq : Q = [] := HQ.out.symm
      subst hq
      clear hp hlk hle hsf HQ HQ0
      have hpp : ¬ (s.length : Int) < (s.length : Int) := by omega
      go_wp2_with fail
      go_quiet (fail)
      rename_i nq
      have hbq := below_drewN (Below.refl wr.heap.size wr) nq
      have HD3 := Lib.hid (HD.out.up hbq)
      have HB3 := Lib.hid (HB.out.on (But.of hbq))
      clear HD HB c0 c1 c2 c3 hbq
      go_wp2
      exact ⟨rfl, .tuple #[], end_unit rfl, rfl, HB3.out, HD3.out⟩
    | cons c r =>
      obtain ⟨hd1, hps, hat⟩ := drop_cons hsf
      have hpi : (p : Int) < (s.length : Int) := by omega
      have hp0 : (0 : Int) ≤ (p : Int) := by omega
      have hix := fun W => jidx hat W
      obtain ⟨p1, hp1⟩ : ∃ p1, p + 1 = p1 := ⟨_, rfl⟩
      have hwp : IntKind.i64.wrap ((p : Int) + 1) = (p1 : Int) := by rw [IntWalk.i64_in _ (by omega)]; omega
      rw [hp1] at hd1
      have HSet := Lib.hid (fun W (h : DS W g s (c :: r) m 0) => h.setp hd1 (by omega))
      have hb4 : blankB c = ((c.toNat : Int) == 32 || (c.toNat : Int) == 9 || (c.toNat : Int) == 10 || (c.toNat : Int) == 13) := by
        unfold blankB
        rw [Bool.eq_iff_iff]
        simp only [Bool.or_eq_true, decide_eq_true_eq, beq_iff_eq]
        have b1 := byte_is (c := c) (n := 32) (by omega)
        have b2 := byte_is (c := c) (n := 9) (by omega)
        have b3 := byte_is (c := c) (n := 10) (by omega)
        have b4 := byte_is (c := c) (n := 13) (by omega)
        rw [show (32 : UInt8) = UInt8.ofNat 32 from rfl, show (9 : UInt8) = UInt8.ofNat 9 from rfl, show (10 : UInt8) = UInt8.ofNat 10 from rfl, show (13 : UInt8) = UInt8.ofNat 13 from rfl, b1, b2, b3, b4]
        rfl
      have hsk : skipB (c :: r) = if blankB c = true then skipB r else c :: r := by rw [skipB]
      rw [hb4] at hsk
      have hlk2 : r.length < gk - 1 := by simp only [List.length_cons] at hlk; omega
      have hlk3 : gk - 1 < gk := by omega
      have hpq : s.length - (c :: r).length = p := hp
      replace hpq := hpq
      have HPq := Lib.hid hpq
      clear hb4 hp hat hle hsf hps hp1 hlk hpq
      generalize (c.toNat : Int) = z at *
      cases e1 : (z == 32) with
      | true =>
        have HQ3 : Hid (skipB r = Q) := Lib.hid (by rw [← HQ.out, hsk, e1]; rfl)
        clear hsk HQ HQ0
        go_wp2_with fail
        simp only [List.append]
        go_quiet (fail)
        rename_i nq
        have hbq := below_drewN (Below.refl wr.heap.size wr) nq
        have HD3 := Lib.hid (HD.out.up hbq)
        have HB3 := Lib.hid (HB.out.on (But.of hbq))
        clear HD HB c0 c1 c2 c3 hbq
        generalize wr.drewN nq = W2 at *
        have HD2 := Lib.hid (HSet.out W2 HD3.out)
        have HB2 := Lib.hid (HB3.out.on (but_cell W2 g 1 (.int .i64 (p1 : Int))))
        have f1 := HD3.out.bx.f 1
        obtain ⟨c0, c1, c2, c3⟩ := HD3.out.cells
        rw [HPq.out] at c1
        go_wp2
        go_roundg (gk - 1)
        case measure => exact hlk3
        case rel => exact ⟨r, hlk2, HQ3, HD2, HB2⟩
      | false =>
        cases e2 : (z == 9) with
        | true =>
          have HQ3 : Hid (skipB r = Q) := Lib.hid (by rw [← HQ.out, hsk, e1, e2]; rfl)
          clear hsk HQ HQ0
          go_wp2_with fail
          simp only [List.append]
          go_quiet (fail)
          rename_i nq
          have hbq := below_drewN (Below.refl wr.heap.size wr) nq
          have HD3 := Lib.hid (HD.out.up hbq)
          have HB3 := Lib.hid (HB.out.on (But.of hbq))
          clear HD HB c0 c1 c2 c3 hbq
          generalize wr.drewN nq = W2 at *
          have HD2 := Lib.hid (HSet.out W2 HD3.out)
          have HB2 := Lib.hid (HB3.out.on (but_cell W2 g 1 (.int .i64 (p1 : Int))))
          have f1 := HD3.out.bx.f 1
          obtain ⟨c0, c1, c2, c3⟩ := HD3.out.cells
          rw [HPq.out] at c1
          go_wp2
          go_roundg (gk - 1)
          case measure => exact hlk3
          case rel => exact ⟨r, hlk2, HQ3, HD2, HB2⟩
        | false =>
          cases e3 : (z == 10) with
          | true =>
            have HQ3 : Hid (skipB r = Q) := Lib.hid (by rw [← HQ.out, hsk, e1, e2, e3]; rfl)
            clear hsk HQ HQ0
            go_wp2_with fail
            simp only [List.append]
            go_quiet (fail)
            rename_i nq
            have hbq := below_drewN (Below.refl wr.heap.size wr) nq
            have HD3 := Lib.hid (HD.out.up hbq)
            have HB3 := Lib.hid (HB.out.on (But.of hbq))
            clear HD HB c0 c1 c2 c3 hbq
            generalize wr.drewN nq = W2 at *
            have HD2 := Lib.hid (HSet.out W2 HD3.out)
            have HB2 := Lib.hid (HB3.out.on (but_cell W2 g 1 (.int .i64 (p1 : Int))))
            have f1 := HD3.out.bx.f 1
            obtain ⟨c0, c1, c2, c3⟩ := HD3.out.cells
            rw [HPq.out] at c1
            go_wp2
            go_roundg (gk - 1)
            case measure => exact hlk3
            case rel => exact ⟨r, hlk2, HQ3, HD2, HB2⟩
          | false =>
            cases e4 : (z == 13) with
            | true =>
              have HQ3 : Hid (skipB r = Q) := Lib.hid (by rw [← HQ.out, hsk, e1, e2, e3, e4]; rfl)
              clear hsk HQ HQ0
              go_wp2_with fail
              simp only [List.append]
              go_quiet (fail)
              rename_i nq
              have hbq := below_drewN (Below.refl wr.heap.size wr) nq
              have HD3 := Lib.hid (HD.out.up hbq)
              have HB3 := Lib.hid (HB.out.on (But.of hbq))
              clear HD HB c0 c1 c2 c3 hbq
              generalize wr.drewN nq = W2 at *
              have HD2 := Lib.hid (HSet.out W2 HD3.out)
              have HB2 := Lib.hid (HB3.out.on (but_cell W2 g 1 (.int .i64 (p1 : Int))))
              have f1 := HD3.out.bx.f 1
              obtain ⟨c0, c1, c2, c3⟩ := HD3.out.cells
              rw [HPq.out] at c1
              go_wp2
              go_roundg (gk - 1)
              case measure => exact hlk3
              case rel => exact ⟨r, hlk2, HQ3, HD2, HB2⟩
            | false =>
              have hq : Q = c :: r := by rw [← HQ.out, hsk, e1, e2, e3, e4]; rfl
              subst hq
              clear hsk HQ HQ0 HSet
              go_wp2_with fail
              simp only [List.append]
              go_quiet (fail)
              rename_i nq
              have hbq := below_drewN (Below.refl wr.heap.size wr) nq
              have HD3 := Lib.hid (HD.out.up hbq)
              have HB3 := Lib.hid (HB.out.on (But.of hbq))
              clear HD HB c0 c1 c2 c3 hbq
              go_wp2
              exact ⟨rfl, .tuple #[], end_unit rfl, rfl, HB3.out, HD3.out⟩
end Go.Proofs.YtnkhghjcfhpeiaaGreatDoor
