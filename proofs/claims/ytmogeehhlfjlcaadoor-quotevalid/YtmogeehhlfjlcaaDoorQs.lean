/-
  The walks of quote's own meanings, readEscape, read.
-/
import Derived.Test.YtmogeehhlfjlcaaDoorQr
namespace Go.Proofs.YtmogeehhlfjlcaaDoor
open Go.RowKit

theorem push_set {α : Type} (a : Array α) (o o' : α) : (a.push o).setIfInBounds a.size o' = a.push o' := by
  apply Array.ext_getElem?
  intro i
  rw [Array.getElem?_setIfInBounds, Array.getElem?_push, Array.getElem?_push]
  by_cases h : a.size = i
  · subst h; simp
  · rw [if_neg h, if_neg (fun e => h e.symm), if_neg (fun e => h e.symm)]
theorem alloc_set (w : World) (o o' : Obj) : { (w.alloc o) with heap := (w.alloc o).heap.setIfInBounds w.heap.size o' } = w.alloc o' := by
  unfold World.alloc
  show World.mk _ _ _ _ _ = World.mk _ _ _ _ _
  rw [push_set]
theorem mput (w : World) (es : Array MapEntry) (n : Nat) (k : Int) (v : Value) (hf : Instr.findNow (.int .u8) (.int .u8 k) es.toList 0 = some none) : (Instr.mapUpdate 45 (.map (some w.heap.size)) (.int .u8 k) v).run Tryd.prog (w.alloc (.map es n)) = .ok () (w.alloc (.map (es.push { key := .int .u8 k, val := v, born := n }) (n + 1))) := by
  have hb : (w.alloc (.map es n)).heap[w.heap.size]? = some (.map es n) := heap_alloc_new w _
  have hc : (Instr.checkKey false 10000 5 (.int .u8 k)).run Tryd.prog (w.alloc (.map es n)) = .ok () (w.alloc (.map es n)) := MapKept.run_checkKey (k := .int .u8 k) Tryd.underlying5 (by simp [MapKept.IsKey]) false 9999
  simp [Instr.mapUpdate, run_underlying Tryd.underlying45, MapKept.run_getObj_map hb, hc, MapKept.run_findKey Tryd.underlying5 hf, MapKept.run_setObj_map _ hb, Result.andThen]
  exact alloc_set _ _ _
/-- the meanings of the escapes of one byte -/
def KE : Array MapEntry := #[{ key := .int .u8 34, val := .int .i32 34, born := 0 }, { key := .int .u8 92, val := .int .i32 92, born := 1 }, { key := .int .u8 47, val := .int .i32 47, born := 2 }, { key := .int .u8 98, val := .int .i32 8, born := 3 }, { key := .int .u8 102, val := .int .i32 12, born := 4 }, { key := .int .u8 110, val := .int .i32 10, born := 5 }, { key := .int .u8 114, val := .int .i32 13, born := 6 }, { key := .int .u8 116, val := .int .i32 9, born := 7 }]
def Am (W : World) (g : Nat) : Prop := W.heap[g]? = some (.map KE 8)
theorem Am.low {W W' : World} {g B : Nat} (h : Am W g) (hg : g < B) (hb : Below B W W') : Am W' g := (hb.block g hg).trans h
theorem find_yes : ∀ e : UInt8, ∀ c, escC e = some c → ∃ i, Instr.findNow (.int .u8) (.int .u8 (e.toNat : Int)) KE.toList 0 = some (some (i, .int .i32 (c.toNat : Int))) := by
  intro e c h
  unfold escC at h
  repeat' split at h
  all_goals first
    | (rename_i he; subst he; cases h; exact ⟨_, rfl⟩)
    | cases h
theorem find_no (e : UInt8) (h : escC e = none) : Instr.findNow (.int .u8) (.int .u8 (e.toNat : Int)) KE.toList 0 = some none := by
  have hne : ∀ m : UInt8, e ≠ m → ¬ (m.toNat : Int) = (e.toNat : Int) := fun m hm hh => hm (UInt8.toNat_inj.1 (by omega))
  unfold escC at h
  repeat' split at h
  all_goals first
    | cases h
    | skip
  rename_i h1 h2 h3 h4 h5 h6 h7 h8
  have k1 := hne 34 h1
  have k2 := hne 92 h2
  have k3 := hne 47 h3
  have k4 := hne 98 h4
  have k5 := hne 102 h5
  have k6 := hne 110 h6
  have k7 := hne 114 h7
  have k8 := hne 116 h8
  simp only [show (34 : UInt8).toNat = 34 from rfl, show (92 : UInt8).toNat = 92 from rfl, show (47 : UInt8).toNat = 47 from rfl, show (98 : UInt8).toNat = 98 from rfl, show (102 : UInt8).toNat = 102 from rfl, show (110 : UInt8).toNat = 110 from rfl, show (114 : UInt8).toNat = 114 from rfl, show (116 : UInt8).toNat = 116 from rfl] at k1 k2 k3 k4 k5 k6 k7 k8
  clear h1 h2 h3 h4 h5 h6 h7 h8 hne
  generalize (e.toNat : Int) = z at *
  unfold KE
  have q1 : (z == 34) = false := beq_eq_false_iff_ne.2 (by omega)
  have q2 : (z == 92) = false := beq_eq_false_iff_ne.2 (by omega)
  have q3 : (z == 47) = false := beq_eq_false_iff_ne.2 (by omega)
  have q4 : (z == 98) = false := beq_eq_false_iff_ne.2 (by omega)
  have q5 : (z == 102) = false := beq_eq_false_iff_ne.2 (by omega)
  have q6 : (z == 110) = false := beq_eq_false_iff_ne.2 (by omega)
  have q7 : (z == 114) = false := beq_eq_false_iff_ne.2 (by omega)
  have q8 : (z == 116) = false := beq_eq_false_iff_ne.2 (by omega)
  simp [Instr.findNow, Instr.sameNow, q1, q2, q3, q4, q5, q6, q7, q8]
theorem lk_ok {W : World} {g : Nat} (h : Am W g) (e c : UInt8) (hc : escC e = some c) : (Instr.lookup 45 (.map (some g)) (.int .u8 (e.toNat : Int)) true).run Tryd.prog W = .ok (.tuple #[.int .i32 (c.toNat : Int), .bool true]) W := by
  obtain ⟨i, hf⟩ := find_yes e c hc
  have hk : ∀ q, (Instr.checkKey q 10000 5 (.int .u8 (e.toNat : Int))).run Tryd.prog W = .ok () W := fun q => MapKept.run_checkKey (k := .int .u8 (e.toNat : Int)) Tryd.underlying5 (by simp [MapKept.IsKey]) q 9999
  simp [Instr.lookup, run_underlying Tryd.underlying45, MapKept.run_getObj_map h, hk, MapKept.run_findKey Tryd.underlying5 hf, Result.andThen]
theorem lk_no {W : World} {g : Nat} (h : Am W g) (e : UInt8) (hc : escC e = none) : (Instr.lookup 45 (.map (some g)) (.int .u8 (e.toNat : Int)) true).run Tryd.prog W = .ok (.tuple #[.int .i32 0, .bool false]) W := by
  have hf := find_no e hc
  have hk : ∀ q, (Instr.checkKey q 10000 5 (.int .u8 (e.toNat : Int))).run Tryd.prog W = .ok () W := fun q => MapKept.run_checkKey (k := .int .u8 (e.toNat : Int)) Tryd.underlying5 (by simp [MapKept.IsKey]) q 9999
  simp [Instr.lookup, run_underlying Tryd.underlying45, MapKept.run_getObj_map h, hk, MapKept.run_findKey Tryd.underlying5 hf, Result.andThen, Tryd.zeroValue21]
/-- the map is handed back -/
def AmEnds (w : World) (e : Ending) (w' : World) : Prop := e = .returned (.map (some w.heap.size)) ∧ Am w' w.heap.size ∧ Below w.heap.size w w'
set_option maxRecDepth 100000 in
theorem meanings_any (w : World) : Calls Tryd.prog 15 #[] w (AmEnds w) := by
  have hmm := @run_makeMap Tryd.prog
  have m1 := fun v => mput w #[] 0 34 v rfl
  have m2 := fun v => mput w #[{ key := .int .u8 34, val := .int .i32 34, born := 0 }] 1 92 v rfl
  have m3 := fun v => mput w #[{ key := .int .u8 34, val := .int .i32 34, born := 0 }, { key := .int .u8 92, val := .int .i32 92, born := 1 }] 2 47 v rfl
  have m4 := fun v => mput w #[{ key := .int .u8 34, val := .int .i32 34, born := 0 }, { key := .int .u8 92, val := .int .i32 92, born := 1 }, { key := .int .u8 47, val := .int .i32 47, born := 2 }] 3 98 v rfl
  have m5 := fun v => mput w #[{ key := .int .u8 34, val := .int .i32 34, born := 0 }, { key := .int .u8 92, val := .int .i32 92, born := 1 }, { key := .int .u8 47, val := .int .i32 47, born := 2 }, { key := .int .u8 98, val := .int .i32 8, born := 3 }] 4 102 v rfl
  have m6 := fun v => mput w #[{ key := .int .u8 34, val := .int .i32 34, born := 0 }, { key := .int .u8 92, val := .int .i32 92, born := 1 }, { key := .int .u8 47, val := .int .i32 47, born := 2 }, { key := .int .u8 98, val := .int .i32 8, born := 3 }, { key := .int .u8 102, val := .int .i32 12, born := 4 }] 5 110 v rfl
  have m7 := fun v => mput w #[{ key := .int .u8 34, val := .int .i32 34, born := 0 }, { key := .int .u8 92, val := .int .i32 92, born := 1 }, { key := .int .u8 47, val := .int .i32 47, born := 2 }, { key := .int .u8 98, val := .int .i32 8, born := 3 }, { key := .int .u8 102, val := .int .i32 12, born := 4 }, { key := .int .u8 110, val := .int .i32 10, born := 5 }] 6 114 v rfl
  have m8 := fun v => mput w #[{ key := .int .u8 34, val := .int .i32 34, born := 0 }, { key := .int .u8 92, val := .int .i32 92, born := 1 }, { key := .int .u8 47, val := .int .i32 47, born := 2 }, { key := .int .u8 98, val := .int .i32 8, born := 3 }, { key := .int .u8 102, val := .int .i32 12, born := 4 }, { key := .int .u8 110, val := .int .i32 10, born := 5 }, { key := .int .u8 114, val := .int .i32 13, born := 6 }] 7 116 v rfl
  simp only [List.push_toArray, List.nil_append, List.cons_append, Nat.zero_add, Nat.reduceAdd] at m1 m2 m3 m4 m5 m6 m7 m8
  go_enter Tryd.func15, Tryd.ntmps15
  go_wp2
  go_ret
  exact ⟨rfl, heap_alloc_new w _, ba1 _ _⟩

theorem take2_not (a : UInt8) : ¬ ([a] : Bs).take 2 = [92, 117] := by
  intro h
  have := congrArg List.length h
  simp at this
theorem idx_tb {l : Bs} {a : UInt8} {i : Nat} (h : l[i]? = some a) : ∃ hi : i < (tb l).size, (tb l)[i]'hi = a := by
  obtain ⟨hi, h2⟩ := List.getElem?_eq_some_iff.1 h
  exact ⟨by rw [tb_size]; exact hi, h2⟩
theorem idx_run {l : Bs} {a : UInt8} {i : Nat} (h : l[i]? = some a) (W : World) : (Instr.index 9 (.string (tb l)) (.int .i64 (i : Int))).run Tryd.prog W = .ok (.int .u8 (a.toNat : Int)) W := by
  obtain ⟨hi, h2⟩ := idx_tb h
  have h3 : (i : Int) < ((tb l).size : Int) := by omega
  have h4 : (0 : Int) ≤ (i : Int) := by omega
  rw [run_index_string W 9 (tb l) .i64 _ Tryd.underlying9, dif_pos ⟨h4, h3⟩]
  simp only [Int.toNat_natCast, h2]
set_option maxRecDepth 100000 in
set_option maxHeartbeats 1000000 in
theorem readEscape_any (l : Bs) (hl : l.length ≤ 1000000) (g : Nat) (w : World) (hA : Am w g) : Calls Tryd.prog 22 #[.string (tb l), .map (some g)] w (TwoEnds (escR l) w) := by
  have HP := Lib.hid (fun W => pre_tb l [92, 117] W)
  rw [pre2] at HP
  have zl : (tb l).size = l.length := tb_size l
  unfold escR
  by_cases h1 : l.take 2 = [92, 117]
  · rw [if_pos h1]
    rw [decide_eq_true h1] at HP
    have HR := Lib.hid (fun W => readPoint_any l hl W)
    obtain ⟨q, hq⟩ : ∃ q, ptR l = q := ⟨_, rfl⟩
    rw [hq] at HR ⊢
    obtain ⟨q1, q2⟩ := q
    clear hq h1 hA hl
    go_enter Tryd.func22, Tryd.ntmps22
    go_wp2_with fail
    refine (HP.out _).mono ?_
    rintro e w1 ⟨rfl, rfl⟩
    go_wp2_with fail
    refine (HR.out _).mono ?_
    rintro e w2 ⟨rfl, hw⟩
    cases hw
    go_wp2
    refine bodyPost_ret (v := .tuple #[.int .i32 (q1 : Int), .int .i64 (q2 : Int)]) (by simp [results, Tryd.results22, go_sem]) rfl ?_
    exact ⟨rfl, rfl⟩
  · rw [if_neg h1]
    rw [decide_eq_false h1] at HP
    clear h1
    match l, zl, hl, HP with
    | [], zl, hl, HP =>
      have h2 : ((([] : Bs).length : Nat) : Int) < 2 := by decide
      go_enter Tryd.func22, Tryd.ntmps22
      go_wp2_with fail
      refine (HP.out _).mono ?_
      rintro e w1 ⟨rfl, rfl⟩
      go_wp2
      refine bodyPost_ret (v := .tuple #[.int .i32 0, .int .i64 0]) (by simp [results, Tryd.results22, go_sem]) rfl ?_
      exact ⟨rfl, rfl⟩
    | [a], zl, hl, HP =>
      go_enter Tryd.func22, Tryd.ntmps22
      go_wp2_with fail
      refine (HP.out _).mono ?_
      rintro e w1 ⟨rfl, rfl⟩
      go_wp2
      refine bodyPost_ret (v := .tuple #[.int .i32 0, .int .i64 0]) (by simp [results, Tryd.results22, go_sem]) rfl ?_
      exact ⟨rfl, rfl⟩
    | a :: e :: r, zl, hl, HP =>
      obtain ⟨S, hS⟩ : ∃ S, tb (a :: e :: r) = S := ⟨_, rfl⟩
      have hix : ∀ W, (Instr.index 9 (.string S) (.int .i64 1)).run Tryd.prog W = .ok (.int .u8 (e.toNat : Int)) W := fun W => by rw [← hS]; exact idx_run (l := a :: e :: r) (i := 1) rfl W
      rw [hS] at HP zl ⊢
      have h2 : ¬ (S.size : Int) < 2 := by rw [zl]; simp only [List.length_cons]; omega
      have h2b : (1 : Int) < (S.size : Int) := by omega
      clear hS zl hl
      simp only
      cases hc : escC e with
      | none =>
        have HLk := fun W (hW : Am W g) => lk_no hW e hc
        clear hc
        go_enter Tryd.func22, Tryd.ntmps22
        go_wp2_with fail
        refine (HP.out _).mono ?_
        rintro e' w1 ⟨rfl, rfl⟩
        have hlk := HLk _ hA
        clear HLk
        go_wp2
        refine bodyPost_ret (v := .tuple #[.int .i32 0, .int .i64 0]) (by simp [results, Tryd.results22, go_sem]) rfl ?_
        exact ⟨rfl, rfl⟩
      | some c =>
        have HLk := fun W (hW : Am W g) => lk_ok hW e c hc
        clear hc
        go_enter Tryd.func22, Tryd.ntmps22
        go_wp2_with fail
        refine (HP.out _).mono ?_
        rintro e' w1 ⟨rfl, rfl⟩
        have hlk := HLk _ hA
        clear HLk
        go_wp2
        refine bodyPost_ret (v := .tuple #[.int .i32 (c.toNat : Int), .int .i64 2]) (by simp [results, Tryd.results22, go_sem]) rfl ?_
        exact ⟨rfl, rfl⟩
end Go.Proofs.YtmogeehhlfjlcaaDoor
