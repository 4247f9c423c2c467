/-
  The walks of quote's own broken, point, readPoint, meanings, readEscape, read.
-/
import Derived.Test.YtnkhghjcfhpeiaaGreatDoorJQn
import Derived.Test.YtnkhghjcfhpeiaaGreatDoorShelf
import Derived.Test.YtnkhghjcfhpeiaaGreatDoorJWords
import Derived.Deep.RegionLaw
namespace Go.Proofs.YtnkhghjcfhpeiaaGreatDoor
open Go.RowKit

theorem pre_tb (l p : Bs) (w : World) : Calls Tryz.prog 90 #[.string (tb l), .string (tb p)] w (fun e w' => e = .returned (.bool (Lib.hasPrefix l p)) ∧ w' = w) := sh_HasPrefix (tb l) (tb p) w

set_option maxHeartbeats 400000 in
theorem broken_any (l : Bs) (w : World) : Calls Tryz.prog 96 #[.string (tb l), .int .i32 ((decR l).1 : Int)] w (fun e w' => e = .returned (.bool (decide (wid l = 0))) ∧ w' = w) := by
  have hbr := broken_is (l := l)
  have HP := Lib.hid (fun W => pre_tb l [239, 191, 189] W)
  obtain ⟨q, hq⟩ : ∃ q, Lib.hasPrefix l [239, 191, 189] = q := ⟨_, rfl⟩
  obtain ⟨d, hd⟩ : ∃ d, decide (wid l = 0) = d := ⟨_, rfl⟩
  obtain ⟨n, hn⟩ : ∃ n, (decR l).1 = n := ⟨_, rfl⟩
  rw [hq] at HP hbr
  rw [hn] at hbr ⊢
  rw [hd]
  clear hq hn
  by_cases h1 : n = 65533
  · subst h1
    have hqd : d = !q := by
      rw [← hd]
      cases q with
      | true => exact decide_eq_false (fun h => by have := (hbr.2 h).2; cases this)
      | false => exact decide_eq_true (hbr.1 ⟨rfl, rfl⟩)
    subst hqd
    clear hbr hd
    go_enter Tryz.func96, Tryz.ntmps96
    go_wp2_with fail
    refine (HP.out _).mono ?_
    rintro e w1 ⟨rfl, rfl⟩
    go_wp2
    go_ret
    exact ⟨rfl, rfl⟩
  · have hdf : d = false := by
      rw [← hd]
      exact decide_eq_false (fun h => h1 (hbr.2 h).1)
    subst hdf
    have h2 : ¬ (n : Int) = 65533 := by omega
    clear hbr hd HP
    go_enter Tryz.func96, Tryz.ntmps96
    go_wp2
    go_ret
    exact ⟨rfl, rfl⟩

theorem cut_tb (l p : Bs) (w : World) : Calls Tryz.prog 104 #[.string (tb l), .string (tb p)] w (fun e w' => e = .returned (.tuple #[.string (tb (Lib.trimPrefix l p)), .bool (Lib.hasPrefix l p)]) ∧ w' = w) := sh_CutPrefix (tb l) (tb p) w
theorem parse_tb (l : Bs) (w : World) (hl : l.length ≤ 4) : Calls Tryz.prog 152 #[.string (tb l), .int .i64 16] w (fun e w' => e = .returned (.tuple #[.int .i64 (parseN l 16).1, .int .i64 (parseN l 16).2]) ∧ w' = w) := Nm.parse_any (tb l) 16 w (by rw [tb_size]; unfold maxLen; omega)
theorem pre2 (l : Bs) (a b : UInt8) : Lib.hasPrefix l [a, b] = decide (l.take 2 = [a, b]) := by
  rw [Bool.eq_iff_iff, pre_iff, decide_eq_true_eq]
  constructor
  · rintro ⟨r, rfl⟩; rfl
  · exact fun h => ⟨_, take2 h⟩

/-- the code point that an escape tells, and whether there is one -/
def PtEnds (o : Option Nat) (w : World) (e : Ending) (w' : World) : Prop := e = .returned (.tuple #[.int .i32 ((o.getD 0 : Nat) : Int), .bool o.isSome]) ∧ w' = w
set_option maxHeartbeats 400000 in
theorem point_any (l : Bs) (hl : l.length ≤ 1000000) (w : World) : Calls Tryz.prog 146 #[.string (tb l)] w (PtEnds (ptL l) w) := by
  have HC := Lib.hid (fun W => cut_tb l [92, 117] W)
  rw [pre2] at HC
  unfold ptL
  by_cases h1 : l.take 2 = [92, 117]
  · rw [if_pos h1]
    obtain ⟨r, hr⟩ : ∃ r, l.drop 2 = r := ⟨_, rfl⟩
    have ht : Lib.trimPrefix l [92, 117] = r := by
      unfold Lib.trimPrefix
      rw [pre2, decide_eq_true h1]
      exact hr
    have hrl : r.length ≤ 1000000 := by rw [← hr, List.length_drop]; omega
    rw [ht, decide_eq_true h1] at HC
    rw [hr]
    have zr : (tb r).size = r.length := tb_size r
    clear h1 ht hr hl
    by_cases h4 : r.length < 4
    · have hn : hex4 r = none := by
        cases hh : hex4 r with
        | none => rfl
        | some n => have := (hex4_lt hh).2; omega
      rw [hn]
      have h4i : (r.length : Int) < 4 := by omega
      go_enter Tryz.func146, Tryz.ntmps146
      go_wp2_with fail
      refine (HC.out _).mono ?_
      rintro e w1 ⟨rfl, rfl⟩
      go_wp2
      refine bodyPost_ret (v := .tuple #[.int .i32 0, .bool false]) (by simp [results, Tryz.results146, go_sem]) rfl ?_
      exact ⟨rfl, rfl⟩
    · have h4i : ¬ (r.length : Int) < 4 := by omega
      have hp4 := parse4 (l := r) (by omega)
      have HP := Lib.hid (fun W => parse_tb (r.take 4) W (by rw [List.length_take]; omega))
      have hx : (tb r).extract 0 4 = tb (r.take 4) := by rw [tb_ext]; rfl
      rw [hp4] at HP
      clear hp4
      cases h5 : hex4 r with
      | none =>
        rw [h5] at HP
        go_enter Tryz.func146, Tryz.ntmps146
        go_wp2_with fail
        refine (HC.out _).mono ?_
        rintro e w1 ⟨rfl, rfl⟩
        go_wp2_with fail
        refine (HP.out _).mono ?_
        rintro e w2 ⟨rfl, rfl⟩
        go_wp2
        refine bodyPost_ret (v := .tuple #[.int .i32 0, .bool false]) (by simp [results, Tryz.results146, go_sem]) rfl ?_
        exact ⟨rfl, rfl⟩
      | some n =>
        rw [h5] at HP
        have hn := (hex4_lt h5).1
        clear h5
        have hwr : IntKind.i32.wrap (n : Int) = (n : Int) := IntWalk.i32_in _ (by omega)
        go_enter Tryz.func146, Tryz.ntmps146
        go_wp2_with fail
        refine (HC.out _).mono ?_
        rintro e w1 ⟨rfl, rfl⟩
        go_wp2_with fail
        refine (HP.out _).mono ?_
        rintro e w2 ⟨rfl, rfl⟩
        go_wp2
        refine bodyPost_ret (v := .tuple #[.int .i32 (n : Int), .bool true]) (by simp [results, Tryz.results146, go_sem]) rfl ?_
        exact ⟨rfl, rfl⟩
  · rw [if_neg h1]
    rw [decide_eq_false h1] at HC
    clear h1
    go_enter Tryz.func146, Tryz.ntmps146
    go_wp2_with fail
    refine (HC.out _).mono ?_
    rintro e w1 ⟨rfl, rfl⟩
    go_wp2
    refine bodyPost_ret (v := .tuple #[.int .i32 0, .bool false]) (by simp [results, Tryz.results146, go_sem]) rfl ?_
    exact ⟨rfl, rfl⟩
end Go.Proofs.YtnkhghjcfhpeiaaGreatDoor

/-
  The walks of quote's own readPoint, meanings, readEscape, read.
-/
namespace Go.Proofs.YtnkhghjcfhpeiaaGreatDoor
open Go.RowKit

/-- a code point (none: 0) and how many bytes it takes -/
def TwoEnds (q : Nat × Nat) (w : World) (e : Ending) (w' : World) : Prop := e = .returned (.tuple #[.int .i32 (q.1 : Int), .int .i64 (q.2 : Int)]) ∧ w' = w
set_option maxRecDepth 100000 in
set_option maxHeartbeats 2000000 in
theorem readPoint_any (l : Bs) (hl : l.length ≤ 1000000) (w : World) : Calls Tryz.prog 134 #[.string (tb l)] w (TwoEnds (ptR l) w) := by
  have HA := Lib.hid (fun W => point_any l hl W)
  have zl : (tb l).size = l.length := tb_size l
  unfold ptR
  cases h1 : ptL l with
  | none =>
    rw [h1] at HA
    go_enter Tryz.func134, Tryz.ntmps134
    go_wp2_with fail
    refine (HA.out _).mono ?_
    rintro e w1 ⟨rfl, hw⟩
    cases hw
    go_wp2
    refine bodyPost_ret (v := .tuple #[.int .i32 0, .int .i64 0]) (by simp [results, Tryz.results134, go_sem]) rfl ?_
    exact ⟨rfl, rfl⟩
  | some n =>
    rw [h1] at HA
    obtain ⟨g1, g2, _⟩ := pt_good h1
    clear h1
    have HA2 : Hid (∀ W, Calls Tryz.prog 146 #[.string (tb l)] W (fun e w' => e = .returned (.tuple #[.int .i32 (n : Int), .bool true]) ∧ w' = W)) := HA
    clear HA
    simp only
    by_cases c1 : n < 55296
    · rw [if_pos (.inl c1)]
      have c1i : (n : Int) < 55296 := by omega
      go_enter Tryz.func134, Tryz.ntmps134
      go_wp2_with fail
      refine (HA2.out _).mono ?_
      rintro e w1 ⟨rfl, hw⟩
      cases hw
      go_wp2
      refine bodyPost_ret (v := .tuple #[.int .i32 (n : Int), .int .i64 6]) (by simp [results, Tryz.results134, go_sem]) rfl ?_
      exact ⟨rfl, rfl⟩
    · have c1i : ¬ (n : Int) < 55296 := by omega
      by_cases c2 : 57344 ≤ n
      · rw [if_pos (.inr c2)]
        have c2i : (57344 : Int) ≤ (n : Int) := by omega
        go_enter Tryz.func134, Tryz.ntmps134
        go_wp2_with fail
        refine (HA2.out _).mono ?_
        rintro e w1 ⟨rfl, hw⟩
        cases hw
        go_wp2
        refine bodyPost_ret (v := .tuple #[.int .i32 (n : Int), .int .i64 6]) (by simp [results, Tryz.results134, go_sem]) rfl ?_
        exact ⟨rfl, rfl⟩
      · have c2i : ¬ (57344 : Int) ≤ (n : Int) := by omega
        rw [if_neg (by omega)]
        have hx : (tb l).extract 6 (tb l).size = tb (l.drop 6) := by rw [tb_ext, tb_size, List.take_length]
        rw [zl] at hx
        have h6 : (6 : Int) ≤ (l.length : Int) := by omega
        have HB := Lib.hid (fun W => point_any (l.drop 6) (by rw [List.length_drop]; omega) W)
        obtain ⟨o, ho⟩ : ∃ o, ptL (l.drop 6) = o := ⟨_, rfl⟩
        have hom : ∀ m, o = some m → m < 65536 := fun m hm => (pt_good (ho.trans hm)).1
        rw [ho] at HB ⊢
        clear ho g2
        have HC1 := Lib.hid c1
        have HC2 := Lib.hid c2
        clear c1 c2
        cases o with
        | none =>
          have HB2 : Hid (∀ W, Calls Tryz.prog 146 #[.string (tb (l.drop 6))] W (fun e w' => e = .returned (.tuple #[.int .i32 0, .bool false]) ∧ w' = W)) := HB
          clear HB hom g1 hl
          simp only
          have HE : Hid (TwoEnds (0, 0) w (.returned (.tuple #[.int .i32 0, .int .i64 0])) w) := Lib.hid ⟨rfl, rfl⟩
          generalize (n : Int) = z at *
          go_enter Tryz.func134, Tryz.ntmps134
          go_wp2_with fail
          refine (HA2.out _).mono ?_
          rintro e w1 ⟨rfl, hw⟩
          cases hw
          go_wp2_with fail
          refine (HB2.out _).mono ?_
          rintro e w2 ⟨rfl, hw⟩
          cases hw
          go_wp2
          refine bodyPost_ret (v := .tuple #[.int .i32 0, .int .i64 0]) (by simp [results, Tryz.results134, go_sem]) rfl ?_
          exact HE.out
        | some m =>
          have HB2 : Hid (∀ W, Calls Tryz.prog 146 #[.string (tb (l.drop 6))] W (fun e w' => e = .returned (.tuple #[.int .i32 (m : Int), .bool true]) ∧ w' = W)) := HB
          have hm := hom m rfl
          clear HB hom
          simp only
          have key : ∀ (q : Nat × Nat), (56320 ≤ n → q = (0, 0)) → (¬ 56320 ≤ n → m < 56320 → q = (0, 0)) → (¬ 56320 ≤ n → ¬ m < 56320 → 57344 ≤ m → q = (0, 0)) → (¬ 56320 ≤ n → ¬ m < 56320 → ¬ 57344 ≤ m → q = (65536 + (n - 55296) * 1024 + m - 56320, 12)) → Calls Tryz.prog 134 #[.string (tb l)] w (TwoEnds q w) := by
            intro q k1 k2 k3 k4
            have c1 := HC1.out
            have c2 := HC2.out
            clear HC1 HC2
            have HE : Hid (TwoEnds (0, 0) w (.returned (.tuple #[.int .i32 0, .int .i64 0])) w) := Lib.hid ⟨rfl, rfl⟩
            by_cases d1 : 56320 ≤ n
            · rw [k1 d1]
              have d1i : (56320 : Int) ≤ (n : Int) := by omega
              clear k1 k2 k3 k4 hm g1 hl d1 c1 c2
              generalize (n : Int) = z at *
              generalize (m : Int) = y at *
              go_enter Tryz.func134, Tryz.ntmps134
              go_wp2_with fail
              refine (HA2.out _).mono ?_
              rintro e w1 ⟨rfl, hw⟩
              cases hw
              go_wp2_with fail
              refine (HB2.out _).mono ?_
              rintro e w2 ⟨rfl, hw⟩
              cases hw
              go_wp2
              refine bodyPost_ret (v := .tuple #[.int .i32 0, .int .i64 0]) (by simp [results, Tryz.results134, go_sem]) rfl ?_
              exact HE.out
            · have d1i : ¬ (56320 : Int) ≤ (n : Int) := by omega
              by_cases d2 : m < 56320
              · rw [k2 d1 d2]
                have d2i : (m : Int) < 56320 := by omega
                clear k1 k2 k3 k4 hm g1 hl d1 d2 c1 c2
                generalize (n : Int) = z at *
                generalize (m : Int) = y at *
                go_enter Tryz.func134, Tryz.ntmps134
                go_wp2_with fail
                refine (HA2.out _).mono ?_
                rintro e w1 ⟨rfl, hw⟩
                cases hw
                go_wp2_with fail
                refine (HB2.out _).mono ?_
                rintro e w2 ⟨rfl, hw⟩
                cases hw
                go_wp2
                refine bodyPost_ret (v := .tuple #[.int .i32 0, .int .i64 0]) (by simp [results, Tryz.results134, go_sem]) rfl ?_
                exact HE.out
              · have d2i : ¬ (m : Int) < 56320 := by omega
                by_cases d3 : 57344 ≤ m
                · rw [k3 d1 d2 d3]
                  have d3i : (57344 : Int) ≤ (m : Int) := by omega
                  clear k1 k2 k3 k4 hm g1 hl d1 d2 d3 c1 c2
                  generalize (n : Int) = z at *
                  generalize (m : Int) = y at *
                  go_enter Tryz.func134, Tryz.ntmps134
                  go_wp2_with fail
                  refine (HA2.out _).mono ?_
                  rintro e w1 ⟨rfl, hw⟩
                  cases hw
                  go_wp2_with fail
                  refine (HB2.out _).mono ?_
                  rintro e w2 ⟨rfl, hw⟩
                  cases hw
                  go_wp2
                  refine bodyPost_ret (v := .tuple #[.int .i32 0, .int .i64 0]) (by simp [results, Tryz.results134, go_sem]) rfl ?_
                  exact HE.out
                · rw [k4 d1 d2 d3]
                  have d3i : ¬ (57344 : Int) ≤ (m : Int) := by omega
                  obtain ⟨R, hR⟩ : ∃ R, 65536 + (n - 55296) * 1024 + m - 56320 = R := ⟨_, rfl⟩
                  rw [hR]
                  have v1 : IntKind.i32.wrap ((n : Int) - 55296) = (n : Int) - 55296 := IntWalk.i32_in _ (by omega)
                  have v2 : IntKind.i32.wrap (((n : Int) - 55296) * 1024) = ((n : Int) - 55296) * 1024 := IntWalk.i32_in _ (by omega)
                  have v3 : IntKind.i32.wrap (65536 + ((n : Int) - 55296) * 1024) = 65536 + ((n : Int) - 55296) * 1024 := IntWalk.i32_in _ (by omega)
                  have v4 : IntKind.i32.wrap (65536 + ((n : Int) - 55296) * 1024 + (m : Int)) = 65536 + ((n : Int) - 55296) * 1024 + (m : Int) := IntWalk.i32_in _ (by omega)
                  have v5 : IntKind.i32.wrap (65536 + ((n : Int) - 55296) * 1024 + (m : Int) - 56320) = (R : Int) := by rw [IntWalk.i32_in _ (by omega)]; omega
                  have HE2 : Hid (TwoEnds (R, 12) w (.returned (.tuple #[.int .i32 (R : Int), .int .i64 12])) w) := Lib.hid ⟨rfl, rfl⟩
                  clear k1 k2 k3 k4 hm g1 hl d1 d2 d3 c1 c2 hR HE
                  generalize (n : Int) = z at *
                  generalize (m : Int) = y at *
                  generalize (R : Int) = x at *
                  go_enter Tryz.func134, Tryz.ntmps134
                  go_wp2_with fail
                  refine (HA2.out _).mono ?_
                  rintro e w1 ⟨rfl, hw⟩
                  cases hw
                  go_wp2_with fail
                  refine (HB2.out _).mono ?_
                  rintro e w2 ⟨rfl, hw⟩
                  cases hw
                  go_wp2
                  refine bodyPost_ret (v := .tuple #[.int .i32 x, .int .i64 12]) (by simp [results, Tryz.results134, go_sem]) rfl ?_
                  exact HE2.out
          refine key _ (fun h => if_pos (.inl h)) (fun _ h => if_pos (.inr (.inl h))) (fun _ _ h => if_pos (.inr (.inr h))) (fun h1 h2 h3 => if_neg (by have := HC1.out; have := HC2.out; omega))
end Go.Proofs.YtnkhghjcfhpeiaaGreatDoor

/-
  The walks of quote's own meanings, readEscape, read.
-/
namespace Go.Proofs.YtnkhghjcfhpeiaaGreatDoor
open Go.RowKit

theorem push_set {α : Type} (a : Array α) (o o' : α) : (a.push o).setIfInBounds a.size o' = a.push o' := by
  apply Array.ext_getElem?
  intro i
  rw [Array.getElem?_setIfInBounds, Array.getElem?_push, Array.getElem?_push]
  by_cases h : a.size = i
  · subst h; simp
  · rw [if_neg h, if_neg (fun e => h e.symm), if_neg (fun e => h e.symm)]
theorem alloc_set (w : World) (o o' : Obj) : { (w.alloc o) with heap := (w.alloc o).heap.setIfInBounds w.heap.size o' } = w.alloc o' := by
  unfold World.alloc
  show World.mk _ _ _ _ _ = World.mk _ _ _ _ _
  rw [push_set]
theorem mput (w : World) (es : Array MapEntry) (n : Nat) (k : Int) (v : Value) (hf : Instr.findNow (.int .u8) (.int .u8 k) es.toList 0 = some none) : (Instr.mapUpdate 124 (.map (some w.heap.size)) (.int .u8 k) v).run Tryz.prog (w.alloc (.map es n)) = .ok () (w.alloc (.map (es.push { key := .int .u8 k, val := v, born := n }) (n + 1))) := by
  have hb : (w.alloc (.map es n)).heap[w.heap.size]? = some (.map es n) := heap_alloc_new w _
  have hc : (Instr.checkKey false 10000 5 (.int .u8 k)).run Tryz.prog (w.alloc (.map es n)) = .ok () (w.alloc (.map es n)) := MapKept.run_checkKey (k := .int .u8 k) Tryz.underlying5 (by simp [MapKept.IsKey]) false 9999
  simp [Instr.mapUpdate, run_underlying Tryz.underlying124, MapKept.run_getObj_map hb, hc, MapKept.run_findKey Tryz.underlying5 hf, MapKept.run_setObj_map _ hb, Result.andThen]
  exact alloc_set _ _ _
/-- the meanings of the escapes of one byte -/
def KE : Array MapEntry := #[{ key := .int .u8 34, val := .int .i32 34, born := 0 }, { key := .int .u8 92, val := .int .i32 92, born := 1 }, { key := .int .u8 47, val := .int .i32 47, born := 2 }, { key := .int .u8 98, val := .int .i32 8, born := 3 }, { key := .int .u8 102, val := .int .i32 12, born := 4 }, { key := .int .u8 110, val := .int .i32 10, born := 5 }, { key := .int .u8 114, val := .int .i32 13, born := 6 }, { key := .int .u8 116, val := .int .i32 9, born := 7 }]
def Am (W : World) (g : Nat) : Prop := W.heap[g]? = some (.map KE 8)
theorem Am.low {W W' : World} {g B : Nat} (h : Am W g) (hg : g < B) (hb : Below B W W') : Am W' g := (hb.block g hg).trans h
theorem find_yes : ∀ e : UInt8, ∀ c, escC e = some c → ∃ i, Instr.findNow (.int .u8) (.int .u8 (e.toNat : Int)) KE.toList 0 = some (some (i, .int .i32 (c.toNat : Int))) := by
  intro e c h
  unfold escC at h
  repeat' split at h
  all_goals first
    | (rename_i he; subst he; cases h; exact ⟨_, rfl⟩)
    | cases h
theorem find_no (e : UInt8) (h : escC e = none) : Instr.findNow (.int .u8) (.int .u8 (e.toNat : Int)) KE.toList 0 = some none := by
  have hne : ∀ m : UInt8, e ≠ m → ¬ (m.toNat : Int) = (e.toNat : Int) := fun m hm hh => hm (UInt8.toNat_inj.1 (by omega))
  unfold escC at h
  repeat' split at h
  all_goals first
    | cases h
    | skip
  rename_i h1 h2 h3 h4 h5 h6 h7 h8
  have k1 := hne 34 h1
  have k2 := hne 92 h2
  have k3 := hne 47 h3
  have k4 := hne 98 h4
  have k5 := hne 102 h5
  have k6 := hne 110 h6
  have k7 := hne 114 h7
  have k8 := hne 116 h8
  simp only [show (34 : UInt8).toNat = 34 from rfl, show (92 : UInt8).toNat = 92 from rfl, show (47 : UInt8).toNat = 47 from rfl, show (98 : UInt8).toNat = 98 from rfl, show (102 : UInt8).toNat = 102 from rfl, show (110 : UInt8).toNat = 110 from rfl, show (114 : UInt8).toNat = 114 from rfl, show (116 : UInt8).toNat = 116 from rfl] at k1 k2 k3 k4 k5 k6 k7 k8
  clear h1 h2 h3 h4 h5 h6 h7 h8 hne
  generalize (e.toNat : Int) = z at *
  unfold KE
  have q1 : (z == 34) = false := beq_eq_false_iff_ne.2 (by omega)
  have q2 : (z == 92) = false := beq_eq_false_iff_ne.2 (by omega)
  have q3 : (z == 47) = false := beq_eq_false_iff_ne.2 (by omega)
  have q4 : (z == 98) = false := beq_eq_false_iff_ne.2 (by omega)
  have q5 : (z == 102) = false := beq_eq_false_iff_ne.2 (by omega)
  have q6 : (z == 110) = false := beq_eq_false_iff_ne.2 (by omega)
  have q7 : (z == 114) = false := beq_eq_false_iff_ne.2 (by omega)
  have q8 : (z == 116) = false := beq_eq_false_iff_ne.2 (by omega)
  simp [Instr.findNow, Instr.sameNow, q1, q2, q3, q4, q5, q6, q7, q8]
theorem lk_ok {W : World} {g : Nat} (h : Am W g) (e c : UInt8) (hc : escC e = some c) : (Instr.lookup 124 (.map (some g)) (.int .u8 (e.toNat : Int)) true).run Tryz.prog W = .ok (.tuple #[.int .i32 (c.toNat : Int), .bool true]) W := by
  obtain ⟨i, hf⟩ := find_yes e c hc
  have hk : ∀ q, (Instr.checkKey q 10000 5 (.int .u8 (e.toNat : Int))).run Tryz.prog W = .ok () W := fun q => MapKept.run_checkKey (k := .int .u8 (e.toNat : Int)) Tryz.underlying5 (by simp [MapKept.IsKey]) q 9999
  simp [Instr.lookup, run_underlying Tryz.underlying124, MapKept.run_getObj_map h, hk, MapKept.run_findKey Tryz.underlying5 hf, Result.andThen]
theorem lk_no {W : World} {g : Nat} (h : Am W g) (e : UInt8) (hc : escC e = none) : (Instr.lookup 124 (.map (some g)) (.int .u8 (e.toNat : Int)) true).run Tryz.prog W = .ok (.tuple #[.int .i32 0, .bool false]) W := by
  have hf := find_no e hc
  have hk : ∀ q, (Instr.checkKey q 10000 5 (.int .u8 (e.toNat : Int))).run Tryz.prog W = .ok () W := fun q => MapKept.run_checkKey (k := .int .u8 (e.toNat : Int)) Tryz.underlying5 (by simp [MapKept.IsKey]) q 9999
  simp [Instr.lookup, run_underlying Tryz.underlying124, MapKept.run_getObj_map h, hk, MapKept.run_findKey Tryz.underlying5 hf, Result.andThen, Tryz.zeroValue21]
/-- the map is handed back -/
def AmEnds (w : World) (e : Ending) (w' : World) : Prop := e = .returned (.map (some w.heap.size)) ∧ Am w' w.heap.size ∧ Below w.heap.size w w'
set_option maxRecDepth 100000 in
theorem meanings_any (w : World) : Calls Tryz.prog 107 #[] w (AmEnds w) := by
  have hmm := @run_makeMap Tryz.prog
  have m1 := fun v => mput w #[] 0 34 v rfl
  have m2 := fun v => mput w #[{ key := .int .u8 34, val := .int .i32 34, born := 0 }] 1 92 v rfl
  have m3 := fun v => mput w #[{ key := .int .u8 34, val := .int .i32 34, born := 0 }, { key := .int .u8 92, val := .int .i32 92, born := 1 }] 2 47 v rfl
  have m4 := fun v => mput w #[{ key := .int .u8 34, val := .int .i32 34, born := 0 }, { key := .int .u8 92, val := .int .i32 92, born := 1 }, { key := .int .u8 47, val := .int .i32 47, born := 2 }] 3 98 v rfl
  have m5 := fun v => mput w #[{ key := .int .u8 34, val := .int .i32 34, born := 0 }, { key := .int .u8 92, val := .int .i32 92, born := 1 }, { key := .int .u8 47, val := .int .i32 47, born := 2 }, { key := .int .u8 98, val := .int .i32 8, born := 3 }] 4 102 v rfl
  have m6 := fun v => mput w #[{ key := .int .u8 34, val := .int .i32 34, born := 0 }, { key := .int .u8 92, val := .int .i32 92, born := 1 }, { key := .int .u8 47, val := .int .i32 47, born := 2 }, { key := .int .u8 98, val := .int .i32 8, born := 3 }, { key := .int .u8 102, val := .int .i32 12, born := 4 }] 5 110 v rfl
  have m7 := fun v => mput w #[{ key := .int .u8 34, val := .int .i32 34, born := 0 }, { key := .int .u8 92, val := .int .i32 92, born := 1 }, { key := .int .u8 47, val := .int .i32 47, born := 2 }, { key := .int .u8 98, val := .int .i32 8, born := 3 }, { key := .int .u8 102, val := .int .i32 12, born := 4 }, { key := .int .u8 110, val := .int .i32 10, born := 5 }] 6 114 v rfl
  have m8 := fun v => mput w #[{ key := .int .u8 34, val := .int .i32 34, born := 0 }, { key := .int .u8 92, val := .int .i32 92, born := 1 }, { key := .int .u8 47, val := .int .i32 47, born := 2 }, { key := .int .u8 98, val := .int .i32 8, born := 3 }, { key := .int .u8 102, val := .int .i32 12, born := 4 }, { key := .int .u8 110, val := .int .i32 10, born := 5 }, { key := .int .u8 114, val := .int .i32 13, born := 6 }] 7 116 v rfl
  simp only [List.push_toArray, List.nil_append, List.cons_append, Nat.zero_add, Nat.reduceAdd] at m1 m2 m3 m4 m5 m6 m7 m8
  go_enter Tryz.func107, Tryz.ntmps107
  go_wp2
  go_ret
  exact ⟨rfl, heap_alloc_new w _, ba1 _ _⟩

theorem take2_not (a : UInt8) : ¬ ([a] : Bs).take 2 = [92, 117] := by
  intro h
  have := congrArg List.length h
  simp at this
theorem idx_tb {l : Bs} {a : UInt8} {i : Nat} (h : l[i]? = some a) : ∃ hi : i < (tb l).size, (tb l)[i]'hi = a := by
  obtain ⟨hi, h2⟩ := List.getElem?_eq_some_iff.1 h
  exact ⟨by rw [tb_size]; exact hi, h2⟩
theorem idx_run {l : Bs} {a : UInt8} {i : Nat} (h : l[i]? = some a) (W : World) : (Instr.index 9 (.string (tb l)) (.int .i64 (i : Int))).run Tryz.prog W = .ok (.int .u8 (a.toNat : Int)) W := by
  obtain ⟨hi, h2⟩ := idx_tb h
  have h3 : (i : Int) < ((tb l).size : Int) := by omega
  have h4 : (0 : Int) ≤ (i : Int) := by omega
  rw [run_index_string W 9 (tb l) .i64 _ Tryz.underlying9, dif_pos ⟨h4, h3⟩]
  simp only [Int.toNat_natCast, h2]
set_option maxRecDepth 100000 in
set_option maxHeartbeats 1000000 in
theorem readEscape_any (l : Bs) (hl : l.length ≤ 1000000) (g : Nat) (w : World) (hA : Am w g) : Calls Tryz.prog 124 #[.string (tb l), .map (some g)] w (TwoEnds (escR l) w) := by
  have HP := Lib.hid (fun W => pre_tb l [92, 117] W)
  rw [pre2] at HP
  have zl : (tb l).size = l.length := tb_size l
  unfold escR
  by_cases h1 : l.take 2 = [92, 117]
  · rw [if_pos h1]
    rw [decide_eq_true h1] at HP
    have HR := Lib.hid (fun W => readPoint_any l hl W)
    obtain ⟨q, hq⟩ : ∃ q, ptR l = q := ⟨_, rfl⟩
    rw [hq] at HR ⊢
    obtain ⟨q1, q2⟩ := q
    clear hq h1 hA hl
    go_enter Tryz.func124, Tryz.ntmps124
    go_wp2_with fail
    refine (HP.out _).mono ?_
    rintro e w1 ⟨rfl, rfl⟩
    go_wp2_with fail
    refine (HR.out _).mono ?_
    rintro e w2 ⟨rfl, hw⟩
    cases hw
    go_wp2
    refine bodyPost_ret (v := .tuple #[.int .i32 (q1 : Int), .int .i64 (q2 : Int)]) (by simp [results, Tryz.results124, go_sem]) rfl ?_
    exact ⟨rfl, rfl⟩
  · rw [if_neg h1]
    rw [decide_eq_false h1] at HP
    clear h1
    match l, zl, hl, HP with
    | [], zl, hl, HP =>
      have h2 : ((([] : Bs).length : Nat) : Int) < 2 := by decide
      go_enter Tryz.func124, Tryz.ntmps124
      go_wp2_with fail
      refine (HP.out _).mono ?_
      rintro e w1 ⟨rfl, rfl⟩
      go_wp2
      refine bodyPost_ret (v := .tuple #[.int .i32 0, .int .i64 0]) (by simp [results, Tryz.results124, go_sem]) rfl ?_
      exact ⟨rfl, rfl⟩
    | [a], zl, hl, HP =>
      go_enter Tryz.func124, Tryz.ntmps124
      go_wp2_with fail
      refine (HP.out _).mono ?_
      rintro e w1 ⟨rfl, rfl⟩
      go_wp2
      refine bodyPost_ret (v := .tuple #[.int .i32 0, .int .i64 0]) (by simp [results, Tryz.results124, go_sem]) rfl ?_
      exact ⟨rfl, rfl⟩
    | a :: e :: r, zl, hl, HP =>
      obtain ⟨S, hS⟩ : ∃ S, tb (a :: e :: r) = S := ⟨_, rfl⟩
      have hix : ∀ W, (Instr.index 9 (.string S) (.int .i64 1)).run Tryz.prog W = .ok (.int .u8 (e.toNat : Int)) W := fun W => by rw [← hS]; exact idx_run (l := a :: e :: r) (i := 1) rfl W
      rw [hS] at HP zl ⊢
      have h2 : ¬ (S.size : Int) < 2 := by rw [zl]; simp only [List.length_cons]; omega
      have h2b : (1 : Int) < (S.size : Int) := by omega
      clear hS zl hl
      simp only
      cases hc : escC e with
      | none =>
        have HLk := fun W (hW : Am W g) => lk_no hW e hc
        clear hc
        go_enter Tryz.func124, Tryz.ntmps124
        go_wp2_with fail
        refine (HP.out _).mono ?_
        rintro e' w1 ⟨rfl, rfl⟩
        have hlk := HLk _ hA
        clear HLk
        go_wp2
        refine bodyPost_ret (v := .tuple #[.int .i32 0, .int .i64 0]) (by simp [results, Tryz.results124, go_sem]) rfl ?_
        exact ⟨rfl, rfl⟩
      | some c =>
        have HLk := fun W (hW : Am W g) => lk_ok hW e c hc
        clear hc
        go_enter Tryz.func124, Tryz.ntmps124
        go_wp2_with fail
        refine (HP.out _).mono ?_
        rintro e' w1 ⟨rfl, rfl⟩
        have hlk := HLk _ hA
        clear HLk
        go_wp2
        refine bodyPost_ret (v := .tuple #[.int .i32 (c.toNat : Int), .int .i64 2]) (by simp [results, Tryz.results124, go_sem]) rfl ?_
        exact ⟨rfl, rfl⟩
end Go.Proofs.YtnkhghjcfhpeiaaGreatDoor
