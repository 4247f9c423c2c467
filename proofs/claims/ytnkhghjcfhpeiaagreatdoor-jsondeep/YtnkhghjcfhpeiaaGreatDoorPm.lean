/-
  The program's newReader, walked.
-/
import Derived.Test.YtnkhghjcfhpeiaaGreatDoorJPj
import Derived.Shelf.LaysM
import Derived.Lib.SmallJoins
namespace Go.Proofs.YtnkhghjcfhpeiaaGreatDoor
open Go.RowKit
theorem jput (w : World) (es : Array MapEntry) (n : Nat) (k : Int) (v : Value) (hf : Instr.findNow (.int .u8) (.int .u8 k) es.toList 0 = some none) : (Instr.mapUpdate 67 (.map (some w.heap.size)) (.int .u8 k) v).run Tryz.prog (w.alloc (.map es n)) = .ok () (w.alloc (.map (es.push { key := .int .u8 k, val := v, born := n }) (n + 1))) := by
  have hb : (w.alloc (.map es n)).heap[w.heap.size]? = some (.map es n) := heap_alloc_new w _
  have hc : (Instr.checkKey false 10000 5 (.int .u8 k)).run Tryz.prog (w.alloc (.map es n)) = .ok () (w.alloc (.map es n)) := MapKept.run_checkKey (k := .int .u8 k) Tryz.underlying5 (by simp [MapKept.IsKey]) false 9999
  simp [Instr.mapUpdate, run_underlying Tryz.underlying67, MapKept.run_getObj_map hb, hc, MapKept.run_findKey Tryz.underlying5 hf, MapKept.run_setObj_map _ hb, Result.andThen]
  exact alloc_set _ _ _
def wmap (W : World) (h : Nat) (es : Array MapEntry) (n : Nat) : World := { W with heap := W.heap.setIfInBounds h (.map es n) }
theorem jputW {W : World} {h : Nat} {es : Array MapEntry} {n : Nat} (hb : W.heap[h]? = some (.map es n)) (k : Int) (v : Value) (hf : Instr.findNow (.int .u8) (.int .u8 k) es.toList 0 = some none) : (Instr.mapUpdate 67 (.map (some h)) (.int .u8 k) v).run Tryz.prog W = .ok () (wmap W h (es.push { key := .int .u8 k, val := v, born := n }) (n + 1)) := by
  have hc : (Instr.checkKey false 10000 5 (.int .u8 k)).run Tryz.prog W = .ok () W := MapKept.run_checkKey (k := .int .u8 k) Tryz.underlying5 (by simp [MapKept.IsKey]) false 9999
  simp [Instr.mapUpdate, run_underlying Tryz.underlying67, MapKept.run_getObj_map hb, hc, MapKept.run_findKey Tryz.underlying5 hf, MapKept.run_setObj_map _ hb, Result.andThen]
  rfl
/-- so many of the kinds -/
def KJn (g n : Nat) : Array MapEntry := ((KJ g).toList.take n).toArray
theorem wmap_blk (W : World) (h : Nat) (es : Array MapEntry) (n : Nat) (k : Nat) (hk : k ≠ h) : (wmap W h es n).heap[k]? = W.heap[k]? := by
  unfold wmap
  exact Array.getElem?_setIfInBounds_ne (fun e => hk e.symm)
theorem wmap_new {W : World} {h : Nat} {o : Obj} (hb : W.heap[h]? = some o) (es : Array MapEntry) (n : Nat) : (wmap W h es n).heap[h]? = some (.map es n) := by
  unfold wmap
  have := (Array.getElem?_eq_some_iff.1 hb).1
  simp [this]
/-- the digits are laid into the map -/
structure KSt (w wr : World) (g h gs : Nat) (s : Bs) (i : Nat) : Prop where
  bx : Box wr g 69 #[.string (tb s), .string (tb s), .int .i64 0, .int .i64 0, .map (some h)]
  mp : wr.heap[h]? = some (.map (KJn g (7 + i)) (7 + i))
  bs : wr.heap[gs]? = some (.cells #[.int .u8 48, .int .u8 49, .int .u8 50, .int .u8 51, .int .u8 52, .int .u8 53, .int .u8 54, .int .u8 55, .int .u8 56, .int .u8 57] 5 (10, 11))
  bw : Below g w wr
theorem KSt.next {w wr : World} {g h gs : Nat} {s : Bs} {i : Nat} (k : KSt w wr g h gs s i) (h1 : g < h) (h2 : h < gs) : KSt w (wmap wr h (KJn g (7 + (i + 1))) (7 + (i + 1))) g h gs s (i + 1) := by
  refine ⟨(wmap_blk _ _ _ _ _ (by omega)).trans k.bx, wmap_new k.mp _ _, (wmap_blk _ _ _ _ _ (by omega)).trans k.bs, ?_⟩
  exact ⟨k.bw.os, k.bw.tape, k.bw.output, by simpa [wmap] using k.bw.size, fun b hb => (wmap_blk _ _ _ _ _ (by omega)).trans (k.bw.block b hb)⟩
set_option maxRecDepth 100000 in
set_option maxHeartbeats 4000000 in
theorem newReader_any (s : Bs) (w : World) : Calls Tryz.prog 24 #[.string (tb s)] w (fun E w' => E = .returned (.pointer (some ⟨w.heap.size, 0, none⟩)) ∧ RS w' w.heap.size (w.heap.size + 1) s s 0 0 ∧ Below w.heap.size w w') := by
  have hmf : ∀ (fn : Fn) (first cap : Array Value) (w : World), (Instr.makeFunc fn first cap).run Tryz.prog w = .ok (.func fn first cap) w := fun _ _ _ _ => rfl
  have hmm := @run_makeMap Tryz.prog
  obtain ⟨g, hg⟩ : ∃ g, w.heap.size = g := ⟨_, rfl⟩
  rw [hg]
  obtain ⟨h, hh⟩ : ∃ h, g + 1 = h := ⟨_, rfl⟩
  rw [hh]
  have HB1 := Lib.hid (ba1 w (.cells #[.string (tb s), .string (tb s), .int .i64 0, .int .i64 0, .map none] 69))
  have bx := Lib.hid (Box.new w 69 #[.string (tb s), .string (tb s), .int .i64 0, .int .i64 0, .map none])
  go_enter Tryz.func24, Tryz.ntmps24
  go_upto_region 2 with fail
  have hsz : (w.alloc (.cells #[.string (tb s), .string (tb s), .int .i64 0, .int .i64 0, .map none] 69)).heap.size = g + 1 := by simp [hg]
  rw [hg] at bx HB1
  rw [hh] at hsz
  generalize w.alloc (.cells #[.string (tb s), .string (tb s), .int .i64 0, .int .i64 0, .map none] 69) = W1 at *
  have m1 := jput W1 #[] 0 110 (.func (.func 37) #[.pointer (some ⟨g, 0, none⟩)] #[]) rfl
  have m2 := jput W1 #[{ key := .int .u8 110, val := .func (.func 37) #[.pointer (some ⟨g, 0, none⟩)] #[], born := 0 }] 1 102 (.func (.func 38) #[.pointer (some ⟨g, 0, none⟩)] #[]) rfl
  have m3 := jput W1 #[{ key := .int .u8 110, val := .func (.func 37) #[.pointer (some ⟨g, 0, none⟩)] #[], born := 0 }, { key := .int .u8 102, val := .func (.func 38) #[.pointer (some ⟨g, 0, none⟩)] #[], born := 1 }] 2 116 (.func (.func 39) #[.pointer (some ⟨g, 0, none⟩)] #[]) rfl
  have m4 := jput W1 #[{ key := .int .u8 110, val := .func (.func 37) #[.pointer (some ⟨g, 0, none⟩)] #[], born := 0 }, { key := .int .u8 102, val := .func (.func 38) #[.pointer (some ⟨g, 0, none⟩)] #[], born := 1 }, { key := .int .u8 116, val := .func (.func 39) #[.pointer (some ⟨g, 0, none⟩)] #[], born := 2 }] 3 45 (.func (.func 40) #[.pointer (some ⟨g, 0, none⟩)] #[]) rfl
  have m5 := jput W1 #[{ key := .int .u8 110, val := .func (.func 37) #[.pointer (some ⟨g, 0, none⟩)] #[], born := 0 }, { key := .int .u8 102, val := .func (.func 38) #[.pointer (some ⟨g, 0, none⟩)] #[], born := 1 }, { key := .int .u8 116, val := .func (.func 39) #[.pointer (some ⟨g, 0, none⟩)] #[], born := 2 }, { key := .int .u8 45, val := .func (.func 40) #[.pointer (some ⟨g, 0, none⟩)] #[], born := 3 }] 4 34 (.func (.func 41) #[.pointer (some ⟨g, 0, none⟩)] #[]) rfl
  have m6 := jput W1 #[{ key := .int .u8 110, val := .func (.func 37) #[.pointer (some ⟨g, 0, none⟩)] #[], born := 0 }, { key := .int .u8 102, val := .func (.func 38) #[.pointer (some ⟨g, 0, none⟩)] #[], born := 1 }, { key := .int .u8 116, val := .func (.func 39) #[.pointer (some ⟨g, 0, none⟩)] #[], born := 2 }, { key := .int .u8 45, val := .func (.func 40) #[.pointer (some ⟨g, 0, none⟩)] #[], born := 3 }, { key := .int .u8 34, val := .func (.func 41) #[.pointer (some ⟨g, 0, none⟩)] #[], born := 4 }] 5 91 (.func (.func 42) #[.pointer (some ⟨g, 0, none⟩)] #[]) rfl
  have m7 := jput W1 #[{ key := .int .u8 110, val := .func (.func 37) #[.pointer (some ⟨g, 0, none⟩)] #[], born := 0 }, { key := .int .u8 102, val := .func (.func 38) #[.pointer (some ⟨g, 0, none⟩)] #[], born := 1 }, { key := .int .u8 116, val := .func (.func 39) #[.pointer (some ⟨g, 0, none⟩)] #[], born := 2 }, { key := .int .u8 45, val := .func (.func 40) #[.pointer (some ⟨g, 0, none⟩)] #[], born := 3 }, { key := .int .u8 34, val := .func (.func 41) #[.pointer (some ⟨g, 0, none⟩)] #[], born := 4 }, { key := .int .u8 91, val := .func (.func 42) #[.pointer (some ⟨g, 0, none⟩)] #[], born := 5 }] 6 123 (.func (.func 43) #[.pointer (some ⟨g, 0, none⟩)] #[]) rfl
  simp only [List.push_toArray, List.nil_append, List.cons_append, Nat.zero_add, Nat.reduceAdd] at m1 m2 m3 m4 m5 m6 m7
  obtain ⟨e7, he7⟩ : ∃ e7 : Array MapEntry, #[{ key := .int .u8 110, val := .func (.func 37) #[.pointer (some ⟨g, 0, none⟩)] #[], born := 0 }, { key := .int .u8 102, val := .func (.func 38) #[.pointer (some ⟨g, 0, none⟩)] #[], born := 1 }, { key := .int .u8 116, val := .func (.func 39) #[.pointer (some ⟨g, 0, none⟩)] #[], born := 2 }, { key := .int .u8 45, val := .func (.func 40) #[.pointer (some ⟨g, 0, none⟩)] #[], born := 3 }, { key := .int .u8 34, val := .func (.func 41) #[.pointer (some ⟨g, 0, none⟩)] #[], born := 4 }, { key := .int .u8 91, val := .func (.func 42) #[.pointer (some ⟨g, 0, none⟩)] #[], born := 5 }, { key := .int .u8 123, val := .func (.func 43) #[.pointer (some ⟨g, 0, none⟩)] #[], born := 6 }] = e7 := ⟨_, rfl⟩
  rw [he7] at m7
  rw [hsz] at m1 m2 m3 m4 m5 m6 m7
  have hb2 := ba1 W1 (.map e7 7)
  have bx2 := bx.out.up hb2
  have mp2 : (W1.alloc (.map e7 7)).heap[W1.heap.size]? = some (.map e7 7) := heap_alloc_new W1 _
  have k4 := bx2.c 4 rfl
  have f4 := bx2.f 4
  have k4' := bx.out.c 4 rfl
  have f4' := bx.out.f 4
  have BX3 := Lib.hid (bx2.set 4 (.map (some W1.heap.size)))
  have HB3 := Lib.hid ((HB1.out.trans (hb2.mono (by omega))).setCell (p := ⟨g, 4, none⟩) (by simp only; omega) (.map (some W1.heap.size)))
  have MP3 := Lib.hid ((Below.heap_setCell (W1.alloc (.map e7 7)) ⟨g, 4, none⟩ (.map (some W1.heap.size)) W1.heap.size (by simp only; omega)).trans mp2)
  have HSZ : Hid (((W1.alloc (.map e7 7)).setCell ⟨g, 4, none⟩ (.map (some W1.heap.size))).heap.size = g + 2) := Lib.hid (by simp [World.setCell, hsz]; omega)
  rw [hsz] at BX3 HB3 MP3 HSZ
  clear hb2 bx2 mp2
  go_upto_region 3 with fail
  clear m1 m2 m3 m4 m5 m6 m7 k4 f4 k4' f4' hmm
  have hKK : e7 = KJn g 7 := he7.symm
  clear he7
  generalize (W1.alloc (.map e7 7)).setCell ⟨g, 4, none⟩ (.map (some h)) = W3 at *
  have hs3 := HSZ.out
  have hcv := Lib.run_convert_bytes_const (P := Tryz.prog) W3 31 5 #[.int .u8 48, .int .u8 49, .int .u8 50, .int .u8 51, .int .u8 52, .int .u8 53, .int .u8 54, .int .u8 55, .int .u8 56, .int .u8 57] 10 10 (by kernel_rfl) (by kernel_rfl)
  rw [hs3] at hcv
  have hbs := ba1 W3 (.cells #[.int .u8 48, .int .u8 49, .int .u8 50, .int .u8 51, .int .u8 52, .int .u8 53, .int .u8 54, .int .u8 55, .int .u8 56, .int .u8 57] 5 (10, 11))
  have hS0 : KSt w (W3.alloc (.cells #[.int .u8 48, .int .u8 49, .int .u8 50, .int .u8 51, .int .u8 52, .int .u8 53, .int .u8 54, .int .u8 55, .int .u8 56, .int .u8 57] 5 (10, 11))) g h (g + 2) s 0 := by
    refine ⟨?_, ?_, ?_, HB3.out.trans (hbs.mono (by omega))⟩
    · have := BX3.out.up hbs
      simpa using this
    · rw [← hKK]
      exact (hbs.block h (Array.getElem?_eq_some_iff.1 MP3.out).1).trans MP3.out
    · rw [← hs3]
      exact heap_alloc_new W3 _
  have HS0 := Lib.hid hS0
  have HH := Lib.hid hh
  obtain ⟨gs, hgs⟩ : ∃ gs, g + 2 = gs := ⟨_, rfl⟩
  rw [hgs] at hs3 HS0 hcv
  have HGS := Lib.hid hgs
  clear hbs hS0 BX3 HB3 MP3 HSZ hsz HB1 bx hKK hh hgs
  go_wp2_with fail
  go_loopw [32] (fun e wr => ∃ (i : Nat) (z : Int), i ≤ 10 ∧ z = (i : Int) ∧ e = .int .i64 z ∧ Hid (KSt w wr g h gs s i)) (fun e _ => 10 - (intOf e).toNat)
  case atStart => exact ⟨0, 0, by omega, rfl, rfl, HS0⟩
  case round =>
    obtain ⟨i, z, hi, hz, rfl, HK⟩ := hrel
    by_cases he : i = 10
    · subst he
      obtain rfl : z = 10 := hz
      have hR : RS wr g h s s 0 0 := ⟨HK.out.bx, HK.out.mp⟩
      have HR := Lib.hid hR
      have HW := Lib.hid HK.out.bw
      clear hR HK hcv
      go_wp2
      go_ret
      exact ⟨rfl, HR.out, HW.out⟩
    · have hgh : g < h := by have := HH.out; omega
      have hhs : h < gs := by have := HH.out; have := HGS.out; omega
      have HN := Lib.hid (HK.out.next hgh hhs)
      have kr := HK.out.bx.c 4 rfl
      have hmp := HK.out.mp
      have hbs := HK.out.bs
      clear hcv hgh hhs
      rcases (show i = 0 ∨ i = 1 ∨ i = 2 ∨ i = 3 ∨ i = 4 ∨ i = 5 ∨ i = 6 ∨ i = 7 ∨ i = 8 ∨ i = 9 by omega) with rfl | rfl | rfl | rfl | rfl | rfl | rfl | rfl | rfl | rfl
      · obtain rfl : z = 0 := hz
        have kc : wr.cell? ⟨gs, 0, none⟩ = some (.int .u8 48) := by simp [World.cell?, hbs]
        have mu : (Instr.mapUpdate 67 (.map (some h)) (.int .u8 48) (.func (.func 40) #[.pointer (some ⟨g, 0, none⟩)] #[])).run Tryz.prog wr = .ok () (wmap wr h (KJn g (7 + (0 + 1))) (7 + (0 + 1))) := jputW hmp 48 (.func (.func 40) #[.pointer (some ⟨g, 0, none⟩)] #[]) rfl
        clear hmp hbs HK he hi
        go_wp2
        go_roundw
        case rel => exact ⟨1, 1, by omega, rfl, rfl, HN⟩
        case measure => simp [intOf]
      · obtain rfl : z = 1 := hz
        have kc : wr.cell? ⟨gs, 1, none⟩ = some (.int .u8 49) := by simp [World.cell?, hbs]
        have mu : (Instr.mapUpdate 67 (.map (some h)) (.int .u8 49) (.func (.func 40) #[.pointer (some ⟨g, 0, none⟩)] #[])).run Tryz.prog wr = .ok () (wmap wr h (KJn g (7 + (1 + 1))) (7 + (1 + 1))) := jputW hmp 49 (.func (.func 40) #[.pointer (some ⟨g, 0, none⟩)] #[]) rfl
        clear hmp hbs HK he hi
        go_wp2
        go_roundw
        case rel => exact ⟨2, 2, by omega, rfl, rfl, HN⟩
        case measure => simp [intOf]
      · obtain rfl : z = 2 := hz
        have kc : wr.cell? ⟨gs, 2, none⟩ = some (.int .u8 50) := by simp [World.cell?, hbs]
        have mu : (Instr.mapUpdate 67 (.map (some h)) (.int .u8 50) (.func (.func 40) #[.pointer (some ⟨g, 0, none⟩)] #[])).run Tryz.prog wr = .ok () (wmap wr h (KJn g (7 + (2 + 1))) (7 + (2 + 1))) := jputW hmp 50 (.func (.func 40) #[.pointer (some ⟨g, 0, none⟩)] #[]) rfl
        clear hmp hbs HK he hi
        go_wp2
        go_roundw
        case rel => exact ⟨3, 3, by omega, rfl, rfl, HN⟩
        case measure => simp [intOf]
      · obtain rfl : z = 3 := hz
        have kc : wr.cell? ⟨gs, 3, none⟩ = some (.int .u8 51) := by simp [World.cell?, hbs]
        have mu : (Instr.mapUpdate 67 (.map (some h)) (.int .u8 51) (.func (.func 40) #[.pointer (some ⟨g, 0, none⟩)] #[])).run Tryz.prog wr = .ok () (wmap wr h (KJn g (7 + (3 + 1))) (7 + (3 + 1))) := jputW hmp 51 (.func (.func 40) #[.pointer (some ⟨g, 0, none⟩)] #[]) rfl
        clear hmp hbs HK he hi
        go_wp2
        go_roundw
        case rel => exact ⟨4, 4, by omega, rfl, rfl, HN⟩
        case measure => simp [intOf]
      · obtain rfl : z = 4 := hz
        have kc : wr.cell? ⟨gs, 4, none⟩ = some (.int .u8 52) := by simp [World.cell?, hbs]
        have mu : (Instr.mapUpdate 67 (.map (some h)) (.int .u8 52) (.func (.func 40) #[.pointer (some ⟨g, 0, none⟩)] #[])).run Tryz.prog wr = .ok () (wmap wr h (KJn g (7 + (4 + 1))) (7 + (4 + 1))) := jputW hmp 52 (.func (.func 40) #[.pointer (some ⟨g, 0, none⟩)] #[]) rfl
        clear hmp hbs HK he hi
        go_wp2
        go_roundw
        case rel => exact ⟨5, 5, by omega, rfl, rfl, HN⟩
        case measure => simp [intOf]
      · obtain rfl : z = 5 := hz
        have kc : wr.cell? ⟨gs, 5, none⟩ = some (.int .u8 53) := by simp [World.cell?, hbs]
        have mu : (Instr.mapUpdate 67 (.map (some h)) (.int .u8 53) (.func (.func 40) #[.pointer (some ⟨g, 0, none⟩)] #[])).run Tryz.prog wr = .ok () (wmap wr h (KJn g (7 + (5 + 1))) (7 + (5 + 1))) := jputW hmp 53 (.func (.func 40) #[.pointer (some ⟨g, 0, none⟩)] #[]) rfl
        clear hmp hbs HK he hi
        go_wp2
        go_roundw
        case rel => exact ⟨6, 6, by omega, rfl, rfl, HN⟩
        case measure => simp [intOf]
      · obtain rfl : z = 6 := hz
        have kc : wr.cell? ⟨gs, 6, none⟩ = some (.int .u8 54) := by simp [World.cell?, hbs]
        have mu : (Instr.mapUpdate 67 (.map (some h)) (.int .u8 54) (.func (.func 40) #[.pointer (some ⟨g, 0, none⟩)] #[])).run Tryz.prog wr = .ok () (wmap wr h (KJn g (7 + (6 + 1))) (7 + (6 + 1))) := jputW hmp 54 (.func (.func 40) #[.pointer (some ⟨g, 0, none⟩)] #[]) rfl
        clear hmp hbs HK he hi
        go_wp2
        go_roundw
        case rel => exact ⟨7, 7, by omega, rfl, rfl, HN⟩
        case measure => simp [intOf]
      · obtain rfl : z = 7 := hz
        have kc : wr.cell? ⟨gs, 7, none⟩ = some (.int .u8 55) := by simp [World.cell?, hbs]
        have mu : (Instr.mapUpdate 67 (.map (some h)) (.int .u8 55) (.func (.func 40) #[.pointer (some ⟨g, 0, none⟩)] #[])).run Tryz.prog wr = .ok () (wmap wr h (KJn g (7 + (7 + 1))) (7 + (7 + 1))) := jputW hmp 55 (.func (.func 40) #[.pointer (some ⟨g, 0, none⟩)] #[]) rfl
        clear hmp hbs HK he hi
        go_wp2
        go_roundw
        case rel => exact ⟨8, 8, by omega, rfl, rfl, HN⟩
        case measure => simp [intOf]
      · obtain rfl : z = 8 := hz
        have kc : wr.cell? ⟨gs, 8, none⟩ = some (.int .u8 56) := by simp [World.cell?, hbs]
        have mu : (Instr.mapUpdate 67 (.map (some h)) (.int .u8 56) (.func (.func 40) #[.pointer (some ⟨g, 0, none⟩)] #[])).run Tryz.prog wr = .ok () (wmap wr h (KJn g (7 + (8 + 1))) (7 + (8 + 1))) := jputW hmp 56 (.func (.func 40) #[.pointer (some ⟨g, 0, none⟩)] #[]) rfl
        clear hmp hbs HK he hi
        go_wp2
        go_roundw
        case rel => exact ⟨9, 9, by omega, rfl, rfl, HN⟩
        case measure => simp [intOf]
      · obtain rfl : z = 9 := hz
        have kc : wr.cell? ⟨gs, 9, none⟩ = some (.int .u8 57) := by simp [World.cell?, hbs]
        have mu : (Instr.mapUpdate 67 (.map (some h)) (.int .u8 57) (.func (.func 40) #[.pointer (some ⟨g, 0, none⟩)] #[])).run Tryz.prog wr = .ok () (wmap wr h (KJn g (7 + (9 + 1))) (7 + (9 + 1))) := jputW hmp 57 (.func (.func 40) #[.pointer (some ⟨g, 0, none⟩)] #[]) rfl
        clear hmp hbs HK he hi
        go_wp2
        go_roundw
        case rel => exact ⟨10, 10, by omega, rfl, rfl, HN⟩
        case measure => simp [intOf]
end Go.Proofs.YtnkhghjcfhpeiaaGreatDoor
