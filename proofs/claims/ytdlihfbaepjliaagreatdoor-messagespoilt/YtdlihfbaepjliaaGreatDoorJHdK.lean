/-
  The walks of what is printed: head's own firstLine and the document's Text.
-/
import Derived.Test.YtdlihfbaepjliaaGreatDoorNText
import Derived.Test.YtdlihfbaepjliaaGreatDoorHdA
import Derived.Test.YtdlihfbaepjliaaGreatDoorJHdU
import Derived.Test.YtdlihfbaepjliaaGreatDoorProg
import Derived.Lib.SlTrimSet
import Derived.WalkKit
import Derived.Lib.Split
import Derived.WalkSpells
import Derived.WalkLawsBesides
import Derived.WalkSmall
import Derived.Lib.Hide
import Derived.IntWalk
import Derived.BigQuiet
import Derived.Laws.OwnMore
import Derived.Deep.AppendLies
import Derived.Deep.RegionLaw
import Derived.Deep.Upon
import Derived.Deep.DeepCutAuto
import Derived.Lib.IndexLaws
import Derived.Shelf.LaysM
import Derived.Shelf.Small.Strs
import Derived.Shelf.Small.Wraps
import Derived.Shelf.Strings.Search1
import Derived.Shelf.Strings.Search2
import Derived.Shelf.Strings.SlTrimAscii
import Derived.Shelf.Strings.Split
import Derived.Shelf.Strings.Prefix
import Derived.Shelf.Strconv.Itoa4
import Derived.Lib.SmallJoins
import Derived.Lib.LaidTab
import Derived.Lib.AppendIntMem
import Derived.Lib.IndexAny
import Derived.RangeFuncNested
import Derived.RangeFuncBound
import Derived.RangeFuncCalls
import Derived.RangeFuncLeaves
import Derived.Shelf.Abstract
import Derived.Shelf.RegionOpen
import Derived.OwnWalkIn
import Derived.TacticsInMore
import Derived.LoopNIn
import Derived.LoopIn
import Derived.Maps.AppendAt
import Derived.Deep.RegionHeld3
import Derived.Test.YtdlihfbaepjliaaGreatDoorJHdC
import Derived.Test.YtdlihfbaepjliaaGreatDoorJOwnA
import Derived.Test.YtdlihfbaepjliaaGreatDoorRefE
namespace Go.Proofs.YtdlihfbaepjliaaGreatDoor
open Go.RowKit

theorem text_small {n : Int} (h1 : n ≤ 599) {x : ByteArray} (hx : dl x = textN n 10) : x.size ≤ 600 := by
  rw [← dl_len, hx]
  unfold textN
  split
  · have := Nm.dgs_len 10 n.toNat
    show (dgs 10 n.toNat).length ≤ 600
    omega
  · simp
theorem heldS {W1 w w' : World} {a b : Addr} {u v : Value} (hb : Below w.heap.size w w') (h : Below W1.heap.size W1 w ∧ w.cell? a = some u ∧ w.cell? b = some v) : Below W1.heap.size W1 w' ∧ w'.cell? a = some u ∧ w'.cell? b = some v :=
  ⟨bon h.1 hb, cell_up hb h.2.1, cell_up hb h.2.2⟩
/-- the pieces of texts -/
abbrev verB : ByteArray := ⟨#[72, 84, 84, 80, 47, 49, 46]⟩
abbrev spB : ByteArray := ⟨#[32]⟩
abbrev crB : ByteArray := ⟨#[13, 10]⟩
abbrev coB : ByteArray := ⟨#[58, 32]⟩
theorem ver_dl {mi : Int} {x : ByteArray} (hx : dl x = textN mi 10) : dl (verB ++ x) = verT mi := by rw [dl_app, hx]; rfl

set_option maxRecDepth 100000 in
set_option maxHeartbeats 2000000 in
theorem line_any (m t : ByteArray) (st : Int) (r : ByteArray) (mi : Int) (A : Option Addr) (n c : Nat) (fs : List Fd) (a : Bool) (w : World) (hm : m.size ≤ 4096) (ht : t.size ≤ 4096) (hr : r.size ≤ 4096) (hmi : mi ≤ 1) (hst : st ≤ 599) (hT : Tabs w) :
    Calls Tryz.prog 59 #[.agg #[.string m, .string t, .int .i64 st, .string r, .int .i64 mi, .slice A n c], .bool a] w (TextEnds (firstT (hdOf m t st r mi fs) a) w) := by
  have hT0 := hT.up (ba1 w (.cells #[.string m, .string t, .int .i64 st, .string r, .int .i64 mi, .slice A n c] 29))
  have HC := Lib.hid (Nm.text_any mi _ hT0)
  go_enter Tryz.func59, Tryz.ntmps59
  go_wp2_with fail
  refine HC.out.mono ?_
  rintro e w1 ⟨x, rfl, hx, hb1⟩
  have hxs := text_small (n := mi) (by omega) hx
  have HV := Lib.hid (ver_dl hx)
  have bx := (Box.new w 29 #[.string m, .string t, .int .i64 st, .string r, .int .i64 mi, .slice A n c]).up hb1
  have hbw := bon (ba1 w (.cells #[.string m, .string t, .int .i64 st, .string r, .int .i64 mi, .slice A n c] 29)) hb1
  have hT1 := hT0.up hb1
  clear HC hT hT0 hb1 hx
  obtain ⟨c0, c1, c2, c3, c4, c5⟩ := bx.six
  obtain ⟨g, hg⟩ : ∃ g, w.heap.size = g := ⟨_, rfl⟩
  rw [hg] at c0 c1 c2 c3 c4 c5 ⊢
  have HG := Lib.hid hg
  clear hg bx
  have z7 : verB.size = 7 := rfl
  have z1 : spB.size = 1 := rfl
  have y1 : (verB ++ x).size = 7 + x.size := by rw [ByteArray.size_append, z7]
  cases a with
  | false =>
    have y2 : (m ++ spB).size = m.size + 1 := by rw [ByteArray.size_append, z1]
    have y3 : (m ++ spB ++ t).size = m.size + 1 + t.size := by rw [ByteArray.size_append, y2]
    have y4 : (m ++ spB ++ t ++ spB).size = m.size + 1 + t.size + 1 := by rw [ByteArray.size_append, y3, z1]
    have HE : Hid (dl (m ++ spB ++ t ++ spB ++ (verB ++ x)) = firstT (hdOf m t st r mi fs) false) := Lib.hid (by
      rw [dl_app, HV.out, dl_app, dl_app, dl_app]
      rfl)
    go_wp2
    go_ret
    exact ⟨_, rfl, HE.out, hbw⟩
  | true =>
    go_wp2_with fail
    have yV : (verB ++ x).size ≤ 700 := by omega
    clear y1
    generalize verB ++ x = V at *
    have k1 := fun W => run_string_add_sum (P := Tryz.prog) W V spB (by omega)
    have hV1 : (V ++ spB).size = V.size + 1 := by rw [ByteArray.size_append, z1]
    go_region_held3 (fun w' => Below w1.heap.size w1 w' ∧ w'.cell? ⟨g, 2, none⟩ = some (.int .i64 st) ∧ w'.cell? ⟨g, 3, none⟩ = some (.string r))
      (first | exact heldS hbP (by assumption) | exact ⟨(Below.refl _ _).drew, c2, c3⟩)
      (first
        | (go_at_call 34; refine (Nm.text_any st _ (hT1.up ?_)).mono ?_; (simp only [*]); rintro e wP ⟨y, rfl, hy, hbP⟩; have hys := text_small hst hy; have k2 := fun W => run_string_add_sum (P := Tryz.prog) W (V ++ spB) y (by omega); have hV2 : (V ++ spB ++ y).size = V.size + 1 + y.size := (by rw [ByteArray.size_append, hV1]); have k3 := fun W => run_string_add_sum (P := Tryz.prog) W (V ++ spB ++ y) spB (by omega); have hV3 : (V ++ spB ++ y ++ spB).size = V.size + 1 + y.size + 1 := (by rw [ByteArray.size_append, hV2, z1]); have k4 := fun W => run_string_add_sum (P := Tryz.prog) W (V ++ spB ++ y ++ spB) r (by omega)))
    rename_i hHeld
    have hfin := hHeld.1
    have HE : Hid (dl (V ++ spB ++ y ++ spB ++ r) = firstT (hdOf m t st r mi fs) true) := Lib.hid (by
      rw [dl_app, dl_app, dl_app, dl_app, HV.out, show dl y = textN st 10 from hy]
      rfl)
    clear hHeld k1 k2 k3 k4
    go_wp2
    go_ret
    exact ⟨_, rfl, HE.out, bon hbw hfin⟩

/-- the fields' texts -/
def fT (fs : List Fd) : Bs := (dls fs).flatMap fieldT
theorem fT_succ {fs : List Fd} {k : Nat} {x y : ByteArray} (h : fs[k]? = some (x, y)) : fT (fs.take (k + 1)) = fT (fs.take k) ++ (dl x ++ [58, 32] ++ dl y ++ crlf) := by
  unfold fT
  rw [List.take_add_one, h]
  simp [dls, fieldT]
theorem text_parts (m t : ByteArray) (st : Int) (r : ByteArray) (mi : Int) (fs : List Fd) (a : Bool) : textH (hdOf m t st r mi fs) a = firstT (hdOf m t st r mi []) a ++ crlf ++ fT fs ++ crlf := rfl

set_option maxRecDepth 100000 in
set_option maxHeartbeats 2000000 in
theorem rtextH_any (m t : ByteArray) (st : Int) (r : ByteArray) (mi : Int) (A : Option Addr) (n c : Nat) (fs : List Fd) (a : Bool) (w : World) (hm : m.size ≤ 4096) (ht : t.size ≤ 4096) (hr : r.size ≤ 4096) (hmi : mi ≤ 1) (hst : st ≤ 599) (hL : Fs w ⟨A, n, c⟩ fs) (hn : n ≤ 4096) (hf : Few fs) :
    Calls Tryz.prog 61 #[.agg #[.string m, .string t, .int .i64 st, .string r, .int .i64 mi, .slice A n c], .bool a] w (TextEnds (textH (hdOf m t st r mi fs) a) w) := by
  have HL := Lib.hid hL
  have HF := Lib.hid hf
  have hlen : Hid (fs.length = n) := Lib.hid hL.len
  have HTP := Lib.hid (text_parts m t st r mi fs a)
  clear hL hf
  go_enter Tryz.func61, Tryz.ntmps61
  go_wp2_with fail
  refine (Nm.rtext_any mi 10 _).mono ?_
  rintro e w1 ⟨x, rfl, hx, hb1⟩
  have hxs := text_small (n := mi) (by omega) hx
  have HV := Lib.hid (ver_dl hx)
  have bx := (Box.new w 29 #[.string m, .string t, .int .i64 st, .string r, .int .i64 mi, .slice A n c]).up hb1
  have hbw := bon (ba1 w (.cells #[.string m, .string t, .int .i64 st, .string r, .int .i64 mi, .slice A n c] 29)) hb1
  clear hb1 hx
  obtain ⟨c0, c1, c2, c3, c4, c5⟩ := bx.six
  obtain ⟨g, hg⟩ : ∃ g, w.heap.size = g := ⟨_, rfl⟩
  rw [hg] at c0 c1 c2 c3 c4 c5 bx ⊢
  have HG := Lib.hid hg
  clear hg
  have z7 : verB.size = 7 := rfl
  have z1 : spB.size = 1 := rfl
  have z2 : crB.size = 2 := rfl
  have z3 : coB.size = 2 := rfl
  have y1 : (verB ++ x).size = 7 + x.size := by rw [ByteArray.size_append, z7]
  have y2 : (m ++ spB).size = m.size + 1 := by rw [ByteArray.size_append, z1]
  have y3 : (m ++ spB ++ t).size = m.size + 1 + t.size := by rw [ByteArray.size_append, y2]
  have y4 : (m ++ spB ++ t ++ spB).size = m.size + 1 + t.size + 1 := by rw [ByteArray.size_append, y3, z1]
  have y5 : (m ++ spB ++ t ++ spB ++ (verB ++ x)).size = m.size + 1 + t.size + 1 + (7 + x.size) := by rw [ByteArray.size_append, y4, y1]
  have y6 : (m ++ spB ++ t ++ spB ++ (verB ++ x) ++ crB).size = m.size + 1 + t.size + 1 + (7 + x.size) + 2 := by rw [ByteArray.size_append, y5, z2]
  cases a
  case' false =>
    have HE : Hid (dl (m ++ spB ++ t ++ spB ++ (verB ++ x) ++ crB) = firstT (hdOf m t st r mi []) false ++ crlf) := Lib.hid (by
      rw [dl_app, dl_app, HV.out, dl_app, dl_app, dl_app]
      rfl)
    have hs0 : (m ++ spB ++ t ++ spB ++ (verB ++ x) ++ crB).size ≤ 12000 := by omega
    go_wp2_with fail
    generalize m ++ spB ++ t ++ spB ++ (verB ++ x) ++ crB = s0 at *
    have hfin : Below w1.heap.size w1 w1 := Below.refl _ _
  case' true =>
    go_wp2_with fail
    have yV : (verB ++ x).size ≤ 700 := by omega
    clear y1 y5 y6
    generalize verB ++ x = V at *
    have k1 := fun W => run_string_add_sum (P := Tryz.prog) W V spB (by omega)
    have hV1 : (V ++ spB).size = V.size + 1 := by rw [ByteArray.size_append, z1]
    go_region_held3 (fun w' => Below w1.heap.size w1 w' ∧ w'.cell? ⟨g, 2, none⟩ = some (.int .i64 st) ∧ w'.cell? ⟨g, 3, none⟩ = some (.string r))
      (first | exact heldS hbP (by assumption) | exact ⟨(Below.refl _ _).drew, c2, c3⟩)
      (first
        | (go_at_call 36; refine (Nm.rtext_any st 10 _).mono ?_; rintro e wP ⟨y, rfl, hy, hbP⟩; have hys := text_small hst hy; have k2 := fun W => run_string_add_sum (P := Tryz.prog) W (V ++ spB) y (by omega); have hV2 : (V ++ spB ++ y).size = V.size + 1 + y.size := (by rw [ByteArray.size_append, hV1]); have k3 := fun W => run_string_add_sum (P := Tryz.prog) W (V ++ spB ++ y) spB (by omega); have hV3 : (V ++ spB ++ y ++ spB).size = V.size + 1 + y.size + 1 := (by rw [ByteArray.size_append, hV2, z1]); have k4 := fun W => run_string_add_sum (P := Tryz.prog) W (V ++ spB ++ y ++ spB) r (by omega); have hV4 : (V ++ spB ++ y ++ spB ++ r).size = V.size + 1 + y.size + 1 + r.size := (by rw [ByteArray.size_append, hV3]); have k5 := fun W => run_string_add_sum (P := Tryz.prog) W (V ++ spB ++ y ++ spB ++ r) crB (by omega)))
    rename_i hHeld
    have hfin := hHeld.1
    have HE : Hid (dl (V ++ spB ++ y ++ spB ++ r ++ crB) = firstT (hdOf m t st r mi []) true ++ crlf) := Lib.hid (by
      rw [dl_app, dl_app, dl_app, dl_app, dl_app, HV.out, show dl y = textN st 10 from hy]
      rfl)
    have hs0 : (V ++ spB ++ y ++ spB ++ r ++ crB).size ≤ 12000 := by rw [ByteArray.size_append, hV4, z2]; omega
    clear hHeld k1 k2 k3 k4 k5 hV1 hV2 hV3 hV4
    go_wp2_with fail
    generalize V ++ spB ++ y ++ spB ++ r ++ crB = s0 at *
  all_goals
    have bW := bx.up hfin
    have hbW := bon hbw hfin
    clear hbw hfin c0 c1 c2 c3 c4 c5 y2 y3 y4
    rw [← HG.out] at bW
    go_loopw [7, 6] (fun i u wr => ∃ (k : Nat) (v : ByteArray), k ≤ n ∧ i = .int .i64 (k : Int) ∧ u = .string v ∧ v.size ≤ 12000 + k * 9000 ∧ Hid (dl v = dl s0 ++ fT (fs.take k)) ∧ Hid (Box wr w.heap.size 29 #[.string m, .string t, .int .i64 st, .string r, .int .i64 mi, .slice A n c] ∧ Below w.heap.size w wr)) (fun i _ _ => n - (intOf i).toNat)
    case atStart => exact ⟨0, s0, Nat.zero_le _, rfl, rfl, by omega, Lib.hid (by simp [fT, dls]), Lib.hid ⟨bW, hbW⟩⟩
    case round =>
      obtain ⟨k, v, hk, rfl, rfl, hvs, HVk, HB⟩ := hrel
      have d5 := HB.out.1.c 5 rfl
      rw [HG.out] at d5
      by_cases hlt : k < n
      · obtain ⟨b, o, x, y, hA, hb, hx, c1, d1⟩ := (HL.out.up HB.out.2).cell (k := k) hlt
        simp only at hA
        subst hA
        obtain ⟨zx, zy⟩ := HF.out _ (List.mem_of_getElem? hx)
        simp only at zx zy
        have HS := Lib.hid (fT_succ hx)
        clear hx
        have hki : (k : Int) < (n : Int) := by omega
        have hk0 : (0 : Int) ≤ (k : Int) := by omega
        have k1 := fun W => run_string_add_sum (P := Tryz.prog) W v x (by omega)
        have hV1 : (v ++ x).size = v.size + x.size := by rw [ByteArray.size_append]
        have k2 := fun W => run_string_add_sum (P := Tryz.prog) W (v ++ x) coB (by omega)
        have hV2 : (v ++ x ++ coB).size = v.size + x.size + 2 := by rw [ByteArray.size_append, hV1, z3]
        have k3 := fun W => run_string_add_sum (P := Tryz.prog) W (v ++ x ++ coB) y (by omega)
        have hV3 : (v ++ x ++ coB ++ y).size = v.size + x.size + 2 + y.size := by rw [ByteArray.size_append, hV2]
        have k4 := fun W => run_string_add_sum (P := Tryz.prog) W (v ++ x ++ coB ++ y) crB (by omega)
        have HN : Hid (dl (v ++ x ++ coB ++ y ++ crB) = dl s0 ++ fT (fs.take (k + 1))) := Lib.hid (by
          rw [dl_app, dl_app, dl_app, dl_app, HVk.out, HS.out]
          simp [crlf]
          rfl)
        have hV4 : (v ++ x ++ coB ++ y ++ crB).size ≤ 12000 + (k + 1) * 9000 := by rw [ByteArray.size_append, hV3, z2]; omega
        clear hV1 hV2 hV3
        go_wp2_with fail
        go_quiet (fail)
        clear k1 k2 k3 k4
        go_wp2
        go_roundw
        case rel => exact ⟨k + 1, _, by omega, by go_num, rfl, hV4, HN, Lib.hid ⟨HB.out.1.up (below_drewN (Below.refl _ _) _), below_drewN HB.out.2 _⟩⟩
        case measure => simp [intOf]; omega
      · obtain rfl : k = n := by omega
        have hki : ¬ (k : Int) < (k : Int) := by omega
        have HEE : Hid (dl (v ++ crB) = textH (hdOf m t st r mi fs) _) := Lib.hid (by
          rw [dl_app, HVk.out, HTP.out, HE.out, List.take_of_length_le (by rw [hlen.out]; exact Nat.le_refl _)]
          rfl)
        clear HVk
        go_wp2
        go_ret
        exact ⟨_, rfl, HEE.out, HB.out.2⟩
end Go.Proofs.YtdlihfbaepjliaaGreatDoor

/-
  The walks of Print: the document's own, and head's.
-/
namespace Go.Proofs.YtdlihfbaepjliaaGreatDoor
open Go.RowKit

/-- a text and an error are handed back -/
def PrintEnds (q : Bs × Int) (w : World) (e : Ending) (w' : World) : Prop := ∃ s : ByteArray, e = .returned (.tuple #[.string s, .int .i64 q.2]) ∧ dl s = q.1 ∧ Below w.heap.size w w'
theorem right_bounds {m t : ByteArray} {st : Int} {r : ByteArray} {mi : Int} {fs : List Fd} {a : Bool} (h : rightB (hdOf m t st r mi fs) a = true) : mi ≤ 1 ∧ st ≤ 599 := by
  obtain ⟨h1, _, _, h4⟩ := kind_parts h
  have h1' : mi = 0 ∨ mi = 1 := h1
  refine ⟨by omega, ?_⟩
  unfold kindB at h4
  cases a with
  | false =>
    rw [if_neg (by decide)] at h4
    simp only [Bool.and_eq_true, decide_eq_true_eq] at h4
    have : st = 0 := h4.1.2
    omega
  | true =>
    rw [if_pos rfl] at h4
    simp only [Bool.and_eq_true, statB, decide_eq_true_eq] at h4
    exact h4.1.1.1.2
theorem print_bad {h : Hd} {a : Bool} (hr : rightB h a = false) : printH h a = ([], 1) := by
  rw [printH, if_neg (by rw [hr]; simp)]
theorem print_long {h : Hd} {a : Bool} (hr : rightB h a = true) (hl : ¬ (textH h a).length ≤ 2004) : printH h a = ([], 2) := by
  rw [printH, if_pos hr, if_neg hl]
theorem print_ok {h : Hd} {a : Bool} (hr : rightB h a = true) (hl : (textH h a).length ≤ 2004) : printH h a = (textH h a, 0) := by
  rw [printH, if_pos hr, if_pos hl]
theorem text_len (h : Hd) (a : Bool) : 4 ≤ (textH h a).length := by
  rw [text_eq, List.length_append]
  simp

theorem verT_len {mi : Int} (h : mi ≤ 1) : (verT mi).length ≤ 607 := by
  unfold verT
  have := text_small (n := mi) (by omega) (x := ⟨(textN mi 10).toArray⟩) (dl_mk _)
  rw [← dl_len, dl_mk] at this
  simp only [List.length_append, List.length_cons, List.length_nil]
  omega
theorem line_max {m t : ByteArray} {st : Int} {r : ByteArray} {mi : Int} {fs : List Fd} {a : Bool} {s : ByteArray} (h : dl s = firstT (hdOf m t st r mi fs) a) (hm : m.size ≤ 4096) (ht : t.size ≤ 4096) (hr : r.size ≤ 4096) (hmi : mi ≤ 1) (hst : st ≤ 599) : s.size ≤ 10000 := by
  have h1 := verT_len hmi
  have h2 := text_small hst (x := ⟨(textN st 10).toArray⟩) (dl_mk _)
  rw [← dl_len, dl_mk] at h2
  rw [← dl_len, h, firstT]
  have e1 : (hdOf m t st r mi fs).m.length = m.size := dl_len m
  have e2 : (hdOf m t st r mi fs).t.length = t.size := dl_len t
  have e3 : (hdOf m t st r mi fs).r.length = r.size := dl_len r
  have e4 : (hdOf m t st r mi fs).mi = mi := rfl
  have e5 : (hdOf m t st r mi fs).st = st := rfl
  rw [e4, e5]
  split
  · simp only [List.length_append, List.length_cons, List.length_nil, e3]
    omega
  · simp only [List.length_append, List.length_cons, List.length_nil, e1, e2]
    omega
theorem fT_len (fs : List Fd) (h : Few fs) : (fT fs).length ≤ fs.length * 9000 := by
  induction fs with
  | nil => simp [fT, dls]
  | cons f r ih =>
    have h1 := h f (by simp)
    have h2 := ih (fun g hg => h g (by simp [hg]))
    have e : fT (f :: r) = fieldT (dl f.1, dl f.2) ++ fT r := by simp [fT, dls]
    rw [e, List.length_append]
    have e2 : (fieldT (dl f.1, dl f.2)).length = f.1.size + 2 + f.2.size + 2 := by
      simp only [fieldT, crlf, List.length_append, List.length_cons, List.length_nil]
      rw [dl_len, dl_len]
    simp only [List.length_cons]
    omega
theorem text_max {m t : ByteArray} {st : Int} {r : ByteArray} {mi : Int} {fs : List Fd} {a : Bool} {s : ByteArray} {n : Nat} (h : dl s = textH (hdOf m t st r mi fs) a) (hf : Few fs) (hl : fs.length = n) (hn : n ≤ 4096) (hm : m.size ≤ 4096) (ht : t.size ≤ 4096) (hr : r.size ≤ 4096) (hmi : mi ≤ 1) (hst : st ≤ 599) : s.size ≤ 4611686018427387904 := by
  have h1 := fT_len fs hf
  have h2 := line_max (s := ⟨(firstT (hdOf m t st r mi []) a).toArray⟩) (dl_mk _) hm ht hr hmi hst
  rw [← dl_len, dl_mk] at h2
  rw [← dl_len, h, text_parts]
  simp only [List.length_append, crlf, List.length_cons, List.length_nil]
  rw [hl] at h1
  omega

section
variable (m t : ByteArray) (st : Int) (r : ByteArray) (mi : Int) (A : Option Addr) (n c : Nat) (fs : List Fd) (a : Bool) (w : World) (hm : m.size ≤ 4096) (ht : t.size ≤ 4096) (hr : r.size ≤ 4096) (hL : Fs w ⟨A, n, c⟩ fs) (hn : n ≤ 4096) (hf : Few fs)
include hm ht hr hL hn hf

set_option maxRecDepth 100000 in
set_option maxHeartbeats 2000000 in
theorem rprint_any : Calls Tryz.prog 37 #[.agg #[.string m, .string t, .int .i64 st, .string r, .int .i64 mi, .slice A n c], .bool a] w (PrintEnds (printH (hdOf m t st r mi fs) a) w) := by
  have hb0 := ba1 w (.cells #[.string m, .string t, .int .i64 st, .string r, .int .i64 mi, .slice A n c] 29)
  have HC := Lib.hid (rright_any m t st r mi A n c fs a _ hm ht hr (hL.up hb0) hn hf)
  have HL := Lib.hid hL
  have HF := Lib.hid hf
  clear hL hf
  obtain ⟨b, hb⟩ : ∃ b, rightB (hdOf m t st r mi fs) a = b := ⟨_, rfl⟩
  rw [hb] at HC
  have HB := Lib.hid hb
  clear hb
  go_enter Tryz.func37, Tryz.ntmps37
  go_wp2_with fail
  refine HC.out.mono ?_
  rintro e w1 ⟨rfl, hb1⟩
  have bx := (Box.new w 29 #[.string m, .string t, .int .i64 st, .string r, .int .i64 mi, .slice A n c]).up hb1
  have hbw := bon hb0 hb1
  obtain ⟨c0, c1, c2, c3, c4, c5⟩ := bx.six
  obtain ⟨g, hg⟩ : ∃ g, w.heap.size = g := ⟨_, rfl⟩
  rw [hg] at c0 c1 c2 c3 c4 c5 ⊢
  clear hg bx hb0 hb1
  cases b with
  | false =>
    have HE := Lib.hid (print_bad HB.out)
    go_wp2
    refine bodyPost_ret (v := .tuple #[.string ⟨#[]⟩, .int .i64 1]) (by simp [results, Tryz.results37, go_sem]) rfl ?_
    exact ⟨_, by rw [HE.out], by rw [HE.out], hbw⟩
  | true =>
    obtain ⟨hmi, hst⟩ := right_bounds HB.out
    go_wp2_with fail
    refine (rtextH_any m t st r mi A n c fs a _ hm ht hr hmi hst (HL.out.up hbw) hn HF.out).mono ?_
    rintro e w2 ⟨s, rfl, hs, hb2⟩
    have h4 := text_len (hdOf m t st r mi fs) a
    rw [← hs, dl_len] at h4
    by_cases hl : s.size ≤ 2004
    · have HE := Lib.hid (print_ok HB.out (by rw [← hs, dl_len]; exact hl))
      have HS := Lib.hid hs
      clear hs
      have hli : ¬ (2000 : Int) < (s.size : Int) - 4 := by omega
      go_wp2
      refine bodyPost_ret (v := .tuple #[.string s, .int .i64 0]) (by simp [results, Tryz.results37, go_sem]) rfl ?_
      exact ⟨_, by rw [HE.out], by rw [HE.out]; exact HS.out, bon hbw hb2⟩
    · have HE := Lib.hid (print_long HB.out (by rw [← hs, dl_len]; exact hl))
      have hsz : s.size ≤ 4611686018427387904 := text_max hs HF.out HL.out.len hn hm ht hr hmi hst
      clear hs
      have hli : (2000 : Int) < (s.size : Int) - 4 := by omega
      go_wp2
      refine bodyPost_ret (v := .tuple #[.string ⟨#[]⟩, .int .i64 2]) (by simp [results, Tryz.results37, go_sem]) rfl ?_
      exact ⟨_, by rw [HE.out], by rw [HE.out], bon hbw hb2⟩

set_option maxRecDepth 100000 in
set_option maxHeartbeats 2000000 in
theorem print_any (hT : Tabs w) : Calls Tryz.prog 35 #[.agg #[.string m, .string t, .int .i64 st, .string r, .int .i64 mi, .slice A n c], .bool a] w (PrintEnds (printH (hdOf m t st r mi fs) a) w) := by
  have hb0 := ba1 w (.cells #[.string m, .string t, .int .i64 st, .string r, .int .i64 mi, .slice A n c] 29)
  have HC := Lib.hid (right_any m t st r mi A n c fs a _ hm ht hr (hL.up hb0) hn hf)
  have HL := Lib.hid hL
  have HF := Lib.hid hf
  have hlen : Hid (fs.length = n) := Lib.hid hL.len
  clear hL hf
  obtain ⟨b, hb⟩ : ∃ b, rightB (hdOf m t st r mi fs) a = b := ⟨_, rfl⟩
  rw [hb] at HC
  have HB := Lib.hid hb
  clear hb
  go_enter Tryz.func35, Tryz.ntmps35
  go_wp2_with fail
  refine HC.out.mono ?_
  rintro e w1 ⟨rfl, hb1⟩
  have bx := (Box.new w 29 #[.string m, .string t, .int .i64 st, .string r, .int .i64 mi, .slice A n c]).up hb1
  have hbw := bon hb0 hb1
  obtain ⟨c0, c1, c2, c3, c4, c5⟩ := bx.six
  obtain ⟨g, hg⟩ : ∃ g, w.heap.size = g := ⟨_, rfl⟩
  rw [hg] at c0 c1 c2 c3 c4 c5 bx ⊢
  have HG := Lib.hid hg
  clear hg hb0 hb1
  cases b with
  | false =>
    have HE := Lib.hid (print_bad HB.out)
    go_wp2
    refine bodyPost_ret (v := .tuple #[.string ⟨#[]⟩, .int .i64 1]) (by simp [results, Tryz.results35, go_sem]) rfl ?_
    exact ⟨_, by rw [HE.out], by rw [HE.out], hbw⟩
  | true =>
    obtain ⟨hmi, hst⟩ := right_bounds HB.out
    go_wp2_with fail
    refine (line_any m t st r mi A n c [] a _ hm ht hr hmi hst (hT.up hbw)).mono ?_
    rintro e w2 ⟨s1, rfl, hs1, hb2⟩
    have bW := bx.up hb2
    have hbW := bon hbw hb2
    obtain ⟨_, _, _, _, _, d5⟩ := bW.six
    have z2 : crB.size = 2 := rfl
    have z3 : coB.size = 2 := rfl
    have hs1z : s1.size ≤ 10000 := line_max hs1 hm ht hr hmi hst
    have hs2 : (s1 ++ crB).size = s1.size + 2 := by rw [ByteArray.size_append, z2]
    have HE0 : Hid (dl (s1 ++ crB) = firstT (hdOf m t st r mi []) a ++ crlf) := Lib.hid (by rw [dl_app, hs1]; rfl)
    have hs0 : (s1 ++ crB).size ≤ 12000 := by omega
    clear c0 c1 c2 c3 c4 c5 bx bW hb2 hbw hs1
    go_wp2_with fail
    clear hs2
    generalize s1 ++ crB = s0 at *
    go_loopw [20, 6] (fun i u wr => ∃ (k : Nat) (v : ByteArray), k ≤ n ∧ i = .int .i64 (k : Int) ∧ u = .string v ∧ v.size ≤ 12000 + k * 9000 ∧ Hid (dl v = dl s0 ++ fT (fs.take k)) ∧ Hid (Below w.heap.size w wr)) (fun i _ _ => n - (intOf i).toNat)
    case atStart => exact ⟨0, s0, Nat.zero_le _, rfl, rfl, by omega, Lib.hid (by simp [fT, dls]), Lib.hid hbW⟩
    case round =>
      obtain ⟨k, v, hk, rfl, rfl, hvs, HVk, HBw⟩ := hrel
      by_cases hlt : k < n
      · obtain ⟨b, o, x, y, hA, hb, hx, e1, e2⟩ := (HL.out.up HBw.out).cell (k := k) hlt
        simp only at hA
        subst hA
        obtain ⟨zx, zy⟩ := HF.out _ (List.mem_of_getElem? hx)
        simp only at zx zy
        have HS := Lib.hid (fT_succ hx)
        clear hx
        have hki : (k : Int) < (n : Int) := by omega
        have hk0 : (0 : Int) ≤ (k : Int) := by omega
        have k1 := fun W => run_string_add_sum (P := Tryz.prog) W x coB (by omega)
        have hV1 : (x ++ coB).size = x.size + 2 := by rw [ByteArray.size_append, z3]
        have k2 := fun W => run_string_add_sum (P := Tryz.prog) W (x ++ coB) y (by omega)
        have hV2 : (x ++ coB ++ y).size = x.size + 2 + y.size := by rw [ByteArray.size_append, hV1]
        have k3 := fun W => run_string_add_sum (P := Tryz.prog) W (x ++ coB ++ y) crB (by omega)
        have hV3 : (x ++ coB ++ y ++ crB).size = x.size + 2 + y.size + 2 := by rw [ByteArray.size_append, hV2, z2]
        have k4 := fun W => run_string_add_sum (P := Tryz.prog) W v (x ++ coB ++ y ++ crB) (by omega)
        have HN : Hid (dl (v ++ (x ++ coB ++ y ++ crB)) = dl s0 ++ fT (fs.take (k + 1))) := Lib.hid (by
          rw [dl_app, HVk.out, dl_app, dl_app, dl_app, HS.out]
          simp [crlf]
          rfl)
        have hV4 : (v ++ (x ++ coB ++ y ++ crB)).size ≤ 12000 + (k + 1) * 9000 := by rw [ByteArray.size_append, hV3]; omega
        have HB2 := Lib.hid (bon HBw.out (ba1 wr (.cells #[.string x, .string y] 40)))
        clear hV1 hV2 hV3
        go_wp2
        go_roundw
        case rel => exact ⟨k + 1, _, by omega, by go_num, rfl, hV4, HN, HB2⟩
        case measure => simp [intOf]; omega
      · obtain rfl : k = n := by omega
        have hki : ¬ (k : Int) < (k : Int) := by omega
        have HEE : Hid (dl (v ++ crB) = textH (hdOf m t st r mi fs) a) := Lib.hid (by
          rw [dl_app, HVk.out, text_parts, HE0.out, List.take_of_length_le (by rw [hlen.out]; exact Nat.le_refl _)]
          rfl)
        have k4 := fun W => run_string_add_sum (P := Tryz.prog) W v crB (by omega)
        have hV : (v ++ crB).size = v.size + 2 := by rw [ByteArray.size_append, z2]
        clear HVk
        have HP : Hid (printH (hdOf m t st r mi fs) a = if (v ++ crB).size ≤ 2004 then (textH (hdOf m t st r mi fs) a, 0) else ([], 2)) := Lib.hid (by
          rw [printH, if_pos HB.out, ← HEE.out, dl_len])
        have hvz : (v ++ crB).size ≤ 50000000 := by omega
        clear hV
        generalize v ++ crB = V at *
        by_cases hl : V.size ≤ 2004
        · rw [if_pos hl] at HP
          have hli : ¬ (2004 : Int) < (V.size : Int) := by omega
          go_wp2
          refine bodyPost_ret (v := .tuple #[.string V, .int .i64 0]) (by simp [results, Tryz.results35, go_sem]) rfl ?_
          exact ⟨_, by rw [HP.out], by rw [HP.out]; exact HEE.out, HBw.out⟩
        · rw [if_neg hl] at HP
          have hli : (2004 : Int) < (V.size : Int) := by omega
          go_wp2
          refine bodyPost_ret (v := .tuple #[.string ⟨#[]⟩, .int .i64 2]) (by simp [results, Tryz.results35, go_sem]) rfl ?_
          exact ⟨_, by rw [HP.out], by rw [HP.out], HBw.out⟩
end
end Go.Proofs.YtdlihfbaepjliaaGreatDoor

/-
  The walks of field's own Get and Drop (slices.ContainsFunc with the call's own closure).
-/
namespace Go.Proofs.YtdlihfbaepjliaaGreatDoor
open Go.RowKit
set_option maxHeartbeats 1000000 in
/-- Drop's closure: does the captured field's name match? -/
theorem drop1_any (gf : Nat) (x y z : ByteArray) (hx : x.size ≤ 4096) (hz : z.size ≤ 4096) (w : World) (hb : Box w gf 40 #[.string x, .string y]) : Calls Tryz.prog 54 #[.string z, .pointer (some ⟨gf, 0, none⟩)] w (BoolEnds (decide (lowerL (dl x) = lowerL (dl z))) w) := by
  obtain ⟨c0, c1, _, _⟩ := hb.two
  have HM := Lib.hid (fun W => match_any x z hx hz W)
  go_enter Tryz.func54, Tryz.ntmps54
  go_wp2_with fail
  refine (HM.out _).mono ?_
  rintro e w1 ⟨rfl, hb1⟩
  go_wp2
  go_ret
  exact ⟨rfl, hb1⟩

set_option maxRecDepth 100000 in
set_option maxHeartbeats 2000000 in
theorem indexFunc_any (gf : Nat) (x y : ByteArray) (N : Sli) (ns : List ByteArray) (w : World) (hN : Ss w N ns) (hn : N.n ≤ 4096) (hx : x.size ≤ 4096) (hns : ∀ z ∈ ns, z.size ≤ 4096) (hb : Box w gf 40 #[.string x, .string y]) :
    Calls Tryz.prog 83 #[N.v, .func (.func 54) #[] #[.pointer (some ⟨gf, 0, none⟩)]] w fun e w' => ∃ i : Int, e = .returned (.int .i64 i) ∧ decide (0 ≤ i) = hitL x ns ∧ Below w.heap.size w w' := by
  have HN := Lib.hid hN
  have HNS := Lib.hid hns
  have HB := Lib.hid hb
  obtain ⟨A, n, c⟩ := N
  simp only [Sli.v] at hn ⊢
  have hlen : Hid (ns.length = n) := Lib.hid hN.len
  have eg : ∀ args w, (callFunc 54 args).run Tryz.prog w = .ok (.enter 54 args) w := enters_of Tryz.func54 (by kernel_rfl) rfl
  clear hN hns hb
  go_enter Tryz.func83, Tryz.ntmps83
  go_wp2_with fail
  go_loopw [8] (fun i wr => ∃ k : Nat, k ≤ n ∧ i = .int .i64 (k : Int) ∧ Hid (hitL x (ns.take k) = false) ∧ Below w.heap.size w wr) (fun i _ => n - (intOf i).toNat)
  case atStart => exact ⟨0, Nat.zero_le _, rfl, Lib.hid rfl, Below.refl _ _⟩
  case round =>
    obtain ⟨k, hk, rfl, HK, hbel⟩ := hrel
    by_cases hlt : k < n
    · obtain ⟨b, o, z, hA, hb, hz, c1⟩ := (HN.out.up hbel).cell (k := k) hlt
      simp only at hA
      subst hA
      have hzs := HNS.out _ (List.mem_of_getElem? hz)
      have HH := Lib.hid (hit_succ (x := x) hz)
      have HC := Lib.hid (drop1_any gf x y z hx hzs wr (HB.out.up hbel))
      have HZ := Lib.hid hz
      clear hz hzs
      go_wp2_with fail
      refine HC.out.mono ?_
      rintro e w2 ⟨rfl, hb2⟩
      by_cases hq : lowerL (dl x) = lowerL (dl z)
      · have HE : Hid (hitL x ns = true) := Lib.hid (by
          unfold hitL
          rw [List.any_eq_true]
          exact ⟨z, List.mem_of_getElem? HZ.out, decide_eq_true hq⟩)
        rw [decide_eq_true hq]
        clear hq
        go_wp2
        go_ret
        exact ⟨_, rfl, by rw [HE.out]; exact decide_eq_true (by omega), bon hbel hb2⟩
      · have HE : Hid (hitL x (ns.take (k + 1)) = false) := Lib.hid (by rw [HH.out, HK.out, decide_eq_false hq]; rfl)
        rw [decide_eq_false hq]
        clear hq
        go_wp2
        go_roundw
        case rel => exact ⟨k + 1, by omega, by go_num, HE, bon hbel hb2⟩
        case measure => simp [intOf]; omega
    · obtain rfl : k = n := by omega
      have HE : Hid (hitL x ns = false) := Lib.hid (by have := HK.out; rw [List.take_of_length_le (by rw [hlen.out]; exact Nat.le_refl _)] at this; exact this)
      go_wp2
      go_ret
      exact ⟨_, rfl, by rw [HE.out]; rfl, hbel⟩

set_option maxHeartbeats 1000000 in
theorem contains_any (gf : Nat) (x y : ByteArray) (N : Sli) (ns : List ByteArray) (w : World) (hN : Ss w N ns) (hn : N.n ≤ 4096) (hx : x.size ≤ 4096) (hns : ∀ z ∈ ns, z.size ≤ 4096) (hb : Box w gf 40 #[.string x, .string y]) :
    Calls Tryz.prog 53 #[N.v, .func (.func 54) #[] #[.pointer (some ⟨gf, 0, none⟩)]] w (BoolEnds (hitL x ns) w) := by
  have HC := Lib.hid (indexFunc_any gf x y N ns w hN hn hx hns hb)
  clear hN hns hb
  simp only [Sli.v] at HC ⊢
  go_enter Tryz.func53, Tryz.ntmps53
  go_wp2_with fail
  refine HC.out.mono ?_
  rintro e w1 ⟨i, rfl, hi, hb1⟩
  have HI := Lib.hid hi
  clear hi
  go_wp2
  go_ret
  exact ⟨ret_bool HI.out, hb1⟩

set_option maxRecDepth 100000 in
set_option maxHeartbeats 4000000 in
theorem drop_any (L N : Sli) (fs : List Fd) (ns : List ByteArray) (w : World) (hL : Fs w L fs) (hN : Ss w N ns) (hn : L.n ≤ 4096) (hm : N.n ≤ 4096) (hf : ∀ f ∈ fs, f.1.size ≤ 4096) (hns : ∀ y ∈ ns, y.size ≤ 4096) : Calls Tryz.prog 33 #[L.v, N.v] w (FsEnds (dropL fs ns) w) := by
  obtain ⟨i32, hi, hz0, hz1, hz2⟩ := info_parts info32
  have HF := Lib.hid hf
  have HL := Lib.hid hL
  have HC := Lib.hid (fun gf x y W (hW : Below w.heap.size w W) (hx : x.size ≤ 4096) (hb : Box W gf 40 #[.string x, .string y]) => contains_any gf x y N ns W (hN.up hW) hm hx hns hb)
  obtain ⟨A, n, c⟩ := L
  obtain ⟨A2, m, c2⟩ := N
  simp only [Sli.v] at hn hm HC ⊢
  have hlen : Hid (fs.length = n) := Lib.hid hL.len
  clear hf hL hN hns
  go_enter Tryz.func33, Tryz.ntmps33
  go_wp2_with fail
  go_loopw [10, 5] (fun i o wr => ∃ (k : Nat) (O : Sli), k ≤ n ∧ O.n ≤ k ∧ i = .int .i64 (k : Int) ∧ o = .slice O.A O.n O.c ∧ Hid (Out 40 2 w wr O (fvs (dropL (fs.take k) ns)))) (fun i _ _ => n - (intOf i).toNat)
  case atStart => exact ⟨0, ⟨none, 0, 0⟩, by omega, Nat.le_refl _, rfl, rfl, Lib.hid (Out.nil _ _ _ _ (Below.refl _ _))⟩
  case round =>
    obtain ⟨k, O, hk, hOn, rfl, rfl, HO⟩ := hrel
    by_cases hlt : k < n
    · obtain ⟨b, o, x, y, hA, hb, hx, c1, d1⟩ := (HL.out.up HO.out.hb).cell (k := k) hlt
      simp only at hA
      subst hA
      have hxs := HF.out _ (List.mem_of_getElem? hx)
      have HS := Lib.hid (dropL_succ (ns := ns) hx)
      clear hx
      have hki : (k : Int) < (n : Int) := by omega
      have hk0 : (0 : Int) ≤ (k : Int) := by omega
      have HCk := Lib.hid (HC.out wr.heap.size x y _ (bon HO.out.hb (ba1 wr (.cells #[.string x, .string y] 40))) hxs (Box.new wr 40 #[.string x, .string y]))
      go_wp2_with fail
      refine HCk.out.mono ?_
      rintro e w1 ⟨rfl, hb1⟩
      have bx := (Box.new wr 40 #[.string x, .string y]).up hb1
      have HO2 := Lib.hid (HO.out.up (bon (ba1 wr (.cells #[.string x, .string y] 40)) hb1))
      clear HO c1 d1 hb1 HCk
      generalize wr.heap.size = gf at *
      obtain ⟨c1, d1, _, _⟩ := bx.two
      cases hh : hitL x ns with
      | true =>
        have HS2 : Hid (dropL (fs.take (k + 1)) ns = dropL (fs.take k) ns) := Lib.hid (by rw [HS.out, hh]; rfl)
        clear hh HS
        go_wp2
        go_roundw
        case rel => exact ⟨k + 1, O, by omega, by omega, by go_num, rfl, by rw [HS2.out]; exact HO2⟩
        case measure => simp [intOf]; omega
      | false =>
        have HS2 : Hid (dropL (fs.take (k + 1)) ns = dropL (fs.take k) ns ++ [(x, y)]) := Lib.hid (by rw [HS.out, hh]; rfl)
        clear hh HS
        have HSrc := Lib.hid (src_one w1 40 (fvs [(x, y)]) 1 2 rfl)
        have HO3 := Lib.hid (HO2.out.up (ba1 w1 (.cells #[.string x, .string y] 40)))
        have hBw : w.heap.size ≤ (w1.alloc (.cells #[.string x, .string y] 40)).heap.size := HO3.out.le
        clear HO2
        go_wp2_with (at_builtin; refine wpList_app _ rfl _ _ 27 rfl w.heap.size 40 i32 _ 2 32 (by decide) Tryz.underlying27 hi hz0 hz1 hz2 rfl (.slice O.A O.n O.c) O.n (fvs (dropL (fs.take k) ns)) rfl HO3.out.row (some ⟨w1.heap.size, 0, none⟩) 1 1 (fvs [(x, y)]) rfl HSrc.out (fvs_one _) ?_ ?_ hBw (O.n + 1) rfl ?_; (unfold maxLen; omega); omega; intro A' c' w3 h1 h2 h3; refine Hid.out ?_)
        have HO4 := Lib.hid (HO3.out.app (cs' := fvs (dropL (fs.take (k + 1)) ns)) (by rw [HS2.out, fvs_app]; exact h1) h2)
        clear h1 h2 h3 HO3 HSrc
        refine Lib.hid ?_
        go_wp2
        go_roundw
        case rel => exact ⟨k + 1, ⟨A', O.n + 1, c'⟩, by omega, by simp only; omega, by go_num, rfl, HO4⟩
        case measure => simp [intOf]; omega
    · obtain rfl : k = n := by omega
      have HE : Hid (fs.take k = fs) := Lib.hid (List.take_of_length_le (by rw [hlen.out]; exact Nat.le_refl _))
      rw [HE.out] at HO
      go_wp2
      go_ret
      exact ⟨O, rfl, HO.out.row, HO.out.hb⟩

end Go.Proofs.YtdlihfbaepjliaaGreatDoor
