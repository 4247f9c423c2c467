/-
  The walks of what is printed: head's own firstLine and the document's Text.
-/
import Derived.Test.YteefjcllbnmegaaGreatDoorHdJ
import Derived.Deep.RegionHeld3
namespace Go.Proofs.YteefjcllbnmegaaGreatDoor
open Go.RowKit

theorem text_small {n : Int} (h1 : n ≤ 599) {x : ByteArray} (hx : dl x = textN n 10) : x.size ≤ 600 := by
  rw [← dl_len, hx]
  unfold textN
  split
  · have := Nm.dgs_len 10 n.toNat
    show (dgs 10 n.toNat).length ≤ 600
    omega
  · simp
theorem heldS {W1 w w' : World} {a b : Addr} {u v : Value} (hb : Below w.heap.size w w') (h : Below W1.heap.size W1 w ∧ w.cell? a = some u ∧ w.cell? b = some v) : Below W1.heap.size W1 w' ∧ w'.cell? a = some u ∧ w'.cell? b = some v :=
  ⟨bon h.1 hb, cell_up hb h.2.1, cell_up hb h.2.2⟩
/-- the pieces of texts -/
abbrev verB : ByteArray := ⟨#[72, 84, 84, 80, 47, 49, 46]⟩
abbrev spB : ByteArray := ⟨#[32]⟩
abbrev crB : ByteArray := ⟨#[13, 10]⟩
abbrev coB : ByteArray := ⟨#[58, 32]⟩
theorem ver_dl {mi : Int} {x : ByteArray} (hx : dl x = textN mi 10) : dl (verB ++ x) = verT mi := by rw [dl_app, hx]; rfl

set_option maxRecDepth 100000 in
set_option maxHeartbeats 2000000 in
theorem line_any (m t : ByteArray) (st : Int) (r : ByteArray) (mi : Int) (A : Option Addr) (n c : Nat) (fs : List Fd) (a : Bool) (w : World) (hm : m.size ≤ 4096) (ht : t.size ≤ 4096) (hr : r.size ≤ 4096) (hmi : mi ≤ 1) (hst : st ≤ 599) (hT : Tabs w) :
    Calls Tryz.prog 24 #[.agg #[.string m, .string t, .int .i64 st, .string r, .int .i64 mi, .slice A n c], .bool a] w (TextEnds (firstT (hdOf m t st r mi fs) a) w) := by
  have hT0 := hT.up (ba1 w (.cells #[.string m, .string t, .int .i64 st, .string r, .int .i64 mi, .slice A n c] 30))
  have HC := Lib.hid (Nm.text_any mi _ hT0)
  go_enter Tryz.func24, Tryz.ntmps24
  go_wp2_with fail
  refine HC.out.mono ?_
  rintro e w1 ⟨x, rfl, hx, hb1⟩
  have hxs := text_small (n := mi) (by omega) hx
  have HV := Lib.hid (ver_dl hx)
  have bx := (Box.new w 30 #[.string m, .string t, .int .i64 st, .string r, .int .i64 mi, .slice A n c]).up hb1
  have hbw := bon (ba1 w (.cells #[.string m, .string t, .int .i64 st, .string r, .int .i64 mi, .slice A n c] 30)) hb1
  have hT1 := hT0.up hb1
  clear HC hT hT0 hb1 hx
  obtain ⟨c0, c1, c2, c3, c4, c5⟩ := bx.six
  obtain ⟨g, hg⟩ : ∃ g, w.heap.size = g := ⟨_, rfl⟩
  rw [hg] at c0 c1 c2 c3 c4 c5 ⊢
  have HG := Lib.hid hg
  clear hg bx
  have z7 : verB.size = 7 := rfl
  have z1 : spB.size = 1 := rfl
  have y1 : (verB ++ x).size = 7 + x.size := by rw [ByteArray.size_append, z7]
  cases a with
  | false =>
    have y2 : (m ++ spB).size = m.size + 1 := by rw [ByteArray.size_append, z1]
    have y3 : (m ++ spB ++ t).size = m.size + 1 + t.size := by rw [ByteArray.size_append, y2]
    have y4 : (m ++ spB ++ t ++ spB).size = m.size + 1 + t.size + 1 := by rw [ByteArray.size_append, y3, z1]
    have HE : Hid (dl (m ++ spB ++ t ++ spB ++ (verB ++ x)) = firstT (hdOf m t st r mi fs) false) := Lib.hid (by
      rw [dl_app, HV.out, dl_app, dl_app, dl_app]
      rfl)
    go_wp2
    go_ret
    exact ⟨_, rfl, HE.out, hbw⟩
  | true =>
    go_wp2_with fail
    have yV : (verB ++ x).size ≤ 700 := by omega
    clear y1
    generalize verB ++ x = V at *
    have k1 := fun W => run_string_add_sum (P := Tryz.prog) W V spB (by omega)
    have hV1 : (V ++ spB).size = V.size + 1 := by rw [ByteArray.size_append, z1]
    go_region_held3 (fun w' => Below w1.heap.size w1 w' ∧ w'.cell? ⟨g, 2, none⟩ = some (.int .i64 st) ∧ w'.cell? ⟨g, 3, none⟩ = some (.string r))
      (first | exact heldS hbP (by assumption) | exact ⟨(Below.refl _ _).drew, c2, c3⟩)
      (first
        | (go_at_call 45; refine (Nm.text_any st _ (hT1.up ?_)).mono ?_; (simp only [*]); rintro e wP ⟨y, rfl, hy, hbP⟩; have hys := text_small hst hy; have k2 := fun W => run_string_add_sum (P := Tryz.prog) W (V ++ spB) y (by omega); have hV2 : (V ++ spB ++ y).size = V.size + 1 + y.size := (by rw [ByteArray.size_append, hV1]); have k3 := fun W => run_string_add_sum (P := Tryz.prog) W (V ++ spB ++ y) spB (by omega); have hV3 : (V ++ spB ++ y ++ spB).size = V.size + 1 + y.size + 1 := (by rw [ByteArray.size_append, hV2, z1]); have k4 := fun W => run_string_add_sum (P := Tryz.prog) W (V ++ spB ++ y ++ spB) r (by omega)))
    rename_i hHeld
    have hfin := hHeld.1
    have HE : Hid (dl (V ++ spB ++ y ++ spB ++ r) = firstT (hdOf m t st r mi fs) true) := Lib.hid (by
      rw [dl_app, dl_app, dl_app, dl_app, HV.out, show dl y = textN st 10 from hy]
      rfl)
    clear hHeld k1 k2 k3 k4
    go_wp2
    go_ret
    exact ⟨_, rfl, HE.out, bon hbw hfin⟩

/-- the fields' texts -/
def fT (fs : List Fd) : Bs := (dls fs).flatMap fieldT
theorem fT_succ {fs : List Fd} {k : Nat} {x y : ByteArray} (h : fs[k]? = some (x, y)) : fT (fs.take (k + 1)) = fT (fs.take k) ++ (dl x ++ [58, 32] ++ dl y ++ crlf) := by
  unfold fT
  rw [List.take_add_one, h]
  simp [dls, fieldT]
theorem text_parts (m t : ByteArray) (st : Int) (r : ByteArray) (mi : Int) (fs : List Fd) (a : Bool) : textH (hdOf m t st r mi fs) a = firstT (hdOf m t st r mi []) a ++ crlf ++ fT fs ++ crlf := rfl

set_option maxRecDepth 100000 in
set_option maxHeartbeats 2000000 in
theorem rtextH_any (m t : ByteArray) (st : Int) (r : ByteArray) (mi : Int) (A : Option Addr) (n c : Nat) (fs : List Fd) (a : Bool) (w : World) (hm : m.size ≤ 4096) (ht : t.size ≤ 4096) (hr : r.size ≤ 4096) (hmi : mi ≤ 1) (hst : st ≤ 599) (hL : Fs w ⟨A, n, c⟩ fs) (hn : n ≤ 4096) (hf : Few fs) :
    Calls Tryz.prog 10 #[.agg #[.string m, .string t, .int .i64 st, .string r, .int .i64 mi, .slice A n c], .bool a] w (TextEnds (textH (hdOf m t st r mi fs) a) w) := by
  have HL := Lib.hid hL
  have HF := Lib.hid hf
  have hlen : Hid (fs.length = n) := Lib.hid hL.len
  have HTP := Lib.hid (text_parts m t st r mi fs a)
  clear hL hf
  go_enter Tryz.func10, Tryz.ntmps10
  go_wp2_with fail
  refine (Nm.rtext_any mi 10 _).mono ?_
  rintro e w1 ⟨x, rfl, hx, hb1⟩
  have hxs := text_small (n := mi) (by omega) hx
  have HV := Lib.hid (ver_dl hx)
  have bx := (Box.new w 30 #[.string m, .string t, .int .i64 st, .string r, .int .i64 mi, .slice A n c]).up hb1
  have hbw := bon (ba1 w (.cells #[.string m, .string t, .int .i64 st, .string r, .int .i64 mi, .slice A n c] 30)) hb1
  clear hb1 hx
  obtain ⟨c0, c1, c2, c3, c4, c5⟩ := bx.six
  obtain ⟨g, hg⟩ : ∃ g, w.heap.size = g := ⟨_, rfl⟩
  rw [hg] at c0 c1 c2 c3 c4 c5 bx ⊢
  have HG := Lib.hid hg
  clear hg
  have z7 : verB.size = 7 := rfl
  have z1 : spB.size = 1 := rfl
  have z2 : crB.size = 2 := rfl
  have z3 : coB.size = 2 := rfl
  have y1 : (verB ++ x).size = 7 + x.size := by rw [ByteArray.size_append, z7]
  have y2 : (m ++ spB).size = m.size + 1 := by rw [ByteArray.size_append, z1]
  have y3 : (m ++ spB ++ t).size = m.size + 1 + t.size := by rw [ByteArray.size_append, y2]
  have y4 : (m ++ spB ++ t ++ spB).size = m.size + 1 + t.size + 1 := by rw [ByteArray.size_append, y3, z1]
  have y5 : (m ++ spB ++ t ++ spB ++ (verB ++ x)).size = m.size + 1 + t.size + 1 + (7 + x.size) := by rw [ByteArray.size_append, y4, y1]
  have y6 : (m ++ spB ++ t ++ spB ++ (verB ++ x) ++ crB).size = m.size + 1 + t.size + 1 + (7 + x.size) + 2 := by rw [ByteArray.size_append, y5, z2]
  cases a
  case' false =>
    have HE : Hid (dl (m ++ spB ++ t ++ spB ++ (verB ++ x) ++ crB) = firstT (hdOf m t st r mi []) false ++ crlf) := Lib.hid (by
      rw [dl_app, dl_app, HV.out, dl_app, dl_app, dl_app]
      rfl)
    have hs0 : (m ++ spB ++ t ++ spB ++ (verB ++ x) ++ crB).size ≤ 12000 := by omega
    go_wp2_with fail
    generalize m ++ spB ++ t ++ spB ++ (verB ++ x) ++ crB = s0 at *
    have hfin : Below w1.heap.size w1 w1 := Below.refl _ _
  case' true =>
    go_wp2_with fail
    have yV : (verB ++ x).size ≤ 700 := by omega
    clear y1 y5 y6
    generalize verB ++ x = V at *
    have k1 := fun W => run_string_add_sum (P := Tryz.prog) W V spB (by omega)
    have hV1 : (V ++ spB).size = V.size + 1 := by rw [ByteArray.size_append, z1]
    go_region_held3 (fun w' => Below w1.heap.size w1 w' ∧ w'.cell? ⟨g, 2, none⟩ = some (.int .i64 st) ∧ w'.cell? ⟨g, 3, none⟩ = some (.string r))
      (first | exact heldS hbP (by assumption) | exact ⟨(Below.refl _ _).drew, c2, c3⟩)
      (first
        | (go_at_call 18; refine (Nm.rtext_any st 10 _).mono ?_; rintro e wP ⟨y, rfl, hy, hbP⟩; have hys := text_small hst hy; have k2 := fun W => run_string_add_sum (P := Tryz.prog) W (V ++ spB) y (by omega); have hV2 : (V ++ spB ++ y).size = V.size + 1 + y.size := (by rw [ByteArray.size_append, hV1]); have k3 := fun W => run_string_add_sum (P := Tryz.prog) W (V ++ spB ++ y) spB (by omega); have hV3 : (V ++ spB ++ y ++ spB).size = V.size + 1 + y.size + 1 := (by rw [ByteArray.size_append, hV2, z1]); have k4 := fun W => run_string_add_sum (P := Tryz.prog) W (V ++ spB ++ y ++ spB) r (by omega); have hV4 : (V ++ spB ++ y ++ spB ++ r).size = V.size + 1 + y.size + 1 + r.size := (by rw [ByteArray.size_append, hV3]); have k5 := fun W => run_string_add_sum (P := Tryz.prog) W (V ++ spB ++ y ++ spB ++ r) crB (by omega)))
    rename_i hHeld
    have hfin := hHeld.1
    have HE : Hid (dl (V ++ spB ++ y ++ spB ++ r ++ crB) = firstT (hdOf m t st r mi []) true ++ crlf) := Lib.hid (by
      rw [dl_app, dl_app, dl_app, dl_app, dl_app, HV.out, show dl y = textN st 10 from hy]
      rfl)
    have hs0 : (V ++ spB ++ y ++ spB ++ r ++ crB).size ≤ 12000 := by rw [ByteArray.size_append, hV4, z2]; omega
    clear hHeld k1 k2 k3 k4 k5 hV1 hV2 hV3 hV4
    go_wp2_with fail
    generalize V ++ spB ++ y ++ spB ++ r ++ crB = s0 at *
  all_goals
    have bW := bx.up hfin
    have hbW := bon hbw hfin
    clear hbw hfin c0 c1 c2 c3 c4 c5 y2 y3 y4
    rw [← HG.out] at bW
    go_loopw [7, 6] (fun i u wr => ∃ (k : Nat) (v : ByteArray), k ≤ n ∧ i = .int .i64 (k : Int) ∧ u = .string v ∧ v.size ≤ 12000 + k * 9000 ∧ Hid (dl v = dl s0 ++ fT (fs.take k)) ∧ Hid (Box wr w.heap.size 30 #[.string m, .string t, .int .i64 st, .string r, .int .i64 mi, .slice A n c] ∧ Below w.heap.size w wr)) (fun i _ _ => n - (intOf i).toNat)
    case atStart => exact ⟨0, s0, Nat.zero_le _, rfl, rfl, by omega, Lib.hid (by simp [fT, dls]), Lib.hid ⟨bW, hbW⟩⟩
    case round =>
      obtain ⟨k, v, hk, rfl, rfl, hvs, HVk, HB⟩ := hrel
      have d5 := HB.out.1.c 5 rfl
      rw [HG.out] at d5
      by_cases hlt : k < n
      · obtain ⟨b, o, x, y, hA, hb, hx, c1, d1⟩ := (HL.out.up HB.out.2).cell (k := k) hlt
        simp only at hA
        subst hA
        obtain ⟨zx, zy⟩ := HF.out _ (List.mem_of_getElem? hx)
        simp only at zx zy
        have HS := Lib.hid (fT_succ hx)
        clear hx
        have hki : (k : Int) < (n : Int) := by omega
        have hk0 : (0 : Int) ≤ (k : Int) := by omega
        have k1 := fun W => run_string_add_sum (P := Tryz.prog) W v x (by omega)
        have hV1 : (v ++ x).size = v.size + x.size := by rw [ByteArray.size_append]
        have k2 := fun W => run_string_add_sum (P := Tryz.prog) W (v ++ x) coB (by omega)
        have hV2 : (v ++ x ++ coB).size = v.size + x.size + 2 := by rw [ByteArray.size_append, hV1, z3]
        have k3 := fun W => run_string_add_sum (P := Tryz.prog) W (v ++ x ++ coB) y (by omega)
        have hV3 : (v ++ x ++ coB ++ y).size = v.size + x.size + 2 + y.size := by rw [ByteArray.size_append, hV2]
        have k4 := fun W => run_string_add_sum (P := Tryz.prog) W (v ++ x ++ coB ++ y) crB (by omega)
        have HN : Hid (dl (v ++ x ++ coB ++ y ++ crB) = dl s0 ++ fT (fs.take (k + 1))) := Lib.hid (by
          rw [dl_app, dl_app, dl_app, dl_app, HVk.out, HS.out]
          simp [crlf]
          rfl)
        have hV4 : (v ++ x ++ coB ++ y ++ crB).size ≤ 12000 + (k + 1) * 9000 := by rw [ByteArray.size_append, hV3, z2]; omega
        clear hV1 hV2 hV3
        go_wp2_with fail
        go_quiet (fail)
        clear k1 k2 k3 k4
        go_wp2
        go_roundw
        case rel => exact ⟨k + 1, _, by omega, by go_num, rfl, hV4, HN, Lib.hid ⟨HB.out.1.up (below_drewN (Below.refl _ _) _), below_drewN HB.out.2 _⟩⟩
        case measure => simp [intOf]; omega
      · obtain rfl : k = n := by omega
        have hki : ¬ (k : Int) < (k : Int) := by omega
        have HEE : Hid (dl (v ++ crB) = textH (hdOf m t st r mi fs) _) := Lib.hid (by
          rw [dl_app, HVk.out, HTP.out, HE.out, List.take_of_length_le (by rw [hlen.out]; exact Nat.le_refl _)]
          rfl)
        clear HVk
        go_wp2
        go_ret
        exact ⟨_, rfl, HEE.out, HB.out.2⟩
end Go.Proofs.YteefjcllbnmegaaGreatDoor
