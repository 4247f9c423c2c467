/-
  The walk of chunk's own Encode.
-/
import Derived.Test.YtaoajilgilbmmaaDoorPgA
import Derived.Test.YtaoajilgilbmmaaDoorNBits
import Derived.Test.YtaoajilgilbmmaaDoorShelf
namespace Go.Proofs.YtaoajilgilbmmaaDoor
open Go.RowKit

theorem at_up {T e : TypeId} {B b : Nat} {p : Value} {bs : List Value} {w w' : World} (h : Lib.BuilderAtF T e B b p bs w) (hb : Below w.heap.size w w') : Lib.BuilderAtF T e B b p bs w' := by
  obtain ⟨hB, v, hbk, hown, hne⟩ := h
  refine ⟨hB, v, (hb.block b (Array.getElem?_eq_some_iff.1 hbk).1).trans hbk, ⟨hown.1, ?_⟩, hne⟩
  rcases hown.2 with hn | ⟨g, cap, cur, fz, hv, hbg, hg, rest⟩
  · exact .inl hn
  · exact .inr ⟨g, cap, cur, fz, hv, hbg, (hb.block g (Array.getElem?_eq_some_iff.1 hg).1).trans hg, rest⟩
theorem isb_up {T e : TypeId} {B b : Nat} {bs : List Value} {w w' : World} (h : Lib.IsBuilderF T e B b bs w) (hb : Below w.heap.size w w') : Lib.IsBuilderF T e B b bs w' :=
  h.elim (fun x => .inl (at_up x hb)) (fun x => .inr (at_up x hb))
theorem isb_new (w : World) : Lib.IsBuilderF 47 5 w.heap.size w.heap.size (Lib.byteCells []) (w.alloc (.cells #[.pointer none, .slice none 0 0] 47)) :=
  .inl ⟨Nat.le_refl _, .slice none 0 0, heap_alloc_new w _, ⟨rfl, .inl ⟨rfl, rfl⟩⟩, by simp [Value.ownBlock]⟩
theorem isb_put {B : Nat} {t : Bs} {z : ByteArray} {w : World} (h : Lib.BuilderAtF 47 5 B B (.pointer (some ⟨B, 0, none⟩)) (Lib.byteCells t ++ Lib.strCells z) w) : Lib.IsBuilderF 47 5 B B (Lib.byteCells (t ++ dl z)) w := by
  refine .inr ?_
  rw [Lib.byteCells_append, ← show Lib.strCells z = Lib.byteCells (dl z) from Lib.strCells_eq z]
  exact h

set_option maxRecDepth 100000 in
set_option maxHeartbeats 4000000 in
theorem cencode_any (s : ByteArray) (k : Int) (hs : s.size ≤ 4611686018427387904) (w : World) (hT : Tabs w) : Calls Tryd.prog 13 #[.string s, .int .i64 k] w (EncEnds (encC (dl s) k) w) := by
  obtain ⟨Q, hQ⟩ : ∃ Q, encC (dl s) k = Q := ⟨_, rfl⟩
  rw [hQ]
  have HD := Lib.hid hQ.symm
  have HTb := Lib.hid hT
  clear hQ hT
  by_cases h1 : k < 1
  · have HV : Hid (Q = ([], 1)) := Lib.hid (by rw [HD.out, encC, if_pos (.inl h1)])
    clear HD
    go_enter Tryd.func13, Tryd.ntmps13
    go_wp2
    refine bodyPost_ret (v := .tuple #[.string ⟨#[]⟩, .int .i64 1]) (by simp [results, Tryd.results13, go_sem]) rfl ?_
    exact ⟨⟨#[]⟩, by rw [HV.out], by rw [HV.out], Below.refl _ _⟩
  · have HI1 := Lib.hid (fun W => inBody_any k W)
    have HI2 := Lib.hid (fun W => inBody_any (s.size : Int) W)
    have HBad : Hid (k < 1 ∨ 4000 < k ∨ 4000 < s.size → Q = ([], 1)) := Lib.hid (fun h => by rw [HD.out, encC, if_pos (by rw [dl_len]; exact h)])
    have HGood : Hid (¬ (k < 1 ∨ 4000 < k ∨ 4000 < s.size) → Q = (encL k.toNat (dl s), 0)) := Lib.hid (fun h => by rw [HD.out, encC, if_neg (by rw [dl_len]; exact h)])
    clear HD
    go_enter Tryd.func13, Tryd.ntmps13
    go_wp2_with fail
    refine (HI1.out _).mono ?_
    rintro e w1 ⟨rfl, hw⟩
    cases hw
    by_cases h2 : 0 ≤ k ∧ k ≤ 4000
    case neg =>
      have HV : Hid (Q = ([], 1)) := Lib.hid (HBad.out (by omega))
      rw [decide_eq_false h2]
      clear h2 HBad HGood
      go_wp2
      refine bodyPost_ret (v := .tuple #[.string ⟨#[]⟩, .int .i64 1]) (by simp [results, Tryd.results13, go_sem]) rfl ?_
      exact ⟨⟨#[]⟩, by rw [HV.out], by rw [HV.out], Below.refl _ _⟩
    case pos =>
      rw [decide_eq_true h2]
      go_wp2_with fail
      refine (HI2.out _).mono ?_
      rintro e w1 ⟨rfl, hw⟩
      cases hw
      by_cases h3 : (0 : Int) ≤ (s.size : Int) ∧ (s.size : Int) ≤ 4000
      case neg =>
        have HV : Hid (Q = ([], 1)) := Lib.hid (HBad.out (by omega))
        rw [decide_eq_false h3]
        clear h2 h3 HBad HGood
        go_wp2
        refine bodyPost_ret (v := .tuple #[.string ⟨#[]⟩, .int .i64 1]) (by simp [results, Tryd.results13, go_sem]) rfl ?_
        exact ⟨⟨#[]⟩, by rw [HV.out], by rw [HV.out], Below.refl _ _⟩
      case pos =>
        rw [decide_eq_true h3]
        have HV := Lib.hid (HGood.out (by omega))
        obtain ⟨K, rfl⟩ := Int.eq_ofNat_of_zero_le (show 0 ≤ k by omega)
        have hK0 : 0 < K := by omega
        have hK4 : K ≤ 4000 := by omega
        have hs4 : s.size ≤ 4000 := by omega
        rw [Int.toNat_natCast] at HV
        have HEL := Lib.hid (enc_len K (dl s).length (dl s) (Nat.le_refl _) (by rw [dl_len]; omega))
        clear h1 h2 h3 HBad HGood HI1 HI2 hs
        go_upto_region 4 with fail
        have HI := Lib.hid (isb_new w)
        have HB0 := Lib.hid (ba1 w (.cells #[.pointer none, .slice none 0 0] 47))
        obtain ⟨B, hB⟩ : ∃ B, w.heap.size = B := ⟨_, rfl⟩
        rw [hB] at HI ⊢
        have HBB := Lib.hid hB
        clear hB
        generalize w.alloc (.cells #[.pointer none, .slice none 0 0] 47) = W0 at *
        go_wp2_with fail
        go_loopw [0] (fun v wr => ∃ (X : ByteArray) (T : Bs), v = .string X ∧ X.size ≤ 4000 ∧ Hid (T.length ≤ 32000) ∧ Hid (encP K (dl s) = T ++ encP K (dl X)) ∧ Hid (Lib.IsBuilderF 47 5 B B (Lib.byteCells T) wr) ∧ Hid (Below w.heap.size w wr)) (fun v _ => szOf v)
        case atStart => exact ⟨s, [], rfl, hs4, Lib.hid (by simp), Lib.hid rfl, HI, HB0⟩
        case round =>
          obtain ⟨X, T, rfl, hX, HTl, HX, HI, HB⟩ := hrel
          have HTw := Lib.hid (HTb.out.up HB.out)
          by_cases hlt : 0 < X.size
          · have hli : (0 : Int) < (X.size : Int) := by omega
            obtain ⟨n, hn⟩ : ∃ n, min K X.size = n := ⟨_, rfl⟩
            have hn0 : 0 < n := by omega
            have hn4 : n < 4096 := by omega
            have hnX : n ≤ X.size := by omega
            have hnXi : (n : Int) ≤ (X.size : Int) := by omega
            have hni : (0 : Int) ≤ (n : Int) := by omega
            have hps : (X.extract 0 n).size = n := by rw [ByteArray.size_extract]; omega
            have hrs : (X.extract n X.size).size = X.size - n := by rw [ByteArray.size_extract]; omega
            have HPl : Hid (dl (X.extract 0 n) = (dl X).take K) := Lib.hid (by
              rw [dl_ext, List.drop_zero]
              by_cases hm : K ≤ X.size
              · congr 1
                omega
              · rw [List.take_of_length_le (by rw [dl_len]; omega), List.take_of_length_le (by rw [dl_len]; omega)])
            have HRl : Hid (dl (X.extract n X.size) = (dl X).drop K) := Lib.hid (by
              rw [dl_ext, List.take_of_length_le (by rw [dl_len]; exact Nat.le_refl _)]
              by_cases hm : K ≤ X.size
              · congr 1
                omega
              · rw [List.drop_of_length_le (by rw [dl_len]; omega), List.drop_of_length_le (by rw [dl_len]; omega)])
            have HEn : Hid (encP K (dl s) = T ++ (textN (n : Int) 16 ++ [13, 10] ++ dl (X.extract 0 n) ++ [13, 10]) ++ encP K (dl (X.extract n X.size))) := Lib.hid (by
              rw [HX.out, enc_cons hK0 (fun e => by have := congrArg List.length e; rw [dl_len, List.length_nil] at this; omega), HPl.out, HRl.out, dl_len, hn]
              simp)
            have HTx := Lib.hid (fun W hW => Nm.text_16 (n : Int) W hW (fit_iff.2 ⟨by omega, by omega⟩))
            have HY := Lib.hid (size_text hn4)
            have z2 : (⟨#[13, 10]⟩ : ByteArray).size = 2 := rfl
            have tmin : min (K : Int) (X.size : Int) = (n : Int) := by omega
            have tmn : min n X.size = n := by omega
            clear hn HX HPl HRl
            go_wp2_with fail
            refine (HTx.out _ HTw.out).mono ?_
            rintro e w2 ⟨y, rfl, hy, hb2⟩
            have hys : y.size ≤ 3 := by have h := HY.out.2.2; rw [← hy] at h; exact h
            have hV2 : (y ++ (⟨#[13, 10]⟩ : ByteArray)).size = y.size + 2 := by rw [ByteArray.size_append, z2]
            have hV3 : (y ++ (⟨#[13, 10]⟩ : ByteArray) ++ X.extract 0 n).size = y.size + 2 + n := by rw [ByteArray.size_append, hV2, hps]
            have hV4 : (y ++ (⟨#[13, 10]⟩ : ByteArray) ++ X.extract 0 n ++ (⟨#[13, 10]⟩ : ByteArray)).size = y.size + 2 + n + 2 := by rw [ByteArray.size_append, hV3, z2]
            have k2 := fun W => run_string_add_sum (P := Tryd.prog) W y (⟨#[13, 10]⟩ : ByteArray) (by omega)
            have k3 := fun W => run_string_add_sum (P := Tryd.prog) W (y ++ (⟨#[13, 10]⟩ : ByteArray)) (X.extract 0 n) (by omega)
            have k4 := fun W => run_string_add_sum (P := Tryd.prog) W (y ++ (⟨#[13, 10]⟩ : ByteArray) ++ X.extract 0 n) (⟨#[13, 10]⟩ : ByteArray) (by omega)
            have HN : Hid (encP K (dl s) = (T ++ dl (y ++ (⟨#[13, 10]⟩ : ByteArray) ++ X.extract 0 n ++ (⟨#[13, 10]⟩ : ByteArray))) ++ encP K (dl (X.extract n X.size))) := Lib.hid (by
              rw [HEn.out, dl_app, dl_app, dl_app, show dl y = textN (n : Int) 16 from hy])
            have HT9 : Hid ((T ++ dl (y ++ (⟨#[13, 10]⟩ : ByteArray) ++ X.extract 0 n ++ (⟨#[13, 10]⟩ : ByteArray))).length ≤ 32000) := Lib.hid (by
              have h := congrArg List.length HN.out
              have h5 := HEL.out
              rw [List.length_append] at h
              rw [dl_len] at h5
              omega)
            have HI2 := Lib.hid (isb_up HI.out hb2)
            have HB2 := Lib.hid (bon HB.out hb2)
            clear hy hb2 HEn HI HB
            go_wp2_with fail
            obtain ⟨Z, hZ⟩ : ∃ Z, y ++ (⟨#[13, 10]⟩ : ByteArray) ++ X.extract 0 n ++ (⟨#[13, 10]⟩ : ByteArray) = Z := ⟨_, rfl⟩
            rw [hZ] at HN HT9 hV4 ⊢
            have hlen : (Lib.byteCells T).length + Z.size ≤ 140737488355328 := by
              have := HTl.out
              rw [Lib.byteCells_length]
              omega
            have hBw : B ≤ w2.heap.size := by have := HB2.out.size; have := HBB.out; omega
            refine (sh_WriteString B B (Lib.byteCells T) Z w2 HI2.out hlen hBw).mono ?_
            rintro e w3 ⟨rfl, hat, hb3, _⟩
            have HI3 := Lib.hid (isb_put hat)
            have HB3 : Hid (Below w.heap.size w w3) := Lib.hid (HB2.out.trans (by rw [HBB.out]; exact hb3))
            clear hat hb3 hlen hBw k2 k3 k4 hZ HI2 HB2
            go_wp2
            go_roundw
            case rel => exact ⟨X.extract n X.size, T ++ dl Z, rfl, by omega, HT9, HN, HI3, HB3⟩
            case measure => simp [szOf]; omega
          · have hli : ¬ (0 : Int) < (X.size : Int) := by omega
            have HV2 : Hid (Q = (T ++ [48, 13, 10, 13, 10], 0)) := Lib.hid (by
              rw [HV.out, encL, HX.out, dl_nil (by omega), enc_nil, List.append_nil])
            have z5 : (⟨#[48, 13, 10, 13, 10]⟩ : ByteArray).size = 5 := rfl
            have hlen : (Lib.byteCells T).length + (⟨#[48, 13, 10, 13, 10]⟩ : ByteArray).size ≤ 140737488355328 := by
              have := HTl.out
              rw [Lib.byteCells_length]
              omega
            have hBw : B ≤ wr.heap.size := by have := HB.out.size; have := HBB.out; omega
            have HWS := Lib.hid (sh_WriteString B B (Lib.byteCells T) ⟨#[48, 13, 10, 13, 10]⟩ wr HI.out hlen hBw)
            clear hlen hBw z5
            go_wp2_with fail
            refine HWS.out.mono ?_
            rintro e w3 ⟨rfl, hat, hb3, _⟩
            have HI3 : Hid (Lib.IsBuilderF 47 5 B B (Lib.byteCells (T ++ [48, 13, 10, 13, 10])) w3) := Lib.hid (isb_put (z := ⟨#[48, 13, 10, 13, 10]⟩) hat)
            have HB3 : Hid (Below w.heap.size w w3) := Lib.hid (HB.out.trans (by rw [HBB.out]; exact hb3))
            clear hat hb3 HWS
            have hBw : B ≤ w3.heap.size := by have := HB3.out.size; have := HBB.out; omega
            have HSt := Lib.hid (sh_String B B (T ++ [48, 13, 10, 13, 10]) w3 HI3.out hBw)
            clear hBw
            go_wp2_with fail
            refine HSt.out.mono ?_
            rintro e w4 ⟨rfl, _, hb4, _⟩
            have HB4 : Hid (Below w.heap.size w w4) := Lib.hid (HB3.out.trans (by rw [HBB.out]; exact hb4))
            clear hb4 HSt
            go_wp2
            refine bodyPost_ret (v := .tuple #[.string ⟨(T ++ [48, 13, 10, 13, 10]).toArray⟩, .int .i64 0]) (by simp [results, Tryd.results13, go_sem]) rfl ?_
            exact ⟨_, by rw [HV2.out], by rw [HV2.out, dl_mk], HB4.out⟩
end Go.Proofs.YtaoajilgilbmmaaDoor
