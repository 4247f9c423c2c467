/-
  The walk of quote's own Quote.
-/
import Derived.Test.YtmogeehhlfjlcaaDoorQu
namespace Go.Proofs.YtmogeehhlfjlcaaDoor
open Go.RowKit

theorem at_up {T e : TypeId} {B b : Nat} {p : Value} {bs : List Value} {w w' : World} (h : Lib.BuilderAtF T e B b p bs w) (hb : Below w.heap.size w w') : Lib.BuilderAtF T e B b p bs w' := by
  obtain ⟨hB, v, hbk, hown, hne⟩ := h
  refine ⟨hB, v, (hb.block b (Array.getElem?_eq_some_iff.1 hbk).1).trans hbk, ⟨hown.1, ?_⟩, hne⟩
  rcases hown.2 with hn | ⟨g, cap, cur, fz, hv, hbg, hg, rest⟩
  · exact .inl hn
  · exact .inr ⟨g, cap, cur, fz, hv, hbg, (hb.block g (Array.getElem?_eq_some_iff.1 hg).1).trans hg, rest⟩
/-- the builder in block B holds those bytes -/
def Bd (W : World) (B : Nat) (t : Bs) : Prop := Lib.IsBuilderF 36 5 B B (Lib.byteCells t) W
theorem Bd.up {B : Nat} {t : Bs} {w w' : World} (h : Bd w B t) (hb : Below w.heap.size w w') : Bd w' B t :=
  Or.elim h (fun x => .inl (at_up x hb)) (fun x => .inr (at_up x hb))
theorem Bd.new (w : World) : Bd (w.alloc (.cells #[.pointer none, .slice none 0 0] 36)) w.heap.size [] :=
  .inl ⟨Nat.le_refl _, .slice none 0 0, heap_alloc_new w _, ⟨rfl, .inl ⟨rfl, rfl⟩⟩, by simp [Value.ownBlock]⟩
theorem Bd.it {W : World} {B g : Nat} {t s : Bs} {pos : Nat} (h : Bd W B t) (hi : ItAt W g s pos) (p : Nat) : Bd (W.iterAt g (tb s) p) B t := Lib.IsBuilderF.iterAt h hi p
/-- what is handed back when a text was written: the builder holds it behind what it held; iterators stand -/
def PutEnds (B : Nat) (t z : Bs) (w : World) (w' : World) : Prop := Bd w' B (t ++ z) ∧ Below B w w' ∧ ∀ g s pos, ItAt w g s pos → g ≠ B → ItAt w' g s pos
theorem put_any (B : Nat) (t z : Bs) (w : World) (h : Bd w B t) (hl : t.length + z.length ≤ 140737488355328) (hB : B ≤ w.heap.size) : Calls Tryd.prog 10 #[.pointer (some ⟨B, 0, none⟩), .string (tb z)] w (fun e w' => e = .returned (.tuple #[.int .i64 (z.length : Int), .nilIface]) ∧ PutEnds B t z w w') := by
  refine (sh_WriteString B B (Lib.byteCells t) (tb z) w h (by rw [Lib.byteCells_length, tb_size]; exact hl) hB).mono ?_
  rintro e w' ⟨rfl, h1, h2, h3⟩
  refine ⟨by rw [tb_size], ?_, h2, fun g s pos hg hne => h3.iter hg hne⟩
  refine .inr ?_
  rw [Lib.byteCells_append, ← show Lib.strCells (tb z) = Lib.byteCells z from Lib.strCells_eq (tb z)]
  exact h1
theorem text_any (B : Nat) (t : Bs) (w : World) (h : Bd w B t) (hB : B ≤ w.heap.size) : Calls Tryd.prog 12 #[.pointer (some ⟨B, 0, none⟩)] w (fun e w' => e = .returned (.string (tb t)) ∧ Below B w w') := by
  refine (sh_String B B t w h hB).mono ?_
  rintro e w' ⟨rfl, _, h2, _⟩
  exact ⟨rfl, h2⟩
theorem flat_max (s : Bs) : (s.flatMap qb).length ≤ 6 * s.length := by
  induction s with
  | nil => simp
  | cons c t ih =>
    have h : (qb c).length ≤ 6 := by
      unfold qb
      repeat' split
      all_goals simp
    rw [List.flatMap_cons, List.length_append]
    simp only [List.length_cons]
    omega

/-- where Quote stands: acc is written of the text up to pos -/
def QS (s : Bs) (pos : Nat) (acc : Bs) : Prop := pos ≤ s.length ∧ VL (s.drop pos) ∧ acc ++ (s.drop pos).flatMap qb = s.flatMap qb
theorem QS.len {s acc : Bs} {pos : Nat} (h : QS s pos acc) : acc.length ≤ 6 * s.length := by
  have h1 := congrArg List.length h.2.2
  have h2 := flat_max s
  rw [List.length_append] at h1
  omega
theorem QS.go {s acc : Bs} {pos : Nat} (h : QS s pos acc) (hlt : pos < s.length) : ∃ ch, charB ch = true ∧ decR (s.drop pos) = (cpL ch, ch.length) ∧ QS s (pos + ch.length) (acc ++ ch.flatMap qb) ∧ 0 < ch.length ∧ ch.length ≤ s.length - pos := by
  obtain ⟨h1, h2, h3⟩ := h
  have hl : (s.drop pos).length = s.length - pos := List.length_drop
  obtain ⟨l, hd⟩ : ∃ l, s.drop pos = l := ⟨_, rfl⟩
  rw [hd] at h2 h3 hl ⊢
  cases h2 with
  | nil => simp at hl; omega
  | cons ch r hc hr =>
    have hw := wid_char hc r
    have hp := char_pos hc
    rw [List.length_append] at hl
    have hdr : s.drop (pos + ch.length) = r := by rw [← List.drop_drop, hd, List.drop_left]
    refine ⟨ch, hc, ?_, ⟨by omega, by rw [hdr]; exact hr, ?_⟩, hp, by omega⟩
    · refine Prod.ext ?_ ?_
      · rw [dec_fst (by omega), hw, List.take_left]
      · rw [dec_snd (by omega), hw]
    · rw [hdr, ← h3, List.flatMap_append, List.append_assoc]

set_option maxRecDepth 100000 in
set_option maxHeartbeats 4000000 in
theorem quote_any (s : Bs) (hs : s.length ≤ 1000000) (w : World) (hT : TQ w) : Calls Tryd.prog 7 #[.string (tb s)] w (QuoEnds (quoteQ s) w) := by
  have HV := Lib.hid (valid_any s hs w)
  unfold quoteQ
  cases hv : validL s with
  | false =>
    rw [hv] at HV
    rw [if_neg (by decide)]
    clear hv
    go_enter Tryd.func7, Tryd.ntmps7
    go_wp2_with fail
    refine HV.out.mono ?_
    rintro e w1 ⟨rfl, hb⟩
    go_wp2
    refine bodyPost_ret (v := .tuple #[.string ⟨#[]⟩, .int .i64 30]) (by simp [results, Tryd.results7, go_sem]) rfl ?_
    exact ⟨rfl, hb⟩
  | true =>
    rw [hv] at HV
    rw [if_pos rfl]
    have HQ0 : Hid (QS s 0 []) := Lib.hid ⟨Nat.zero_le _, (valid_iff s).1 hv, rfl⟩
    obtain ⟨Q, hQ⟩ : ∃ Q, quoteL s = Q := ⟨_, rfl⟩
    rw [hQ]
    replace hQ := Lib.hid hQ
    have HT := Lib.hid hT
    have HS := Lib.hid hs
    clear hv hT hs
    go_enter Tryd.func7, Tryd.ntmps7
    go_wp2_with fail
    refine HV.out.mono ?_
    rintro e w1 ⟨rfl, hb1⟩
    clear HV
    go_upto_region 4 with fail
    have HB0 := Lib.hid (bon hb1 (ba1 w1 (.cells #[.pointer none, .slice none 0 0] 36)))
    have HD0 := Lib.hid (Bd.new w1)
    obtain ⟨B, hB⟩ : ∃ B, w1.heap.size = B := ⟨_, rfl⟩
    have HBs : Hid (w.heap.size ≤ B) := Lib.hid (by rw [← hB]; exact hb1.size)
    have HBz : Hid (B ≤ (w1.alloc (.cells #[.pointer none, .slice none 0 0] 36)).heap.size) := Lib.hid (by rw [← hB]; exact (ba1 w1 _).size)
    rw [hB] at HD0 ⊢
    clear hB hb1
    generalize w1.alloc (.cells #[.pointer none, .slice none 0 0] 36) = W0 at *
    have HW := Lib.hid (put_any B [] [34] W0 HD0.out (by decide) HBz.out)
    go_wp2_with fail
    refine HW.out.mono ?_
    rintro e W1 ⟨rfl, hd1, hc1, _⟩
    have HD1 := Lib.hid hd1
    have HB1 : Hid (Below w.heap.size w W1) := Lib.hid (HB0.out.trans (hc1.mono HBs.out))
    have HZ1 : Hid (B < W1.heap.size) := Lib.hid (by
      have h := hd1
      rcases h with ⟨_, _, h, _⟩ | ⟨_, _, h, _⟩
      · exact (Array.getElem?_eq_some_iff.1 h).1
      · exact (Array.getElem?_eq_some_iff.1 h).1)
    clear hd1 hc1 HW HD0 HB0 HBz
    go_wp2
    have HI2 := Lib.hid (ItAt.new W1 s)
    have hb2 : Below W1.heap.size W1 (W1.iter (tb s) 0) := ba1 W1 _
    have HD2 := Lib.hid (HD1.out.up hb2)
    have HB2 := Lib.hid (bon HB1.out hb2)
    obtain ⟨g, hg⟩ : ∃ g, W1.heap.size = g := ⟨_, rfl⟩
    rw [hg] at HI2 HZ1 ⊢
    clear hg hb2 HD1 HB1
    generalize W1.iter (tb s) 0 = W2 at *
    go_loopw [] (fun wr => ∃ (pos : Nat) (acc : Bs), Hid (QS s pos acc) ∧ Hid (Bd wr B (34 :: acc)) ∧ Hid (ItAt wr g s pos) ∧ Hid (Below w.heap.size w wr)) (fun wr => s.length - wr.iterPos g)
    case atStart => exact ⟨0, [], HQ0, HD2, HI2, HB2⟩
    case round =>
      obtain ⟨pos, acc, HQ, HD, HI, HB⟩ := hrel
      have hmu : wr.iterPos g = pos := HI.out.pos
      have hBw : B ≤ wr.heap.size := by have := HI.out.lt; have := HZ1.out; omega
      have hgB : B ≤ g := by have := HZ1.out; omega
      have HL := Lib.hid HQ.out.len
      by_cases hlt : pos < s.length
      case pos =>
        obtain ⟨ch, hc, hdc, hQ1, hp1, hp2⟩ := HQ.out.go hlt
        have hnx := fun ty => Lib.run_next_any_at (P := Tryd.prog) wr g (tb s) pos ty HI.out (by rw [tb_size]; exact hlt)
        rw [dec_tb s pos hlt, hdc] at hnx
        have HI1 : Hid (ItAt (wr.iterAt g (tb s) (pos + ch.length)) g s (pos + ch.length)) := Lib.hid (Lib.iterAt_heap wr g (tb s) pos (pos + ch.length) HI.out)
        have HB1 := Lib.hid (Lib.below_iterAt HB.out (k := g) (by have := HBs.out; omega) (tb s) (pos + ch.length))
        have HD1 := Lib.hid (HD.out.it HI.out (pos + ch.length))
        have hBw1 : B ≤ (wr.iterAt g (tb s) (pos + ch.length)).heap.size := by rw [Lib.iterAt_size]; exact hBw
        have HQ1 := Lib.hid hQ1
        have hfl : (ch.flatMap qb).length ≤ 24 := by
          have h := flat_max ch
          have := (enc_char (n := cpL ch) (enc_cp hc).2.1 (enc_cp hc).2.2.1).2
          rw [(enc_cp hc).1] at this
          omega
        simp only at hnx
        generalize wr.iterAt g (tb s) (pos + ch.length) = W3 at *
        have HW := Lib.hid (written_any ch hc W3 (HT.out.up HB1.out))
        obtain ⟨z, hz⟩ : ∃ z, (cpL ch : Int) = z := ⟨_, rfl⟩
        rw [hz] at HW hnx
        obtain ⟨X, hX⟩ : ∃ X, ch.flatMap qb = X := ⟨_, rfl⟩
        obtain ⟨K, hK⟩ : ∃ K, ch.length = K := ⟨_, rfl⟩
        rw [hX] at HW hfl HQ1
        rw [hK] at HI1 HQ1 hp1 hp2
        clear hz hX hK hdc hQ1 hc HQ HI HB HD hBw HD2 HI2 HB2 HQ0
        go_wp2_with fail
        refine HW.out.mono ?_
        rintro e w4 ⟨rfl, hb4⟩
        have HD4 := Lib.hid (HD1.out.up hb4)
        have HB4 := Lib.hid (bon HB1.out hb4)
        have HI4 : Hid (ItAt w4 g s (pos + K)) := Lib.hid (HI1.out.low HI1.out.lt hb4)
        have hBw4 : B ≤ w4.heap.size := Nat.le_trans hBw1 hb4.size
        have HP := Lib.hid (put_any B (34 :: acc) X w4 HD4.out (by rw [List.length_cons]; have := HL.out; have := HS.out; omega) hBw4)
        clear hb4 HW HD1 HB1 HI1 hBw1 hBw4 HD4
        go_wp2_with fail
        refine HP.out.mono ?_
        rintro e w5 ⟨rfl, hd5, hc5, hi5⟩
        have HD5 : Hid (Bd w5 B (34 :: (acc ++ X))) := Lib.hid hd5
        have HI5 := Lib.hid (hi5 g s (pos + K) HI4.out (by have := HZ1.out; omega))
        have HB5 : Hid (Below w.heap.size w w5) := Lib.hid (HB4.out.trans (hc5.mono HBs.out))
        have hmu5 : w5.iterPos g = pos + K := HI5.out.pos
        clear hd5 hc5 hi5 HP HI4 HB4
        go_wp2
        go_roundw
        case rel => exact ⟨pos + K, acc ++ X, HQ1, HD5, HI5, HB5⟩
        case measure =>
          rw [hmu, hmu5]
          omega
      case neg =>
        have hnx := fun ty => Lib.run_next_end_at (P := Tryd.prog) wr g (tb s) pos ty HI.out (by rw [tb_size]; exact hlt)
        have HF : Hid (34 :: (acc ++ [34]) = Q) := Lib.hid (by
          have h := HQ.out.2.2
          rw [List.drop_of_length_le (by omega), List.flatMap_nil, List.append_nil] at h
          rw [← hQ.out, quoteL, h])
        have HP := Lib.hid (put_any B (34 :: acc) [34] wr HD.out (by rw [List.length_cons]; have := HL.out; have := HS.out; simp; omega) hBw)
        clear HD HI hmu
        go_wp2_with fail
        refine HP.out.mono ?_
        rintro e w5 ⟨rfl, hd5, hc5, _⟩
        have HD5 : Hid (Bd w5 B Q) := Lib.hid (by rw [← HF.out]; exact hd5)
        have HB5 : Hid (Below w.heap.size w w5) := Lib.hid (HB.out.trans (hc5.mono HBs.out))
        have hBw5 : B ≤ w5.heap.size := Nat.le_trans hBw hc5.size
        clear hd5 HP HF
        have HG := Lib.hid (text_any B Q w5 HD5.out (Nat.le_trans hBw5 (Nat.le_refl _)))
        go_wp2_with fail
        refine HG.out.mono ?_
        rintro e w6 ⟨rfl, hc6⟩
        have HB6 : Hid (Below w.heap.size w w6) := Lib.hid (HB5.out.trans (hc6.mono HBs.out))
        clear hc6 HG hc5
        go_wp2
        refine bodyPost_ret (v := .tuple #[.string (tb Q), .int .i64 0]) (by simp [results, Tryd.results7, go_sem]) rfl ?_
        exact ⟨rfl, HB6.out⟩
end Go.Proofs.YtmogeehhlfjlcaaDoor
