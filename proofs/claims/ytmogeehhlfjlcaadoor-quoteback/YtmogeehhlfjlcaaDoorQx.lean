/-
  The walk of quote's own Unquote.
-/
import Derived.Test.YtmogeehhlfjlcaaDoorQw
namespace Go.Proofs.YtmogeehhlfjlcaaDoor
open Go.RowKit

theorem rune_any (B : Nat) (t : Bs) (r : Nat) (w : World) (h : Bd w B t) (h1 : r < 1114112) (h2 : r < 55296 ∨ 57343 < r) (hl : t.length + 4 ≤ 140737488355328) (hB : B ≤ w.heap.size) : Calls Tryd.prog 17 #[.pointer (some ⟨B, 0, none⟩), .int .i32 (r : Int)] w (fun e w' => (∃ k : Int, e = .returned (.tuple #[.int .i64 k, .nilIface])) ∧ PutEnds B t (encU r) w w') := by
  refine (sh_WriteRune B B (Lib.byteCells t) (r : Int) (by omega) (by omega) w h (by rw [Lib.byteCells_length]; exact hl) hB).mono ?_
  rintro e w' ⟨rfl, k1, k2, k3⟩
  refine ⟨⟨_, rfl⟩, ?_, k2, fun g s pos hg hne => k3.iter hg hne⟩
  refine .inr ?_
  rw [Lib.byteCells_append, ← lib_enc h1 h2, Lib.byteCells_encodeRune]
  exact k1
theorem Am.it {W : World} {g0 g : Nat} (h : Am W g0) (hne : g0 ≠ g) (s : Bs) (p : Nat) : Am (W.iterAt g (tb s) p) g0 := (Lib.iterAt_other W g g0 (tb s) p hne).trans h
/-- what is passed over has one byte each -/
def Low (s : Bs) (pos N : Nat) : Prop := ∀ p, pos ≤ p → p < N → ∃ a t, s.drop p = a :: t ∧ a.toNat < 128

set_option maxRecDepth 100000 in
set_option maxHeartbeats 4000000 in
theorem unquote_any (s : Bs) (hs : s.length ≤ 1000000) (w : World) : Calls Tryd.prog 9 #[.string (tb s)] w (UnqEnds (unqL s) w) := by
  have HP := Lib.hid (pre_tb s [34] w)
  have hpre : Lib.hasPrefix s [34] = true ↔ ∃ t, s = 34 :: t := pre_iff s [34]
  cases hv : Lib.hasPrefix s [34] with
  | false =>
    rw [hv] at HP
    rw [us_none (fun h => by rw [hpre.2 h] at hv; cases hv)]
    clear hv hpre
    go_enter Tryd.func9, Tryd.ntmps9
    go_wp2_with fail
    refine HP.out.mono ?_
    rintro e w1 ⟨rfl, hw⟩
    cases hw
    go_wp2
    refine bodyPost_ret (v := .tuple #[.string ⟨#[]⟩, .int .i64 0, .int .i64 30]) (by simp [results, Tryd.results9, go_sem]) rfl ?_
    exact ⟨rfl, Below.refl _ _⟩
  | true =>
    rw [hv] at HP
    have HU0 : Hid (US s 1 []) := Lib.hid (by obtain ⟨t, rfl⟩ := hpre.1 hv; exact us_start)
    have HL0 : Hid (Low s 0 1) := Lib.hid (by
      obtain ⟨t, rfl⟩ := hpre.1 hv
      intro p h1 h2
      obtain rfl : p = 0 := by omega
      exact ⟨34, t, rfl, by decide⟩)
    obtain ⟨Q, hQ⟩ : ∃ Q, unqL s = Q := ⟨_, rfl⟩
    rw [hQ]
    replace hQ := Lib.hid hQ
    have HS := Lib.hid hs
    have zs : (tb s).size = s.length := tb_size s
    have HM := Lib.hid (meanings_any w)
    clear hv hs hpre
    go_enter Tryd.func9, Tryd.ntmps9
    go_wp2_with fail
    refine HP.out.mono ?_
    rintro e w1 ⟨rfl, hw⟩
    cases hw
    go_wp2_with fail
    refine HM.out.mono ?_
    rintro e w1 ⟨rfl, ha1, hb1⟩
    have hz1 : w.heap.size < w1.heap.size := (Array.getElem?_eq_some_iff.1 (show w1.heap[w.heap.size]? = _ from ha1)).1
    obtain ⟨g0, hg0⟩ : ∃ g0, w.heap.size = g0 := ⟨_, rfl⟩
    have HA1 : Hid (Am w1 g0) := Lib.hid (by rw [← hg0]; exact ha1)
    have HZ1 : Hid (g0 < w1.heap.size) := Lib.hid (by rw [← hg0]; exact hz1)
    rw [hg0]
    replace hg0 := Lib.hid hg0
    clear HP HM ha1 hz1
    go_upto_region 5 with fail
    have HB0 := Lib.hid (bon hb1 (ba1 w1 (.cells #[.pointer none, .slice none 0 0] 36)))
    have HD0 := Lib.hid (Bd.new w1)
    have HA0 : Hid (Am (w1.alloc (.cells #[.pointer none, .slice none 0 0] 36)) g0) := Lib.hid (HA1.out.low HZ1.out (ba1 w1 _))
    obtain ⟨B, hB⟩ : ∃ B, w1.heap.size = B := ⟨_, rfl⟩
    have HBs : Hid (w.heap.size ≤ B) := Lib.hid (by rw [← hB]; exact hb1.size)
    have HBz : Hid (B < (w1.alloc (.cells #[.pointer none, .slice none 0 0] 36)).heap.size) := Lib.hid (by rw [← hB]; exact (Array.getElem?_eq_some_iff.1 (heap_alloc_new w1 (.cells #[.pointer none, .slice none 0 0] 36))).1)
    rw [hB] at HD0 HZ1 ⊢
    clear hB hb1 HA1
    generalize w1.alloc (.cells #[.pointer none, .slice none 0 0] 36) = W1 at *
    go_wp2
    have HI2 := Lib.hid (ItAt.new W1 s)
    have hb2 : Below W1.heap.size W1 (W1.iter (tb s) 0) := ba1 W1 _
    have HD2 := Lib.hid (HD0.out.up hb2)
    have HB2 := Lib.hid (bon HB0.out hb2)
    have HA2 := Lib.hid (HA0.out.low (B := W1.heap.size) (by have := HZ1.out; have := HBz.out; omega) hb2)
    obtain ⟨g, hg⟩ : ∃ g, W1.heap.size = g := ⟨_, rfl⟩
    rw [hg] at HI2 HBz ⊢
    clear hg hb2 HD0 HB0 HA0
    generalize W1.iter (tb s) 0 = W2 at *
    go_loopw [7] (fun nx wr => ∃ (pos N : Nat) (out : Bs), nx = .int .i64 (N : Int) ∧ pos ≤ N ∧ Hid (US s N out) ∧ Hid (Low s pos N) ∧ Hid (Bd wr B out) ∧ Hid (ItAt wr g s pos) ∧ Hid (Am wr g0) ∧ Hid (Below w.heap.size w wr)) (fun _ wr => s.length - wr.iterPos g)
    case atStart => exact ⟨0, 1, [], rfl, by omega, HU0, HL0, HD2, HI2, HA2, HB2⟩
    case round =>
      obtain ⟨pos, N, out, rfl, hpN, HU, HLo, HD, HI, HA, HB⟩ := hrel
      have hmu : wr.iterPos g = pos := HI.out.pos
      have hBw : B ≤ wr.heap.size := by have := HI.out.lt; have := HBz.out; omega
      have hgB : B ≤ g := by have := HBz.out; omega
      have hNs : N ≤ s.length := HU.out.1
      clear HD2 HI2 HA2 HB2 HU0 HL0
      by_cases hlt : pos < s.length
      case pos =>
        obtain ⟨a, t, hat⟩ : ∃ a t, s.drop pos = a :: t := ⟨_, _, List.drop_eq_getElem_cons hlt⟩
        have hnx := fun ty => Lib.run_next_any_at (P := Tryd.prog) wr g (tb s) pos ty HI.out (by rw [tb_size]; exact hlt)
        rw [dec_tb s pos hlt] at hnx
        have hmx := (dec_max (s.drop pos)).2.1
        have hlow : pos < N → a.toNat < 128 := fun h => by
          obtain ⟨a', t', k1, k2⟩ := HLo.out pos (Nat.le_refl _) h
          rw [hat] at k1
          rw [(List.cons.inj k1).1]
          exact k2
        have h34 : (decR (s.drop pos)).1 = 34 ↔ a = 34 := by
          rw [hat, dec_low (by decide)]
          exact ⟨fun h => UInt8.toNat_inj.1 h, fun h => by rw [h]; rfl⟩
        have h1b : a.toNat < 128 → (decR (s.drop pos)).2 = 1 := fun h => by rw [hat, decR_1 h]
        have hne : s.drop pos ≠ [] := by rw [hat]; simp
        have hdl : (s.drop pos).length ≤ 1000000 := by rw [List.length_drop]; have := HS.out; omega
        have HR := Lib.hid (fun W hW => read_any (s.drop pos) hne hdl g0 W hW)
        have HBad := Lib.hid (fun (h : pos = N) (h34 : a ≠ 34) (h0 : (readR (s.drop pos)).2 = 0) => us_bad (a := a) (t := t) HU.out (by rw [← h]; exact hat) h34 (by rw [← hat]; exact h0))
        have HGo := Lib.hid (fun (h : pos = N) (h34 : a ≠ 34) (h0 : (readR (s.drop pos)).2 ≠ 0) => us_go (a := a) (t := t) HU.out (by rw [← h]; exact hat) h34 (by rw [← hat]; exact h0))
        rw [← hat] at HGo
        have HQt := Lib.hid (fun (h : pos = N) (h34 : a = 34) => us_quote (t := t) HU.out (by rw [← h, ← h34]; exact hat))
        have HOut := Lib.hid HU.out.2.1
        obtain ⟨D, hD⟩ : ∃ D, (decR (s.drop pos)).1 = D := ⟨_, rfl⟩
        obtain ⟨K, hK⟩ : ∃ K, (decR (s.drop pos)).2 = K := ⟨_, rfl⟩
        rw [hD] at hnx h34 HR
        rw [hK] at hnx hmx h1b HGo
        have HI1 : Hid (ItAt (wr.iterAt g (tb s) (pos + K)) g s (pos + K)) := Lib.hid (Lib.iterAt_heap wr g (tb s) pos (pos + K) HI.out)
        have HB1 := Lib.hid (Lib.below_iterAt HB.out (k := g) (by have := HBs.out; omega) (tb s) (pos + K))
        have HD1 := Lib.hid (HD.out.it HI.out (pos + K))
        have HA1 := Lib.hid (HA.out.it (g := g) (by have := HZ1.out; omega) s (pos + K))
        have hBw1 : B ≤ (wr.iterAt g (tb s) (pos + K)).heap.size := by rw [Lib.iterAt_size]; exact hBw
        have hx : (tb s).extract pos s.length = tb (s.drop pos) := by rw [tb_ext, List.take_length]
        have hps : (pos : Int) ≤ (s.length : Int) := by omega
        obtain ⟨l, hl⟩ : ∃ l, s.drop pos = l := ⟨_, rfl⟩
        rw [hl] at HR HBad HGo hx
        generalize wr.iterAt g (tb s) (pos + K) = W3 at *
        have hmu3 : W3.iterPos g = pos + K := HI1.out.pos
        clear hD hK HI HB HD HA hBw hne hdl hl hat
        have HUU := HU
        clear HU
        by_cases hskip : pos < N
        case pos =>
          have hsi : (pos : Int) < (N : Int) := by omega
          have hK1 : K = 1 := h1b (hlow hskip)
          subst hK1
          have HL1 : Hid (Low s (pos + 1) N) := Lib.hid (fun p h1 h2 => HLo.out p (by omega) h2)
          have HU1 := HUU
          clear h34 HBad HGo HQt HR HOut HLo hlow h1b
          go_wp2
          go_roundw
          case rel => exact ⟨pos + 1, N, out, rfl, by omega, HU1, HL1, HD1, HI1, HA1, HB1⟩
          case measure =>
            rw [hmu, hmu3]
            omega
        case neg =>
          obtain rfl : pos = N := by omega
          have hsi : ¬ (pos : Int) < (pos : Int) := by omega
          clear hlow h1b HLo hskip hpN
          by_cases hq : a = 34
          case pos =>
            obtain rfl := h34.2 hq
            have HF : Hid (Q = (out, pos + 1, 0)) := Lib.hid (by rw [← hQ.out]; exact HQt.out rfl hq)
            have HG := Lib.hid (text_any B out W3 HD1.out hBw1)
            have hwr : IntKind.i64.wrap ((pos : Int) + 1) = (pos : Int) + 1 := IntWalk.i64_in _ (by have := HS.out; omega)
            clear h34 HBad HGo HQt HR HOut HD1 HA1 HI1
            go_wp2_with fail
            refine HG.out.mono ?_
            rintro e w6 ⟨rfl, hc6⟩
            have HB6 : Hid (Below w.heap.size w w6) := Lib.hid (HB1.out.trans (hc6.mono HBs.out))
            clear hc6 HG
            go_wp2
            refine bodyPost_ret (v := .tuple #[.string (tb out), .int .i64 ((pos : Int) + 1), .int .i64 0]) (by simp [results, Tryd.results9, go_sem]) rfl ?_
            exact ⟨by rw [HF.out]; rfl, HB6.out⟩
          case neg =>
            have hD34 : ¬ (D : Int) = 34 := fun h => hq (h34.1 (by omega))
            obtain ⟨q, hqq⟩ : ∃ q, readR l = q := ⟨_, rfl⟩
            rw [hqq] at HBad HGo
            have HR1 := Lib.hid (HR.out W3 HA1.out)
            rw [hqq] at HR1
            clear hqq HR h34 HQt
            obtain ⟨r, n⟩ := q
            by_cases hn : n = 0
            case pos =>
              have HF : Hid (Q = ([], pos, 30)) := Lib.hid (by rw [← hQ.out]; exact HBad.out rfl hq hn)
              subst hn
              clear HBad HGo HOut HD1 HI1 HA1
              generalize (D : Int) = z at *
              generalize (r : Int) = y at *
              go_wp2_with fail
              refine HR1.out.mono ?_
              rintro e w6 ⟨rfl, hw⟩
              cases hw
              go_wp2
              refine bodyPost_ret (v := .tuple #[.string ⟨#[]⟩, .int .i64 (pos : Int), .int .i64 30]) (by simp [results, Tryd.results9, go_sem]) rfl ?_
              exact ⟨by rw [HF.out]; rfl, HB1.out⟩
            case neg =>
              obtain ⟨k1, k2, k3, k4, k5⟩ := HGo.out rfl hq hn
              simp only at k1 k2 k3 k4 k5
              have HU1 := Lib.hid k1
              have HL1 : Hid (Low s (pos + K) (pos + n)) := Lib.hid k5
              have hn0 : ¬ (n : Int) = 0 := by omega
              have hnl := k1.1
              have hwr : IntKind.i64.wrap ((pos : Int) + (n : Int)) = ((pos + n : Nat) : Int) := by rw [IntWalk.i64_in _ (by have := HS.out; omega)]; omega
              have HW := Lib.hid (rune_any B out r W3 HD1.out k3 k4 (by have := HOut.out; have := HS.out; omega) hBw1)
              obtain ⟨X, hX⟩ : ∃ X, encU r = X := ⟨_, rfl⟩
              rw [hX] at HW HU1
              have HR2 : Hid (Calls Tryd.prog 16 #[.string (tb l), .int .i32 (D : Int), .map (some g0)] W3 (fun e w' => e = .returned (.tuple #[.int .i32 (r : Int), .int .i64 (n : Int)]) ∧ w' = W3)) := HR1
              clear HBad HGo HOut hX k1 k3 k4 k5 hn HR1
              generalize (D : Int) = z at *
              generalize (r : Int) = y at *
              go_wp2_with fail
              refine HR2.out.mono ?_
              rintro e w6 ⟨rfl, hw⟩
              cases hw
              go_wp2_with fail
              refine HW.out.mono ?_
              rintro e w5 ⟨⟨kk, rfl⟩, hd5, hc5, hi5⟩
              have HD5 : Hid (Bd w5 B (out ++ X)) := Lib.hid hd5
              have HI5 := Lib.hid (hi5 g s (pos + K) HI1.out (by have := HBz.out; omega))
              have HA5 := Lib.hid (HA1.out.low HZ1.out hc5)
              have HB5 : Hid (Below w.heap.size w w5) := Lib.hid (HB1.out.trans (hc5.mono HBs.out))
              have hmu5 : w5.iterPos g = pos + K := HI5.out.pos
              clear hd5 hc5 hi5 HW HI1 HD1 HA1 HB1 HR2
              go_wp2
              go_roundw
              case rel => exact ⟨pos + K, pos + n, out ++ X, rfl, by omega, HU1, HL1, HD5, HI5, HA5, HB5⟩
              case measure =>
                rw [hmu, hmu5]
                omega
      case neg =>
        have hnx := fun ty => Lib.run_next_end_at (P := Tryd.prog) wr g (tb s) pos ty HI.out (by rw [tb_size]; exact hlt)
        have hNe : N = s.length := by omega
        have HF : Hid (Q = ([], N, 30)) := Lib.hid (by
          rw [← hQ.out, hNe]
          exact us_end (out := out) (by rw [← hNe]; exact HU.out))
        clear HI HD HA HLo hNe hmu HU
        go_wp2
        refine bodyPost_ret (v := .tuple #[.string ⟨#[]⟩, .int .i64 (N : Int), .int .i64 30]) (by simp [results, Tryd.results9, go_sem]) rfl ?_
        exact ⟨by rw [HF.out]; rfl, HB.out⟩
end Go.Proofs.YtmogeehhlfjlcaaDoor
