/-
  The walks of quote's own read, Valid, written.
-/
import Derived.Test.YtnkhghjcfhpeiaaGreatDoorJQo
import Derived.Test.YtnkhghjcfhpeiaaGreatDoorJNBits
import Derived.Lib.OthersKept
namespace Go.Proofs.YtnkhghjcfhpeiaaGreatDoor
open Go.RowKit

set_option maxRecDepth 100000 in
set_option maxHeartbeats 1000000 in
theorem read_any (l : Bs) (hne : l ≠ []) (hl : l.length ≤ 1000000) (g : Nat) (w : World) (hA : Am w g) : Calls Tryz.prog 108 #[.string (tb l), .int .i32 ((decR l).1 : Int), .map (some g)] w (TwoEnds (readR l) w) := by
  have h92 : l.take 1 = [92] ↔ (decR l).1 = 92 := by
    match l, hne with
    | a :: t, _ =>
      rw [dec_low (by decide), show (a :: t).take 1 = [a] from rfl]
      constructor
      · intro h; rw [(List.cons.inj h).1]; rfl
      · intro h; rw [show a = 92 from UInt8.toNat_inj.1 h]
  have HB := Lib.hid (fun W => broken_any l W)
  have hR : Hid (wid l ≠ 0 → Lib.runeLen ((decR l).1 : Int) = wid l) := Lib.hid (fun h => by
    obtain ⟨k1, k2⟩ := wid_split h
    rw [dec_fst h, (enc_cp k1).2.2.2, List.length_take]
    omega)
  have HE := Lib.hid (fun W hW => readEscape_any l hl g W hW)
  unfold readR
  have hbd := (dec_max l).1
  obtain ⟨n, hn⟩ : ∃ n, (decR l).1 = n := ⟨_, rfl⟩
  obtain ⟨k, hk⟩ : ∃ k, wid l = k := ⟨_, rfl⟩
  rw [hn] at h92 HB hR hbd ⊢
  rw [hk] at HB hR ⊢
  clear hn hk hne hl
  by_cases h1 : l.take 1 = [92]
  · rw [if_pos h1]
    have h2 := h92.1 h1
    subst h2
    obtain ⟨q, hq⟩ : ∃ q, escR l = q := ⟨_, rfl⟩
    rw [hq] at HE ⊢
    obtain ⟨q1, q2⟩ := q
    have HE2 := Lib.hid (HE.out w hA)
    clear h1 h92 HB hR hq HE hbd hA
    go_enter Tryz.func108, Tryz.ntmps108
    go_wp2_with fail
    refine HE2.out.mono ?_
    rintro e w1 ⟨rfl, hw⟩
    cases hw
    go_wp2
    refine bodyPost_ret (v := .tuple #[.int .i32 (q1 : Int), .int .i64 (q2 : Int)]) (by simp [results, Tryz.results108, go_sem]) rfl ?_
    exact ⟨rfl, rfl⟩
  · rw [if_neg h1]
    have h2 : ¬ (n : Int) = 92 := fun h => h1 (h92.2 (by omega))
    have HF : Hid (TwoEnds (0, 0) w (.returned (.tuple #[.int .i32 0, .int .i64 0])) w) := Lib.hid ⟨rfl, rfl⟩
    clear h1 h92 HE hA
    by_cases h3 : n < 32
    · rw [if_pos (.inr h3)]
      have h3i : (n : Int) < 32 := by omega
      clear h3 hR hbd
      generalize (n : Int) = z at *
      go_enter Tryz.func108, Tryz.ntmps108
      go_wp2
      refine bodyPost_ret (v := .tuple #[.int .i32 0, .int .i64 0]) (by simp [results, Tryz.results108, go_sem]) rfl ?_
      exact HF.out
    · have h3i : ¬ (n : Int) < 32 := by omega
      by_cases h4 : k = 0
      · rw [if_pos (.inl h4)]
        rw [decide_eq_true h4] at HB
        clear h4 h3 hR hbd
        generalize (n : Int) = z at *
        go_enter Tryz.func108, Tryz.ntmps108
        go_wp2_with fail
        refine (HB.out _).mono ?_
        rintro e w1 ⟨rfl, hw⟩
        cases hw
        go_wp2
        refine bodyPost_ret (v := .tuple #[.int .i32 0, .int .i64 0]) (by simp [results, Tryz.results108, go_sem]) rfl ?_
        exact HF.out
      · rw [if_neg (by omega)]
        rw [decide_eq_false h4] at HB
        have HL := Lib.hid (fun W => sh_RuneLen (n : Int) W)
        rw [hR.out h4] at HL
        have HG : Hid (TwoEnds (n, k) w (.returned (.tuple #[.int .i32 (n : Int), .int .i64 (k : Int)])) w) := Lib.hid ⟨rfl, rfl⟩
        clear h4 h3 hR hbd HF
        generalize (n : Int) = z at *
        go_enter Tryz.func108, Tryz.ntmps108
        go_wp2_with fail
        refine (HB.out _).mono ?_
        rintro e w1 ⟨rfl, hw⟩
        cases hw
        go_wp2_with fail
        refine (HL.out _).mono ?_
        rintro e w2 ⟨rfl, hw⟩
        cases hw
        go_wp2
        refine bodyPost_ret (v := .tuple #[.int .i32 z, .int .i64 (k : Int)]) (by simp [results, Tryz.results108, go_sem]) rfl ?_
        exact HG.out

/-- the iterator of a range over a text: its place is known -/
def ItAt (W : World) (g : Nat) (s : Bs) (pos : Nat) : Prop := W.heap[g]? = some (.stringIter (tb s) pos)
theorem ItAt.pos {W : World} {g : Nat} {s : Bs} {pos : Nat} (h : ItAt W g s pos) : W.iterPos g = pos := by simp [World.iterPos, show W.heap[g]? = _ from h]
theorem ItAt.lt {W : World} {g : Nat} {s : Bs} {pos : Nat} (h : ItAt W g s pos) : g < W.heap.size := (Array.getElem?_eq_some_iff.1 h).1
theorem ItAt.low {W W' : World} {g B : Nat} {s : Bs} {pos : Nat} (h : ItAt W g s pos) (hg : g < B) (hb : Below B W W') : ItAt W' g s pos := (hb.block g hg).trans h
theorem ItAt.new (w : World) (s : Bs) : ItAt (w.iter (tb s) 0) w.heap.size s 0 := by
  have h := World.iter_heap w (tb s) 0
  exact h
theorem dec_tb (s : Bs) (pos : Nat) (h : pos < s.length) : Utf8.decode (tb s) pos = decR (s.drop pos) := by
  have h2 := decode_is (tb s) pos (by rw [tb_size]; exact h)
  rwa [dl_tb] at h2

set_option maxRecDepth 100000 in
set_option maxHeartbeats 2000000 in
theorem valid_any (s : Bs) (hs : s.length ≤ 1000000) (w : World) : Calls Tryz.prog 71 #[.string (tb s)] w (BoolEnds (validL s) w) := by
  obtain ⟨Q, hQ⟩ : ∃ Q, validL s = Q := ⟨_, rfl⟩
  have HQ : Hid (Q = true ↔ VL s) := Lib.hid (by rw [← hQ]; exact valid_iff s)
  rw [hQ]
  clear hQ
  have zs : (tb s).size = s.length := tb_size s
  have HI0 := Lib.hid (ItAt.new w s)
  have HB0 : Hid (Below w.heap.size w (w.iter (tb s) 0)) := Lib.hid (ba1 w _)
  go_enter Tryz.func71, Tryz.ntmps71
  go_wp2
  obtain ⟨g, hg⟩ : ∃ g, w.heap.size = g := ⟨_, rfl⟩
  rw [hg] at HI0 ⊢
  have HG := Lib.hid hg
  clear hg
  generalize w.iter (tb s) 0 = W0 at *
  go_loopw [] (fun wr => ∃ pos : Nat, pos ≤ s.length ∧ Hid (ItAt wr g s pos) ∧ Hid (VL s ↔ VL (s.drop pos)) ∧ Hid (Below w.heap.size w wr)) (fun wr => s.length - wr.iterPos g)
  case atStart => exact ⟨0, Nat.zero_le _, HI0, Lib.hid Iff.rfl, HB0⟩
  case round =>
    obtain ⟨pos, hp, HI, HV, HB⟩ := hrel
    have hmu : wr.iterPos g = pos := HI.out.pos
    have hgs : g < wr.heap.size := HI.out.lt
    by_cases hlt : pos < s.length
    case pos =>
      have hne : s.drop pos ≠ [] := by
        intro h
        have := congrArg List.length h
        rw [List.length_drop, List.length_nil] at this
        omega
      have hnx := fun ty => Lib.run_next_any_at (P := Tryz.prog) wr g (tb s) pos ty HI.out (by rw [tb_size]; exact hlt)
      have hk := Lib.iterAt_heap wr g (tb s) pos (pos + (Utf8.decode (tb s) pos).2) HI.out
      have hbw := Lib.below_iterAt HB.out (k := g) (by have := HG.out; omega) (tb s) (pos + (Utf8.decode (tb s) pos).2)
      rw [dec_tb s pos hlt] at hnx hk hbw
      have hst := vl_step hne
      have hmx := dec_max (s.drop pos)
      have hft := dec_fits hne
      have hsn : wid (s.drop pos) ≠ 0 → (decR (s.drop pos)).2 = wid (s.drop pos) := fun h => dec_snd h
      have HBr := Lib.hid (fun W => broken_any (s.drop pos) W)
      have hx : (tb s).extract pos s.length = tb (s.drop pos) := by rw [tb_ext, List.take_length]
      rw [List.length_drop] at hft
      obtain ⟨K, hK⟩ : ∃ K, (decR (s.drop pos)).2 = K := ⟨_, rfl⟩
      obtain ⟨D, hD⟩ : ∃ D, (decR (s.drop pos)).1 = D := ⟨_, rfl⟩
      obtain ⟨V, hV⟩ : ∃ V, wid (s.drop pos) = V := ⟨_, rfl⟩
      rw [hK] at hnx hk hbw hmx hft hsn
      rw [hD] at hnx HBr hmx
      rw [hV] at HBr hst hsn
      generalize wr.iterAt g (tb s) (pos + K) = W1 at *
      have HI1 : Hid (ItAt W1 g s (pos + K)) := Lib.hid hk
      have HB1 := Lib.hid hbw
      have hpi : (pos : Int) ≤ (s.length : Int) := by omega
      have hmu1 : W1.iterPos g = pos + K := HI1.out.pos
      have HS := Lib.hid hst
      have HN := Lib.hid hsn
      clear hk hbw hne hD hK hV hst hsn HI HB HI0 HB0 W0
      by_cases hv : V = 0
      case pos =>
        rw [decide_eq_true hv] at HBr
        have hQ : Q = false := by
          cases Q with
          | false => rfl
          | true => exact absurd hv (HS.out.1 (HV.out.1 (HQ.out.1 rfl))).1
        clear hv
        go_wp2_with fail
        refine (HBr.out _).mono ?_
        rintro e w1 ⟨rfl, hw⟩
        cases hw
        go_wp2
        go_ret
        exact ⟨by rw [hQ]; rfl, HB1.out⟩
      case neg =>
        rw [decide_eq_false hv] at HBr
        have HKV := Lib.hid (HN.out hv)
        have HV1 : Hid (VL s ↔ VL (s.drop (pos + K))) := Lib.hid (by
          rw [HV.out, HS.out, ← HKV.out, List.drop_drop]
          exact ⟨fun h => h.2, fun h => ⟨by omega, h⟩⟩)
        clear hv
        go_wp2_with fail
        refine (HBr.out _).mono ?_
        rintro e w1 ⟨rfl, hw⟩
        cases hw
        go_wp2
        go_roundw
        case rel => exact ⟨pos + K, by omega, HI1, HV1, HB1⟩
        case measure =>
          rw [hmu, hmu1]
          omega
    case neg =>
      have hnx := fun ty => Lib.run_next_end_at (P := Tryz.prog) wr g (tb s) pos ty HI.out (by rw [tb_size]; exact hlt)
      have hQ : Q = true := HQ.out.2 (HV.out.2 (by rw [List.drop_of_length_le (by omega)]; exact .nil))
      go_wp2
      go_ret
      exact ⟨by rw [hQ]; rfl, HB.out⟩
end Go.Proofs.YtnkhghjcfhpeiaaGreatDoor
