/-
  The walk of the document's own Parse.
-/
import Derived.Test.YtaoajilgilbmmaaDoorRefB
import Derived.Deep.RegionLaw
import Derived.Deep.Upon
import Derived.Deep.DeepCutAuto
import Derived.Lib.IndexLaws
namespace Go.Proofs.YtaoajilgilbmmaaDoor
open Go.RowKit

/-- a field and an error are handed back -/
def ParseEnds (l : Bs) (w : World) (e : Ending) (w' : World) : Prop :=
  ∃ (a b : ByteArray) (c : Int), e = .returned (.tuple #[.agg #[.string a, .string b], .int .i64 c]) ∧ dl a = (parse3 l).1 ∧ dl b = (parse3 l).2.1 ∧ c = (parse3 l).2.2 ∧ Below w.heap.size w w'

theorem cut_len (c : UInt8) (l : Bs) : (befL c l).length ≤ l.length ∧ (aftL c l).length ≤ l.length := by
  refine ⟨bef_len c l, ?_⟩
  unfold aftL
  rw [List.length_drop]
  have := dropWhile_len (· != c) l
  omega
theorem parse_bad {l : Bs} (h : ¬ (l.contains 58 = true ∧ nameB (befL 58 l) = true ∧ valueB (trimL (aftL 58 l)) = true)) : parse3 l = ([], [], 21) := if_neg h

/-- a field's box -/
theorem Box.two {w : World} {g : Nat} {x y : Value} (h : Box w g 59 #[x, y]) : w.cell? ⟨g, 0, none⟩ = some x ∧ w.cell? ⟨g, 1, none⟩ = some y ∧ w.frozen? ⟨g, 0, none⟩ = false ∧ w.frozen? ⟨g, 1, none⟩ = false := ⟨h.c 0 rfl, h.c 1 rfl, h.f 0, h.f 1⟩
theorem Box.set2 {w : World} {g : Nat} {t : TypeId} {x y : Value} (h : Box w g t #[x, y]) (u v : Value) : Box ((w.setCell ⟨g, 0, none⟩ u).setCell ⟨g, 1, none⟩ v) g t #[u, v] := by
  have := (h.set 0 u).set 1 v
  simpa using this
theorem below_set2 {B : Nat} {a w : World} (h : Below B a w) {g : Nat} (hg : B ≤ g) (u v : Value) : Below B a ((w.setCell ⟨g, 0, none⟩ u).setCell ⟨g, 1, none⟩ v) :=
  (h.setCell (p := ⟨g, 0, none⟩) hg _).setCell (p := ⟨g, 1, none⟩) hg _

/-- the field that was made, in its box -/
def RpR (s : ByteArray) (k g : Nat) (w : World) (t : Bs) (p : Value) (W : World) : Prop :=
  ∃ (gf : Nat) (r : ByteArray), p = .pointer (some ⟨gf, 0, none⟩) ∧ Box W gf 59 #[.string (s.extract 0 k), .string r] ∧ dl r = t ∧ Box W g 59 #[.string ⟨#[]⟩, .string ⟨#[]⟩] ∧ Below w.heap.size w W

set_option maxRecDepth 100000 in
set_option maxHeartbeats 4000000 in
theorem rparse_any (s : ByteArray) (hs : s.size ≤ 4096) (w : World) : Calls Tryd.prog 27 #[.string s] w (ParseEnds (dl s) w) := by
  go_enter Tryd.func27, Tryd.ntmps27
  go_wp2_with fail
  have hg0 := Box.new w 59 #[.string ⟨#[]⟩, .string ⟨#[]⟩]
  have hb0 := ba1 w (.cells #[.string ⟨#[]⟩, .string ⟨#[]⟩] 59)
  obtain ⟨g, hg⟩ : ∃ g, w.heap.size = g := ⟨_, rfl⟩
  rw [hg] at hg0 ⊢
  have HG := Lib.hid hg
  clear hg
  generalize w.alloc (.cells #[.string ⟨#[]⟩, .string ⟨#[]⟩] 59) = W at *
  go_loopw [4] (fun i wr => ∃ k : Nat, k ≤ s.size ∧ i = .int .i64 (k : Int) ∧ Hid (∀ j, j < k → (dl s)[j]? ≠ some 58) ∧ W = wr) (fun i _ => s.size - (intOf i).toNat)
  case atStart => exact ⟨0, Nat.zero_le _, rfl, Lib.hid (fun j hj => absurd hj (by omega)), rfl⟩
  case round =>
    obtain ⟨k, hk, rfl, HK, rfl⟩ := hrel
    obtain ⟨p0, p1, f0, f1⟩ := hg0.two
    have HBad : Hid (parse3 (dl s) = ([], [], 21) → ParseEnds (dl s) w (.returned (.tuple #[.agg #[.string ⟨#[]⟩, .string ⟨#[]⟩], .int .i64 21])) ((W.setCell ⟨g, 0, none⟩ (.string ⟨#[]⟩)).setCell ⟨g, 1, none⟩ (.string ⟨#[]⟩))) := Lib.hid (fun h => ⟨_, _, _, rfl, by rw [h], by rw [h], by rw [h], below_set2 hb0 (by rw [HG.out]; exact Nat.le_refl _) _ _⟩)
    have HQ := Lib.hid (hg0.set2 (.string ⟨#[]⟩) (.string ⟨#[]⟩)).two
    by_cases hlt : k < s.size
    · have hc := (s[k]).toNat_lt
      obtain ⟨n, hn⟩ : ∃ n, (s[k]).toNat = n := ⟨_, rfl⟩
      rw [hn] at hc
      by_cases h58 : n = 58
      · have HX := Lib.hid (cut_at (c := 58) (l := dl s) (k := k) (by rw [dl_at hlt]; exact congrArg some (UInt8.toNat_inj.1 (by rw [hn, h58]; rfl))) HK.out)
        subst h58
        have HNm := Lib.hid (fun W => rname_any (s.extract 0 k) (by rw [ByteArray.size_extract]; omega) W)
        have hbf : dl (s.extract 0 k) = befL 58 (dl s) := by rw [dl_ext, HX.out.1, List.drop_zero]
        rw [hbf] at HNm
        have HBf := Lib.hid hbf
        clear hbf
        obtain ⟨b, hb⟩ : ∃ b, nameB (befL 58 (dl s)) = b := ⟨_, rfl⟩
        rw [hb] at HNm
        have HB := Lib.hid hb
        clear hb
        cases b with
        | false =>
          have HE := Lib.hid (HBad.out (parse_bad (fun h => by rw [HB.out] at h; cases h.2.1)))
          clear HBad HB HX HK HBf
          go_wp2_with fail
          refine (HNm.out _).mono ?_
          rintro e w' ⟨rfl, rfl⟩
          go_wp2
          obtain ⟨q0, q1, _, _⟩ := HQ.out
          refine bodyPost_ret (v := .tuple #[.agg #[.string ⟨#[]⟩, .string ⟨#[]⟩], .int .i64 21]) (by simp [results, Tryd.results27, go_sem, q0, q1]) rfl ?_
          exact HE.out
        | true =>
          have HTr := Lib.hid (fun W => rtrim_any (s.extract (k + 1) s.size) (by rw [ByteArray.size_extract]; omega) W)
          have haf : dl (s.extract (k + 1) s.size) = aftL 58 (dl s) := by rw [dl_ext, HX.out.2.1, List.take_of_length_le (by rw [dl_len]; exact Nat.le_refl _)]
          rw [haf] at HTr
          clear haf
          go_wp2_with fail
          refine (HNm.out _).mono ?_
          rintro e w' ⟨rfl, rfl⟩
          go_wp2_with fail
          go_cut [5] (RpR s k g w (trimL (aftL 58 (dl s))))
          case first =>
            have he1 : (0 : Int) ≤ (k : Int) := by omega
            have he2 : (k : Int) ≤ (s.size : Int) := by omega
            have he3 : (k : Int) + 1 ≤ (s.size : Int) := by omega
            have he4 : (0 : Int) ≤ (k : Int) + 1 := by omega
            have he5 : ((k : Int) + 1).toNat = k + 1 := by omega
            have he6 : k + 1 ≤ s.size := by omega
            have he7 : IntKind.i64.wrap ((k : Int) + 1) = (k : Int) + 1 := IntWalk.i64_in _ (by omega)
            go_region_law (first | (go_simp; go_at_call 36; refine (HTr.out _).mono ?_; rintro e wP ⟨r, rfl, hr, rfl⟩))
            all_goals (go_wp2_with fail; go_meet)
            all_goals exact ⟨_, r, rfl, Box.new _ _ _, hr, hg0.alloc _, (bon hb0 (ba1 _ _)).drew⟩
          case rest =>
            obtain ⟨gf, r, rfl, bf, hr, bg, hbw⟩ := hcut
            have hrs : r.size ≤ 4096 := by
              have h1 := trim_len (aftL 58 (dl s))
              have h2 := (cut_len 58 (dl s)).2
              rw [← hr, dl_len] at h1
              rw [dl_len] at h2
              omega
            have HVl := Lib.hid (fun W => rvalue_any r hrs W)
            rw [hr] at HVl
            have HR := Lib.hid hr
            obtain ⟨b, hb⟩ : ∃ b, valueB (trimL (aftL 58 (dl s))) = b := ⟨_, rfl⟩
            rw [hb] at HVl
            have HB2 := Lib.hid hb
            clear hb hr HBad HQ p0 p1 f0 f1
            obtain ⟨p0, p1, f0, f1⟩ := bg.two
            obtain ⟨c0, c1, _, _⟩ := bf.two
            have hbw2 : ∀ u v : Value, Hid (Below w.heap.size w ((wc.setCell ⟨g, 0, none⟩ u).setCell ⟨g, 1, none⟩ v)) := fun u v => Lib.hid (below_set2 hbw (by rw [HG.out]; exact Nat.le_refl _) u v)
            cases b with
            | false =>
              have HE : Hid (parse3 (dl s) = ([], [], 21)) := Lib.hid (parse_bad (fun h => by rw [HB2.out] at h; cases h.2.2))
              have HQ := Lib.hid (bg.set2 (.string ⟨#[]⟩) (.string ⟨#[]⟩)).two
              have HW := hbw2 (.string ⟨#[]⟩) (.string ⟨#[]⟩)
              clear HB2 HB HX HK HBf hbw2
              go_wp2_with fail
              refine (HVl.out _).mono ?_
              rintro e w' ⟨rfl, rfl⟩
              go_wp2
              obtain ⟨q0, q1, _, _⟩ := HQ.out
              refine bodyPost_ret (v := .tuple #[.agg #[.string ⟨#[]⟩, .string ⟨#[]⟩], .int .i64 21]) (by simp [results, Tryd.results27, go_sem, q0, q1]) rfl ?_
              exact ⟨_, _, _, rfl, by rw [HE.out], by rw [HE.out], by rw [HE.out], HW.out⟩
            | true =>
              have HE : Hid (parse3 (dl s) = (befL 58 (dl s), trimL (aftL 58 (dl s)), 0)) := Lib.hid (if_pos ⟨HX.out.2.2, HB.out, HB2.out⟩)
              have HQ := Lib.hid (bg.set2 (.string (s.extract 0 k)) (.string r)).two
              have HW := hbw2 (.string (s.extract 0 k)) (.string r)
              clear HB2 HB HX HK hbw2
              go_wp2_with fail
              refine (HVl.out _).mono ?_
              rintro e w' ⟨rfl, rfl⟩
              go_wp2
              obtain ⟨q0, q1, _, _⟩ := HQ.out
              refine bodyPost_ret (v := .tuple #[.agg #[.string (s.extract 0 k), .string r], .int .i64 0]) (by simp [results, Tryd.results27, go_sem, q0, q1]) rfl ?_
              exact ⟨_, _, _, rfl, by rw [HE.out]; exact HBf.out, by rw [HE.out]; exact HR.out, by rw [HE.out], HW.out⟩
      · have e1 : ((n : Int) != 58) = true := bne_iff_ne.2 (by omega)
        have HN : Hid (∀ j, j < k + 1 → (dl s)[j]? ≠ some 58) := Lib.hid (fun j hj => by
          by_cases hjk : j < k
          · exact HK.out j hjk
          · obtain rfl : j = k := by omega
            rw [dl_at hlt]
            intro he
            have : s[j] = 58 := Option.some.inj he
            rw [this] at hn
            exact h58 hn.symm)
        go_wp2
        go_roundw
        case rel => exact ⟨k + 1, by omega, by go_num, HN, trivial⟩
        case measure => simp [intOf]; omega
    · obtain rfl : k = s.size := by omega
      have HE := Lib.hid (HBad.out (parse_bad (fun h => by have := (cut_none (c := 58) (l := dl s) (by rw [dl_len]; exact HK.out)).2.2; rw [this] at h; cases h.1)))
      clear HBad HK
      go_wp2
      obtain ⟨q0, q1, _, _⟩ := HQ.out
      refine bodyPost_ret (v := .tuple #[.agg #[.string ⟨#[]⟩, .string ⟨#[]⟩], .int .i64 21]) (by simp [results, Tryd.results27, go_sem, q0, q1]) rfl ?_
      exact HE.out

end Go.Proofs.YtaoajilgilbmmaaDoor
