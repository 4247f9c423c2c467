/-
  The walks of Stays: slices.Index and Contains of texts, frame's own, and the document's.
-/
import Derived.Test.YtginijeajenghaaDoorFrL
import Derived.Test.YtginijeajenghaaDoorOwnI
namespace Go.Proofs.YtginijeajenghaaDoor
open Go.RowKit

theorem has_succ {xs : List ByteArray} {k : Nat} {x : ByteArray} (h : xs[k]? = some x) (v : Bs) : ((xs.take (k + 1)).map dl).contains v = (((xs.take k).map dl).contains v || decide (dl x = v)) := by
  rw [List.take_add_one, h]
  simp only [Option.toList_some, List.map_append, List.map_cons, List.map_nil]
  by_cases hv : dl x = v
  · rw [decide_eq_true hv, Bool.or_true, List.contains_iff_mem]
    simp [hv]
  · rw [decide_eq_false hv, Bool.or_false, Bool.eq_iff_iff, List.contains_iff_mem, List.contains_iff_mem, List.mem_append]
    constructor
    · rintro (h | h)
      · exact h
      · exact absurd (List.mem_singleton.1 h).symm hv
    · exact .inl

/-- a place is handed back, or one below nought -/
def IdxEnds (b : Bool) (w : World) (e : Ending) (w' : World) : Prop := ∃ i : Int, e = .returned (.int .i64 i) ∧ decide (0 ≤ i) = b ∧ Below w.heap.size w w'
set_option maxRecDepth 100000 in
set_option maxHeartbeats 2000000 in
theorem sindex_any (N : Sli) (ns : List ByteArray) (v : ByteArray) (w : World) (hN : Ss w N ns) :
    Calls Tryd.prog 43 #[.slice N.A N.n N.c, .string v] w (IdxEnds ((ns.map dl).contains (dl v)) w) := by
  have HN := Lib.hid hN
  obtain ⟨Q, hQ⟩ : ∃ Q, (ns.map dl).contains (dl v) = Q := ⟨_, rfl⟩
  rw [hQ]
  have HD := Lib.hid hQ
  clear hQ
  obtain ⟨A, n, c⟩ := N
  have hn := Nat.le_trans hN.le.1 hN.le.2
  unfold maxLen at hn
  simp only at hn ⊢
  have hlen : Hid (ns.length = n) := Lib.hid hN.len
  clear hN
  go_enter Tryd.func43, Tryd.ntmps43
  go_wp2_with fail
  go_loopw [8] (fun i wr => ∃ k : Nat, k ≤ n ∧ i = .int .i64 (k : Int) ∧ Hid (((ns.take k).map dl).contains (dl v) = false) ∧ Below w.heap.size w wr) (fun i _ => n - (intOf i).toNat)
  case atStart => exact ⟨0, Nat.zero_le _, rfl, Lib.hid rfl, Below.refl _ _⟩
  case round =>
    obtain ⟨k, hk, rfl, HK, hbel⟩ := hrel
    by_cases hlt : k < n
    · obtain ⟨b, o, z, hA, hb, hz, c1⟩ := (HN.out.up hbel).cell (k := k) hlt
      simp only at hA
      subst hA
      have HH := Lib.hid (has_succ hz (dl v))
      have HZ := Lib.hid hz
      clear hz
      by_cases hq : v = z
      · have HE : Hid (Q = true) := Lib.hid (by
          rw [← HD.out, List.contains_iff_mem]
          exact List.mem_map.2 ⟨z, List.mem_of_getElem? HZ.out, by rw [hq]⟩)
        subst hq
        go_wp2
        go_ret
        exact ⟨_, rfl, by rw [HE.out]; exact decide_eq_true (by omega), hbel⟩
      · have HE : Hid (((ns.take (k + 1)).map dl).contains (dl v) = false) := Lib.hid (by rw [HH.out, HK.out, decide_eq_false (fun h => hq (dl_inj h.symm))]; rfl)
        have hrs : (v.toList == z.toList) = false := tl_ne hq
        go_wp2
        go_roundw
        case rel => exact ⟨k + 1, by omega, by go_num, HE, hbel⟩
        case measure => simp [intOf]; omega
    · obtain rfl : k = n := by omega
      have HE : Hid (Q = false) := Lib.hid (by rw [← HD.out]; have := HK.out; rw [List.take_of_length_le (by rw [hlen.out]; exact Nat.le_refl _)] at this; exact this)
      go_wp2
      go_ret
      exact ⟨_, rfl, by rw [HE.out]; rfl, hbel⟩

set_option maxHeartbeats 1000000 in
theorem scontains_any (N : Sli) (ns : List ByteArray) (v : ByteArray) (w : World) (hN : Ss w N ns) : Calls Tryd.prog 26 #[.slice N.A N.n N.c, .string v] w (BoolEnds ((ns.map dl).contains (dl v)) w) := by
  have HC := Lib.hid (sindex_any N ns v w hN)
  clear hN
  go_enter Tryd.func26, Tryd.ntmps26
  go_wp2_with fail
  refine HC.out.mono ?_
  rintro e w1 ⟨i, rfl, hi, hb1⟩
  have HI := Lib.hid hi
  clear hi
  go_wp2
  go_ret
  exact ⟨ret_bool HI.out, hb1⟩

section
variable (m t : ByteArray) (st : Int) (r : ByteArray) (mi : Int) (A : Option Addr) (n c : Nat) (fs : List Fd) (w : World) (hL : Fs w ⟨A, n, c⟩ fs) (hn : n ≤ 4096) (hf : Few fs)
include hL hn hf

set_option maxRecDepth 100000 in
set_option maxHeartbeats 4000000 in
theorem stays_any : Calls Tryd.prog 15 #[.agg #[.string m, .string t, .int .i64 st, .string r, .int .i64 mi, .slice A n c]] w (BoolEnds (staysH fs mi) w) := by
  obtain ⟨i9, hi, hz0, hz1, hz2⟩ := info_parts info9
  have hb0 := ba1 w (.cells #[.string m, .string t, .int .i64 st, .string r, .int .i64 mi, .slice A n c] 25)
  have HG1 := Lib.hid (get_any ⟨A, n, c⟩ fs ⟨#[67, 111, 110, 110, 101, 99, 116, 105, 111, 110]⟩ _ (hL.up hb0) hn (fun f hfm => (hf f hfm).1) (by decide))
  rw [getL_name (b := cnN) (by decide +kernel)] at HG1
  have HF1 := Lib.hid (getL_few (a := cnN) hf)
  have hgl := getL_len fs cnN
  rw [hL.len] at hgl
  have HD : Hid (staysH fs mi = staysN (itemsF (getL fs cnN)) mi) := Lib.hid rfl
  generalize getL fs cnN = cc at *
  clear hL hf
  simp only [Sli.v] at HG1 hgl
  go_enter Tryd.func15, Tryd.ntmps15
  go_wp2_with fail
  have bh := Box.new w 25 #[.string m, .string t, .int .i64 st, .string r, .int .i64 mi, .slice A n c]
  obtain ⟨g, hg⟩ : ∃ g, w.heap.size = g := ⟨_, rfl⟩
  rw [hg] at bh ⊢
  clear hg
  generalize w.alloc (.cells #[.string m, .string t, .int .i64 st, .string r, .int .i64 mi, .slice A n c] 25) = W0 at *
  refine HG1.out.mono ?_
  rintro e w1 ⟨C, rfl, hC, hb1⟩
  have bh1 := bh.up hb1
  have HW1 := Lib.hid (bon hb0 hb1)
  clear bh hb0 hb1 HG1
  obtain ⟨AC, nC, cC⟩ := C
  have HC := Lib.hid hC
  have hlC := hC.len
  simp only at hlC
  have HLC := Lib.hid hlC
  have hnC : nC ≤ 4096 := by omega
  clear hC hlC hgl
  have hw1 := bh1.lt
  go_wp2_with fail
  go_loopw [10, 3] (fun i o wr => ∃ (k : Nat) (O : Sli) (xs : List ByteArray), k ≤ nC ∧ O.n ≤ k * 4097 ∧ i = .int .i64 (k : Int) ∧ o = .slice O.A O.n O.c ∧ Hid (xs.map dl = itemsF (cc.take k)) ∧ Hid (Out 9 1 w1 wr O (svs xs))) (fun i _ _ => nC - (intOf i).toNat)
  case atStart => exact ⟨0, ⟨none, 0, 0⟩, [], Nat.zero_le _, Nat.zero_le _, rfl, rfl, Lib.hid rfl, Lib.hid (Out.nil _ _ _ _ (Below.refl _ _))⟩
  case round =>
    obtain ⟨k, O, xs, hk, hOn, rfl, rfl, HX, HO⟩ := hrel
    by_cases hlt : k < nC
    · obtain ⟨b, o, x, hA, hb, hx, c1⟩ := (HC.out.up HO.out.hb).cell (k := k) hlt
      simp only at hA
      subst hA
      have hxs := HF1.out x (List.mem_of_getElem? hx)
      have HI := Lib.hid (fun W => items_any x hxs W)
      have HS := Lib.hid (itemsF_succ hx)
      have HIL := Lib.hid (items_len (dl x))
      clear hx
      have hki : (k : Int) < (nC : Int) := by omega
      have hk0 : (0 : Int) ≤ (k : Int) := by omega
      go_wp2_with fail
      refine (HI.out _).mono ?_
      rintro e w2 ⟨I, is, rfl, hI, hIs, hb2⟩
      have hIn : I.n ≤ 4097 := by
        have h1 := hIs.len
        have h2 := congrArg List.length hI
        rw [List.length_map] at h2
        have h3 := HIL.out
        rw [dl_len] at h3
        omega
      have HN : Hid ((xs ++ is).map dl = itemsF (cc.take (k + 1))) := Lib.hid (by rw [List.map_append, HX.out, hI, HS.out])
      have HO2 := Lib.hid (HO.out.up hb2)
      have HSrc := Lib.hid (Rd.src (sz := 1) (m := I.n) (c := I.c) (by decide) hIs.rd (by rw [svs, List.length_map, hIs.len]; omega) hIs.cap)
      have hBw : w1.heap.size ≤ w2.heap.size := HO2.out.le
      clear HO hb2 hIs hI HIL HX HS HI c1
      obtain ⟨AI, nI, cI⟩ := I
      simp only at hIn HSrc ⊢
      go_wp2_with (at_builtin; refine wpList_app _ rfl _ _ 27 rfl w1.heap.size 9 i9 _ 1 16 (by decide) Tryd.underlying27 hi hz0 hz1 hz2 rfl (.slice O.A O.n O.c) O.n (svs xs) rfl HO2.out.row AI nI cI (svs is) rfl HSrc.out (svs_one _) ?_ ?_ hBw (O.n + nI) rfl ?_; (unfold maxLen; omega); omega; intro A' c' w3 h1 h2 h3; refine Hid.out ?_)
      have HO3 := Lib.hid (HO2.out.app (cs' := svs (xs ++ is)) (by rw [svs, List.map_append]; exact h1) h2)
      clear h1 h2 h3 HO2 HSrc
      refine Lib.hid ?_
      go_wp2
      go_roundw
      case rel => exact ⟨k + 1, ⟨A', O.n + nI, c'⟩, xs ++ is, by omega, by simp only; omega, by go_num, rfl, HN, HO3⟩
      case measure => simp [intOf]; omega
    · obtain rfl : k = nC := by omega
      have HE : Hid (xs.map dl = itemsF cc) := Lib.hid (by rw [HX.out, List.take_of_length_le (by rw [HLC.out]; exact Nat.le_refl _)])
      have hOs := HO.out.row.ss
      have HC1 := Lib.hid (scontains_any O xs ⟨#[99, 108, 111, 115, 101]⟩ wr hOs)
      have HC2 := Lib.hid (fun W (hW : Below wr.heap.size wr W) => scontains_any O xs ⟨#[107, 101, 101, 112, 45, 97, 108, 105, 118, 101]⟩ W (hOs.up hW))
      have HV : Hid (staysH fs mi = if (xs.map dl).contains (dl ⟨#[99, 108, 111, 115, 101]⟩) = true then false else ((xs.map dl).contains (dl ⟨#[107, 101, 101, 112, 45, 97, 108, 105, 118, 101]⟩) || decide (mi = 1))) := Lib.hid (by rw [HD.out, HE.out]; rfl)
      generalize (xs.map dl).contains (dl ⟨#[99, 108, 111, 115, 101]⟩) = b1 at *
      generalize (xs.map dl).contains (dl ⟨#[107, 101, 101, 112, 45, 97, 108, 105, 118, 101]⟩) = b2 at *
      have bh2 := bh1.up HO.out.hb
      have HW2 := Lib.hid (bon HW1.out HO.out.hb)
      clear hOs HE HX HO HD HC HLC
      go_wp2_with fail
      refine HC1.out.mono ?_
      rintro e w2 ⟨rfl, hb2⟩
      have bh3 := bh2.up hb2
      have HW3 := Lib.hid (bon HW2.out hb2)
      have HC3 := Lib.hid (HC2.out w2 hb2)
      clear hb2 HC2
      cases b1 with
      | true =>
        have HV2 : Hid (staysH fs mi = false) := Lib.hid (by rw [HV.out]; rfl)
        go_wp2
        go_ret
        exact ⟨ret_bool HV2.out.symm, HW3.out⟩
      | false =>
        go_wp2_with fail
        refine HC3.out.mono ?_
        rintro e w3 ⟨rfl, hb3⟩
        have bh4 := bh3.up hb3
        have HW4 := Lib.hid (bon HW3.out hb3)
        clear hb3
        obtain ⟨_, _, _, _, c4, c5⟩ := bh4.six
        cases b2 with
        | true =>
          have HV2 : Hid (staysH fs mi = true) := Lib.hid (by rw [HV.out]; rfl)
          go_wp2
          go_ret
          exact ⟨ret_bool HV2.out.symm, HW4.out⟩
        | false =>
          by_cases hmi : mi = 1
          · have HV2 : Hid (staysH fs mi = true) := Lib.hid (by rw [HV.out, decide_eq_true hmi]; rfl)
            subst hmi
            go_wp2
            go_ret
            exact ⟨ret_bool HV2.out.symm, HW4.out⟩
          · have HV2 : Hid (staysH fs mi = false) := Lib.hid (by rw [HV.out, decide_eq_false hmi]; rfl)
            have t1 : (mi == 1) = false := beq_eq_false_iff_ne.2 hmi
            go_wp2
            go_ret
            exact ⟨ret_bool HV2.out.symm, HW4.out⟩
end
end Go.Proofs.YtginijeajenghaaDoor
