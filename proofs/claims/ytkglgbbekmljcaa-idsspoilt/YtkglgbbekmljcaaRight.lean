/-
  The walks of has, timesFree and freeListed of slots, and of ids.Right and ids.Has.
-/
import Derived.Test.YtkglgbbekmljcaaSlots
import Derived.Maps.OwnOps
import Derived.Maps.OwnSet
import Derived.Maps.Views
import Derived.IntWalk
namespace Go.Proofs.Ytkglgbbekmljcaa
open Go.RowKit Go.Maps

theorem law3 : Keyed Try.prog 3 := int_keyed Try.underlying3
theorem zero3 (w : World) : (zeroValue 3).run Try.prog w = .ok (.int .i64 0) w := by kernel_rfl
theorem mkmap (w : World) (n : Int) : (Instr.makeMap 57 (some (.int .i64 n))).run Try.prog w = .ok (.map (some w.heap.size)) (w.alloc (.map #[] 0)) := by
  simp [Instr.makeMap, run_underlying Try.underlying57, asInt, asIntOf, Result.andThen]

/-- the map counts what is in xs -/
def Cn (D : DataW Unit) (xs : List Int) : Prop := ∀ x : Int, (Lit.int .i64 x).wf = true → D.atKey (.int .i64 x) (.lit (.int .i64 0)) = .lit (.int .i64 (xs.count x : Int))

theorem cn_nil : Cn (.map []) [] := fun x _ => by simp [DataW.atKey]

theorem cn_put {D : DataW Unit} {xs : List Int} {x c : Int} (h : Cn D xs) (hm : IsMap D) (hx : (Lit.int .i64 x).wf = true) (hat : D.atKey (.int .i64 x) (.lit (.int .i64 0)) = .lit (.int .i64 c)) (hl : xs.length < 2000) :
    Cn (D.put (.int .i64 x) (.lit (.int .i64 (wrap64 (c + 1))))) (xs ++ [x]) := by
  have hc : c = (xs.count x : Int) := by
    have := (h x hx).symm.trans hat
    injection this with this
    injection this with _ this
    exact this.symm
  have hle : xs.count x ≤ xs.length := List.count_le_length
  have hw : wrap64 (c + 1) = (xs.count x : Int) + 1 := by
    rw [hc]
    exact IntWalk.wrap64_in _ (by omega)
  intro y hy
  by_cases he : y = x
  · subst he
    rw [atKey_put_same hm (by simp [WideAt.IsKeyLit]), hw]
    simp [List.count_append]
  · rw [atKey_put_other (by simpa using he), h y hy]
    rw [List.count_append, List.count_cons_of_ne (fun e => he e.symm)]
    simp

theorem cn_at {D : DataW Unit} {xs : List Int} {x c : Int} {m : Nat} (h : Cn D xs) (hx : (Lit.int .i64 x).wf = true) (hat : D.atKey (.int .i64 x) (.lit (.int .i64 0)) = .lit (.int .i64 c)) (hm : xs.count x = m) : c = (m : Int) := by
  have := (h x hx).symm.trans hat
  injection this with this
  injection this with _ this
  rw [← this, hm]

section
variable {Ag Ab Af : Option Addr} {N cg M cb F cf : Nat} {T : Tb} {w : World}

set_option maxHeartbeats 1000000 in
theorem has_any (h : At w T Ag N cg Ab M cb Af F cf) (id : Int) (hid : id ≤ 9223372036854775807) (hok : okT T = true) :
    Calls Try.prog 24 #[tv Ag N cg Ab M cb Af F cf, .int .i64 id] w fun e w' => e = .returned (.bool (hasB T id)) ∧ Below w.heap.size w w' := by
  obtain ⟨o1, o2, o3, o4, _⟩ := ok_true hok
  rw [h.lg] at o1 o2 o3 o4
  have hlb : M = N := by rw [← h.lb, o3]
  subst hlb
  by_cases h0 : id < 0
  · have hf : hasB T id = false := by simp [hasB]; omega
    rw [hf]
    have HH := Lib.hid h
    have HO := Lib.hid o4
    have HK := Lib.hid hok
    clear h o4 hok
    unfold tv
    go_enter Try.func24, Try.ntmps24
    go_wp2
    go_ret
    exact ⟨rfl, ba1 _ _⟩
  · obtain ⟨k, hk⟩ : ∃ k : Nat, id % (M : Int) = k := Int.eq_ofNat_of_zero_le (Int.emod_nonneg _ (by omega))
    have hkN : k < M := by have := Int.emod_lt_of_pos id (show (0 : Int) < M by omega); omega
    have he : hasB T id = (bd T.busy k && decide (gd T.gens k * M + k = id)) := by
      unfold hasB
      rw [h.lg, hk]
      simp [show 0 ≤ id by omega]
    rw [he]
    obtain ⟨g0, g1⟩ := o4 k hkN
    have HH := Lib.hid h
    have HK := Lib.hid hok
    have HE := Lib.hid he
    have HO := Lib.hid o4
    have H3 := Lib.hid o3
    clear h hok he o4 o3
    unfold tv
    go_enter Try.func24, Try.ntmps24
    go_wp2_with fail
    refine (slot_any (HH.out.up (ba1 _ _)) id (by omega) (by omega)).mono ?_
    rintro e w1 ⟨rfl, hb1⟩
    have b1 := (Box.new w 47 #[.slice Ag M cg, .slice Ab M cb, .slice Af F cf]).up hb1
    have hw1 := bon (ba1 w _) hb1
    obtain ⟨⟨c0, c1, c2⟩, _⟩ := b1.three
    obtain ⟨b, o, rfl, hb, hc⟩ := Bl.at (HH.out.up hw1).b (k := k) (by rw [HH.out.lb]; exact hkN)
    rw [hk]
    have HI := Lib.hid (id_any (HH.out.up hw1) k hkN (by omega) g0 g1)
    cases hbd : bd T.busy k with
    | false =>
      rw [hbd] at hc
      go_wp2_with fail
      go_ret
      exact ⟨ret_bool (by rw [hbd]; rfl), hw1⟩
    | true =>
      rw [hbd] at hc
      have HD := Lib.hid hbd
      clear hbd
      go_wp2_with fail
      refine HI.out.mono ?_
      rintro e w2 ⟨rfl, hb2⟩
      go_wp2
      go_ret
      exact ⟨ret_bool (by rw [HD.out, Bool.true_and]; rfl), bon hw1 hb2⟩

set_option maxHeartbeats 1000000 in
theorem times_any (h : At w T Ag N cg Ab M cb Af F cf) :
    Calls Try.prog 34 #[tv Ag N cg Ab M cb Af F cf] w fun e w' => ∃ (g : Nat) (D : DataW Unit), e = .returned (.map (some g)) ∧ w'.ownsMap Try.prog 3 (plainElem Try.prog 3) g F D ∧ Cn D T.free ∧ w.heap.size ≤ g ∧ Below w.heap.size w w' := by
  have hF := h.hF
  have hmm := fun W n => mkmap W n
  have HH := Lib.hid h
  clear h
  unfold tv
  go_enter Try.func34, Try.ntmps34
  go_wp2
  go_loopw [15] (fun i wr => ∃ (k : Nat) (D : DataW Unit), k ≤ F ∧ i = .int .i64 k ∧ wr.ownsMap Try.prog 3 (plainElem Try.prog 3) (w.heap.size + 1) k D ∧ Hid (Cn D (T.free.take k)) ∧ Below (w.heap.size + 1) (w.alloc (.cells #[.slice Ag N cg, .slice Ab M cb, .slice Af F cf] 47)) wr)
    (fun i _ => F - (intOf i).toNat)
  case atStart =>
    have := World.ownsMap_made (H := Unit) (w.alloc (.cells #[.slice Ag N cg, .slice Ab M cb, .slice Af F cf] 47)) Try.prog 3 (plainElem Try.prog 3)
    rw [World.size_alloc] at this
    exact ⟨0, .map [], Nat.zero_le _, rfl, this, Lib.hid (by simpa using cn_nil), (Below.refl _ _).alloc (by simp) _⟩
  case round =>
    obtain ⟨k, D, hk, rfl, hown, hcn, hnx⟩ := hrel
    by_cases hlt : k < F
    · have hAt := HH.out.up (ba1 w (.cells #[.slice Ag N cg, .slice Ab M cb, .slice Af F cf] 47))
      obtain ⟨b, o, rfl, hb, hc⟩ := Is.at (hAt.up (hnx.mono (by simp))).f (by rw [HH.out.lf]; exact hlt)
      have hm : gd T.free k ∈ T.free := by
        rw [gd_eq (by rw [HH.out.lf]; exact hlt)]
        exact List.getElem_mem _
      have hwx : (Lit.int .i64 (gd T.free k)).wf = true := HH.out.wf _ hm
      have hkey : keyOf Try.prog 3 (.int .i64 (gd T.free k)) = some (.int .i64 (gd T.free k)) := keyOf_int_mk Try.underlying3 hwx
      have HM := Lib.hid hm
      clear hm hAt
      obtain ⟨x, hx⟩ : ∃ x, gd T.free k = x := ⟨_, rfl⟩
      rw [hx] at hc hwx hkey
      have HX := Lib.hid hx
      clear hx
      go_wp2_with (first
        | (at_lookup; refine wpList_lookup_own_int _ rfl _ _ 57 rfl 3 3 .i64 law3 Try.underlying57 Try.underlying3 (zero3 _) (w.heap.size + 1) k _ rfl hown _ _ rfl hkey ?_; intro c hat hwc)
        | (at_mapUpdate; refine wpList_mapUpdate_own _ rfl _ _ _ 57 rfl 3 3 law3 Try.underlying57 _ (w.heap.size + 1) k _ rfl hown (by unfold maxLen; omega) _ _ _ rfl rfl hkey _ [] (plainElem_int Try.underlying3 (wrap64_wf _)) ?_; intro w1 hown1 hgrow1)
        | fail)
      go_roundw
      case rel =>
        refine ⟨k + 1, _, by omega, by go_num, hown1, Lib.hid ?_, hnx.grown hgrow1 (by have := hnx.size; simpa using this) (fun j hj => by cases hj; exact Nat.le_refl _)⟩
        have hl := HH.out.lf
        have e1 : T.free.take (k + 1) = T.free.take k ++ [x] := by
          rw [List.take_add_one, List.getElem?_eq_getElem (by omega)]
          have := HX.out
          rw [gd_eq (by omega)] at this
          simp [this]
        rw [e1]
        exact cn_put hcn.out (hown.tidy law3).isMap hwx hat (by simp; omega)
      case measure => simp [intOf]; omega
    · have : k = F := by omega
      subst this
      have hl := HH.out.lf
      go_wp2
      go_ret
      refine ⟨w.heap.size + 1, D, rfl, hown, ?_, by omega, ?_⟩
      · have := hcn.out
        rwa [List.take_of_length_le (by omega)] at this
      · exact (ba1 _ _).trans (hnx.mono (by omega))

theorem lens {n : Nat} {busy : List Bool} {free : List Int} (h : free.length ≠ wants busy n) : free.isPerm (nb busy n) = false := by
  rw [← Bool.not_eq_true, List.isPerm_iff, perm_iff_counts]
  exact fun hh => h hh.2

set_option maxHeartbeats 2000000 in
theorem listed_any (h : At w T Ag N cg Ab M cb Af F cf) (hs : sizedT T = true) :
    Calls Try.prog 29 #[tv Ag N cg Ab M cb Af F cf] w fun e w' => e = .returned (.bool (T.free.isPerm (nb T.busy N))) ∧ Below w.heap.size w w' := by
  have hF := h.hF
  have hM' : M = N := by
    simp only [sizedT, Bool.and_eq_true, decide_eq_true_eq, h.lg, h.lb] at hs
    omega
  subst hM'
  have hN := h.hN
  have HH := Lib.hid h
  have HS := Lib.hid hs
  clear h hs
  by_cases hFN : M < F
  · have hf : T.free.isPerm (nb T.busy M) = false := lens (by have := wants_le T.busy M; rw [HH.out.lf]; omega)
    rw [hf]
    clear hf
    unfold tv
    go_enter Try.func29, Try.ntmps29
    go_wp2
    go_ret
    exact ⟨rfl, ba1 _ _⟩
  · unfold tv
    go_enter Try.func29, Try.ntmps29
    go_wp2_with fail
    refine (times_any (HH.out.up (ba1 _ _))).mono ?_
    rintro e w1 ⟨g, D, rfl, hown, hcn, hg, hb1⟩
    have b1 := (Box.new w 47 #[.slice Ag M cg, .slice Ab M cb, .slice Af F cf]).up hb1
    have hw1 := bon (ba1 w _) hb1
    obtain ⟨⟨c0, c1, c2⟩, _⟩ := b1.three
    have HC := Lib.hid hcn
    have hAt := HH.out.up hw1
    clear hcn b1 hb1 hg
    have HA := Lib.hid hAt
    clear hAt
    go_wp2
    go_loopw [22, 4] (fun i fr wr => ∃ (k n : Nat), k ≤ M ∧ n ≤ k ∧ i = .int .i64 k ∧ fr = .int .i64 (n : Int) ∧ Hid (n = wants T.busy k ∧ ∀ j : Nat, j < k → T.free.count (j : Int) = if bd T.busy j then 0 else 1) ∧ wr = w1)
      (fun i _ _ => M - (intOf i).toNat)
    case atStart => exact ⟨0, 0, Nat.zero_le _, Nat.le_refl _, rfl, rfl, Lib.hid ⟨rfl, fun j hj => absurd hj (by omega)⟩, rfl⟩
    case round =>
      obtain ⟨k, n, hk, hnk, rfl, rfl, HR, rfl⟩ := hrel
      by_cases hlt : k < M
      · obtain ⟨b, o, rfl, hb, hc⟩ := Bl.at HA.out.b (k := k) (by rw [HH.out.lb]; exact hlt)
        have hwx : (Lit.int .i64 (k : Int)).wf = true := WalkArith.wf_i64 (by omega)
        have hkey : keyOf Try.prog 3 (.int .i64 (k : Int)) = some (.int .i64 (k : Int)) := keyOf_int_mk Try.underlying3 hwx
        have HW := Lib.hid hwx
        clear hwx
        have hcl : T.free.count (k : Int) ≤ F := by rw [← HH.out.lf]; exact List.count_le_length
        obtain ⟨m, hm⟩ : ∃ m, T.free.count (k : Int) = m := ⟨_, rfl⟩
        rw [hm] at hcl
        obtain ⟨v, hv⟩ : ∃ v, (if bd T.busy k then 0 else 1) = v := ⟨_, rfl⟩
        have HM := Lib.hid hm
        cases hbd : bd T.busy k with
        | false =>
          rw [hbd] at hc
          have HD := Lib.hid hbd
          clear hbd hm hv
          by_cases hm1 : m = 1
          · subst hm1
            go_wp2_with (first
              | (at_lookup; refine wpList_lookup_own_int _ rfl _ _ 57 rfl 3 3 .i64 law3 Try.underlying57 Try.underlying3 (zero3 _) g F _ rfl hown _ _ rfl hkey ?_; intro c hat hwc; have hcm := cn_at HC.out HW.out hat HM.out; subst hcm; clear hat hwc)
              | fail)
            go_roundw
            case rel =>
              refine ⟨k + 1, n + 1, by omega, by omega, by go_num, by go_num, Lib.hid ⟨?_, fun j hj => ?_⟩, trivial⟩
              · simp only [wants, HD.out, HR.out.1]
                rfl
              · by_cases hjk : j < k
                · exact HR.out.2 j hjk
                · have : j = k := by omega
                  subst this
                  rw [HM.out, HD.out]
                  simp
            case measure => simp [intOf]; omega
          · have hm2 : (m : Int) ≠ 1 := by omega
            go_wp2_with (first
              | (at_lookup; refine wpList_lookup_own_int _ rfl _ _ 57 rfl 3 3 .i64 law3 Try.underlying57 Try.underlying3 (zero3 _) g F _ rfl hown _ _ rfl hkey ?_; intro c hat hwc; have hcm := cn_at HC.out HW.out hat HM.out; subst hcm; clear hat hwc)
              | fail)
            go_ret
            refine ⟨ret_bool ?_, hw1⟩
            rw [eq_comm, ← Bool.not_eq_true, List.isPerm_iff, perm_iff_counts]
            intro hh
            have := hh.1 k hlt
            rw [HM.out, HD.out] at this
            simp at this
            omega
        | true =>
          rw [hbd] at hc
          have HD := Lib.hid hbd
          clear hbd hm hv
          by_cases hm1 : m = 0
          · subst hm1
            go_wp2_with (first
              | (at_lookup; refine wpList_lookup_own_int _ rfl _ _ 57 rfl 3 3 .i64 law3 Try.underlying57 Try.underlying3 (zero3 _) g F _ rfl hown _ _ rfl hkey ?_; intro c hat hwc; have hcm := cn_at HC.out HW.out hat HM.out; subst hcm; clear hat hwc)
              | fail)
            go_roundw
            case rel =>
              refine ⟨k + 1, n, by omega, by omega, by go_num, by go_num, Lib.hid ⟨?_, fun j hj => ?_⟩, trivial⟩
              · simp only [wants, HD.out, HR.out.1]
                rfl
              · by_cases hjk : j < k
                · exact HR.out.2 j hjk
                · have : j = k := by omega
                  subst this
                  rw [HM.out, HD.out]
                  simp
            case measure => simp [intOf]; omega
          · have hm2 : (m : Int) ≠ 0 := by omega
            go_wp2_with (first
              | (at_lookup; refine wpList_lookup_own_int _ rfl _ _ 57 rfl 3 3 .i64 law3 Try.underlying57 Try.underlying3 (zero3 _) g F _ rfl hown _ _ rfl hkey ?_; intro c hat hwc; have hcm := cn_at HC.out HW.out hat HM.out; subst hcm; clear hat hwc)
              | fail)
            go_ret
            refine ⟨ret_bool ?_, hw1⟩
            rw [eq_comm, ← Bool.not_eq_true, List.isPerm_iff, perm_iff_counts]
            intro hh
            have := hh.1 k hlt
            rw [HM.out, HD.out] at this
            simp at this
            omega
      · have : k = M := by omega
        subst this
        go_wp2
        go_ret
        refine ⟨ret_bool ?_, hw1⟩
        rw [Bool.eq_iff_iff, List.isPerm_iff, perm_iff_counts, HH.out.lf, ← HR.out.1]
        simp only [beq_iff_eq]
        constructor
        · intro he
          exact ⟨HR.out.2, by omega⟩
        · intro he
          omega

end
end Go.Proofs.Ytkglgbbekmljcaa
