/-
  The walk of the law HeadLimits.
-/
import Derived.Test.YteefjcllbnmegaaGreatDoorLawE
namespace Go.Proofs.YteefjcllbnmegaaGreatDoor
open Go.RowKit

def FS (fs : List Fd) : Prop := ∀ f ∈ fs, f.1.size ≤ 300 ∧ f.2.size ≤ 300
theorem PL.setT {W1 wr : World} {gh B : Nat} {m t r : ByteArray} {st mi : Int} {O : Sli} {fs : List Fd} (h : PL W1 wr gh B m t st r mi O fs) (x : ByteArray) : PL W1 (wr.setCell ⟨gh, 1, none⟩ (.string x)) gh B m x st r mi O fs := by
  refine ⟨h.low.setCell (p := ⟨gh, 1, none⟩) h.h1 _, ?_, row_far h.row (p := ⟨gh, 1, none⟩) h.h2 _, h.h1, h.h2, by simpa using h.h3⟩
  have := h.hbox.set 1 (.string x)
  simpa using this
theorem text_12 (h : Hd) (a : Bool) : 5 ≤ (textH h a).length := by
  have hv : 7 ≤ (verT h.mi).length := by
    unfold verT
    simp only [List.length_append, List.length_cons, List.length_nil]
    omega
  unfold textH firstT
  split
  · simp only [List.length_append, crlf, List.length_cons, List.length_nil]
    omega
  · simp only [List.length_append, crlf, List.length_cons, List.length_nil]
    omega

set_option maxRecDepth 100000 in
set_option maxHeartbeats 4000000 in
theorem headLimits_any (n how more : Nat) (hn : n < 256) (hhow : how < 256) (hmore : more < 256) (w : World) (hT : Tabs w) : Calls Tryz.prog 5 #[.int .u8 (n : Int), .int .u8 (how : Int), .int .u8 (more : Int)] w (BoolEnds true w) := by
  obtain ⟨i32, hi, hz0, hz1, hz2⟩ := info_parts info32
  have hPL : PL w (w.alloc (.cells #[.string ⟨#[71, 69, 84]⟩, .string ⟨#[47]⟩, .int .i64 0, .string ⟨#[]⟩, .int .i64 1, .slice none 0 0] 30)) w.heap.size (w.heap.size + 1) ⟨#[71, 69, 84]⟩ ⟨#[47]⟩ 0 ⟨#[]⟩ 1 ⟨none, 0, 0⟩ [] := ⟨ba1 _ _, Box.new _ _ _, World.ownsRow_nil _ _ _ _, Nat.le_refl _, Nat.lt_succ_self _, by simp⟩
  have hq3 : how % 3 = 0 ∨ how % 3 = 1 ∨ how % 3 = 2 := by omega
  have u0 : IntKind.u8.wrap 0 = 0 := rfl
  have u1 : IntKind.u8.wrap 1 = 1 := rfl
  have u2 : IntKind.u8.wrap 2 = 2 := rfl
  have v1 : (how : Int).tmod 3 = (how : Int) % 3 := Int.tmod_eq_emod_of_nonneg (by omega)
  go_enter Tryz.func5, Tryz.ntmps5
  go_upto_region 2 with fail
  generalize w.alloc (.cells #[.string ⟨#[71, 69, 84]⟩, .string ⟨#[47]⟩, .int .i64 0, .string ⟨#[]⟩, .int .i64 1, .slice none 0 0] 30) = W0 at *
  obtain ⟨gh, hg⟩ : ∃ g, w.heap.size = g := ⟨_, rfl⟩
  rw [hg] at hPL ⊢
  have HP0 := Lib.hid hPL
  clear hPL hg
  refine hq3.elim (fun hq => ?c0) (fun h => h.elim (fun hq => ?c1) (fun hq => ?c2))
  case' c0 =>
    have v2 : (how : Int).tmod 3 = 0 := by omega
    have v3 : (how : Int) % 3 = 0 := by omega
    clear v1 hq
    obtain ⟨N, hN⟩ : ∃ N, n % 25 = N := ⟨_, rfl⟩
    have hNd : N < 25 := by omega
    have y1 : IntKind.i64.wrap (n : Int) = (n : Int) := IntWalk.i64_in _ (by omega)
    have y2 : (n : Int).tmod 25 = (N : Int) := by rw [Int.tmod_eq_emod_of_nonneg (by omega), ← hN]; simp
    have y3 : (n : Int) % 25 = (N : Int) := by rw [← hN]; simp
    have y4 : IntKind.i64.wrap (N : Int) = (N : Int) := IntWalk.i64_in _ (by omega)
    clear hN
    go_wp2_with fail
    go_loopw [8] (fun i wr => ∃ (k : Nat) (O : Sli) (fs : List Fd), k ≤ N ∧ O.n = k ∧ i = .int .i64 (k : Int) ∧ Hid (fs.length = k ∧ FS fs) ∧ Hid (PL w wr gh (gh + 1) ⟨#[71, 69, 84]⟩ ⟨#[47]⟩ 0 ⟨#[]⟩ 1 O fs)) (fun i _ => N - (intOf i).toNat)
    case atStart => exact ⟨0, ⟨none, 0, 0⟩, [], by omega, rfl, rfl, Lib.hid ⟨rfl, fun f hf => by cases hf⟩, HP0⟩
    case' round =>
      obtain ⟨k, O, fs, hk, hO, rfl, HX, HO⟩ := hrel
      obtain ⟨OA, On, Oc⟩ := O
      simp only at hO
      subst hO
      clear HP0
      refine (Nat.lt_or_ge On N).elim (fun hlt => ?go8) (fun hge => ?stop8)
      case go8 =>
        have hlti : (On : Int) < (N : Int) := by omega
        have HM5 := Lib.hid (HO.out.up (ba1 wr (.cells #[.string ⟨#[65]⟩, .string ⟨#[98]⟩] 36)))
        have HSrc := Lib.hid (src_one wr 36 (fvs [(⟨#[65]⟩, ⟨#[98]⟩)]) 1 2 rfl)
        have hBw : gh + 1 ≤ (wr.alloc (.cells #[.string ⟨#[65]⟩, .string ⟨#[98]⟩] 36)).heap.size := HM5.out.h3
        have d5 := HO.out.hbox.c 5 rfl
        clear HO
        go_wp2_with (at_builtin; refine wpList_app _ rfl _ _ 28 rfl (gh + 1) 36 i32 _ 2 32 (by decide) Tryz.underlying28 hi hz0 hz1 hz2 rfl (.slice OA On Oc) On (fvs fs) rfl HM5.out.row (some ⟨wr.heap.size, 0, none⟩) 1 1 (fvs [(⟨#[65]⟩, ⟨#[98]⟩)]) rfl HSrc.out (fvs_one _) ?_ ?_ hBw (On + 1) rfl ?_; (unfold maxLen; omega); omega; intro A' c' w5 h1 h2 h3; refine Hid.out ?_)
        obtain ⟨hP3, d6, e6⟩ := HM5.out.app (fs' := fs ++ [(⟨#[65]⟩, ⟨#[98]⟩)]) (by rw [fvs_app]; exact h1) h2
        have HO3 := Lib.hid hP3
        clear h1 h2 h3 HM5 HSrc hP3 d5
        refine Lib.hid ?_
        go_wp2
        go_roundw
        case rel =>
          refine ⟨On + 1, ⟨A', On + 1, c'⟩, fs ++ [(⟨#[65]⟩, ⟨#[98]⟩)], by omega, rfl, by go_num, Lib.hid ⟨by rw [List.length_append, HX.out.1]; rfl, ?_⟩, HO3⟩
          intro q hq
          rcases List.mem_append.1 hq with hq | hq
          · exact HX.out.2 q hq
          · simp only [List.mem_cons, List.not_mem_nil, or_false] at hq
            subst hq
            exact ⟨(show ByteArray.size ⟨#[65]⟩ ≤ 300 by decide), by decide⟩
        case measure => simp [intOf]; omega
      case' stop8 =>
        have hlti : ¬ (On : Int) < (N : Int) := by omega
        have hOn : On ≤ 25 := by omega
        clear hge hk
        go_upto_region 26 with fail
        clear hlti
        obtain ⟨t, ht3, HO⟩ : ∃ t : ByteArray, t.size ≤ 300 ∧ Hid (PL w wr gh (gh + 1) ⟨#[71, 69, 84]⟩ t 0 ⟨#[]⟩ 1 ⟨OA, On, Oc⟩ fs) := ⟨_, by decide, HO⟩
  case' c1 =>
    have v2 : (how : Int).tmod 3 = 1 := by omega
    have v3 : (how : Int) % 3 = 1 := by omega
    clear v1 hq
    obtain ⟨N, hN⟩ : ∃ N, n % 10 = N := ⟨_, rfl⟩
    have hNd : N < 10 := by omega
    have y1 : IntKind.i64.wrap (n : Int) = (n : Int) := IntWalk.i64_in _ (by omega)
    have y2 : (n : Int).tmod 10 = (N : Int) := by rw [Int.tmod_eq_emod_of_nonneg (by omega), ← hN]; simp
    have y3 : (n : Int) % 10 = (N : Int) := by rw [← hN]; simp
    have y4 : IntKind.i64.wrap (N : Int) = (N : Int) := IntWalk.i64_in _ (by omega)
    clear hN
    have y5 : IntKind.i64.wrap (194 + (N : Int)) = 194 + (N : Int) := IntWalk.i64_in _ (by omega)
    go_wp2_with fail
    go_loopw [9] (fun i wr => ∃ (k : Nat) (t : ByteArray), k ≤ (194 + N) ∧ t.size ≤ k + 1 ∧ i = .int .i64 (k : Int) ∧ Hid (PL w wr gh (gh + 1) ⟨#[71, 69, 84]⟩ t 0 ⟨#[]⟩ 1 ⟨none, 0, 0⟩ [])) (fun i _ => (194 + N) - (intOf i).toNat)
    case atStart => exact ⟨0, ⟨#[47]⟩, by omega, Nat.le_refl _, rfl, HP0⟩
    case' round =>
      obtain ⟨k, t, hk, htz, rfl, HO⟩ := hrel
      clear HP0
      refine (Nat.lt_or_ge k (194 + N)).elim (fun hlt => ?go9) (fun hge => ?stop9)
      case go9 =>
        have hlti : (k : Int) < (194 + (N : Int)) := by omega
        have k2 := fun W => run_string_add_sum (P := Tryz.prog) W t ⟨#[97]⟩ (by show t.size + 1 ≤ _; omega)
        have z2 : (t ++ ⟨#[97]⟩).size ≤ k + 1 + 1 := by rw [ByteArray.size_append]; exact Nat.succ_le_succ htz
        have HO3 := Lib.hid (HO.out.setT (t ++ ⟨#[97]⟩))
        have d1 := HO.out.hbox.c 1 rfl
        have d2 := HO.out.hbox.f 1
        clear HO
        go_wp2
        go_roundw
        case rel => exact ⟨k + 1, t ++ ⟨#[97]⟩, by omega, z2, by go_num, HO3⟩
        case measure => simp [intOf]; omega
      case' stop9 =>
        have hlti : ¬ (k : Int) < (194 + (N : Int)) := by omega
        have ht3 : t.size ≤ 300 := by omega
        clear hge hk htz
        go_upto_region 26 with fail
        clear hlti
        obtain ⟨OA, On, Oc, fs, hOn, HX, HO⟩ : ∃ OA On Oc fs, On ≤ 25 ∧ Hid (fs.length = On ∧ FS fs) ∧ Hid (PL w wr gh (gh + 1) ⟨#[71, 69, 84]⟩ t 0 ⟨#[]⟩ 1 ⟨OA, On, Oc⟩ fs) := ⟨none, 0, 0, [], by decide, Lib.hid ⟨rfl, fun f hf => by cases hf⟩, HO⟩
  case' c2 =>
    have v2 : (how : Int).tmod 3 = 2 := by omega
    have v3 : (how : Int) % 3 = 2 := by omega
    clear v1 hq
    obtain ⟨N, hN⟩ : ∃ N, n % 40 = N := ⟨_, rfl⟩
    have hNd : N < 40 := by omega
    have y1 : IntKind.i64.wrap (n : Int) = (n : Int) := IntWalk.i64_in _ (by omega)
    have y2 : (n : Int).tmod 40 = (N : Int) := by rw [Int.tmod_eq_emod_of_nonneg (by omega), ← hN]; simp
    have y3 : (n : Int) % 40 = (N : Int) := by rw [← hN]; simp
    have y4 : IntKind.i64.wrap (N : Int) = (N : Int) := IntWalk.i64_in _ (by omega)
    clear hN
    go_wp2_with fail
    go_loopw [11, 10] (fun i u wr => ∃ (k : Nat) (v : ByteArray), k ≤ 190 ∧ v.size ≤ k ∧ i = .int .i64 (k : Int) ∧ u = .string v ∧ Hid (PL w wr gh (gh + 1) ⟨#[71, 69, 84]⟩ ⟨#[47]⟩ 0 ⟨#[]⟩ 1 ⟨none, 0, 0⟩ [])) (fun i _ _ => 190 - (intOf i).toNat)
    case atStart => exact ⟨0, ⟨#[]⟩, by omega, Nat.le_refl _, rfl, rfl, HP0⟩
    case' round =>
      obtain ⟨k, v, hk, hvk, rfl, rfl, HO⟩ := hrel
      clear HP0
      refine (Nat.lt_or_ge k 190).elim (fun hlt => ?go11) (fun hge => ?stop11)
      case go11 =>
        have hlti : (k : Int) < 190 := by omega
        have k2 := fun W => run_string_add_sum (P := Tryz.prog) W v ⟨#[118]⟩ (by show v.size + 1 ≤ _; omega)
        have z2 : (v ++ ⟨#[118]⟩).size ≤ k + 1 := by rw [ByteArray.size_append]; exact Nat.succ_le_succ hvk
        go_wp2
        go_roundw
        case rel => exact ⟨k + 1, v ++ ⟨#[118]⟩, by omega, z2, by go_num, rfl, HO⟩
        case measure => simp [intOf]; omega
      case' stop11 =>
        have hlti : ¬ (k : Int) < 190 := by omega
        have hvz : v.size ≤ 300 := by omega
        have HP0 := HO
        clear HO hge hk hvk
        go_upto_region 8 with fail
        clear hlti
        go_wp2_with fail
        go_loopw [12] (fun i wr => ∃ (k : Nat) (O : Sli) (fs : List Fd), k ≤ 10 ∧ O.n = k ∧ i = .int .i64 (k : Int) ∧ Hid (fs.length = k ∧ FS fs) ∧ Hid (PL w wr gh (gh + 1) ⟨#[71, 69, 84]⟩ ⟨#[47]⟩ 0 ⟨#[]⟩ 1 O fs)) (fun i _ => 10 - (intOf i).toNat)
        case atStart => exact ⟨0, ⟨none, 0, 0⟩, [], by omega, rfl, rfl, Lib.hid ⟨rfl, fun f hf => by cases hf⟩, HP0⟩
        case' round =>
          obtain ⟨k, O, fs, hk, hO, rfl, HX, HO⟩ := hrel
          obtain ⟨OA, On, Oc⟩ := O
          simp only at hO
          subst hO
          clear HP0
          refine (Nat.lt_or_ge On 10).elim (fun hlt => ?go12) (fun hge => ?stop12)
          case go12 =>
            have hlti : (On : Int) < (10 : Int) := by omega
            have HM5 := Lib.hid (HO.out.up (ba1 wr (.cells #[.string ⟨#[65, 98, 99, 100]⟩, .string v] 36)))
            have HSrc := Lib.hid (src_one wr 36 (fvs [(⟨#[65, 98, 99, 100]⟩, v)]) 1 2 rfl)
            have hBw : gh + 1 ≤ (wr.alloc (.cells #[.string ⟨#[65, 98, 99, 100]⟩, .string v] 36)).heap.size := HM5.out.h3
            have d5 := HO.out.hbox.c 5 rfl
            clear HO
            go_wp2_with (at_builtin; refine wpList_app _ rfl _ _ 28 rfl (gh + 1) 36 i32 _ 2 32 (by decide) Tryz.underlying28 hi hz0 hz1 hz2 rfl (.slice OA On Oc) On (fvs fs) rfl HM5.out.row (some ⟨wr.heap.size, 0, none⟩) 1 1 (fvs [(⟨#[65, 98, 99, 100]⟩, v)]) rfl HSrc.out (fvs_one _) ?_ ?_ hBw (On + 1) rfl ?_; (unfold maxLen; omega); omega; intro A' c' w5 h1 h2 h3; refine Hid.out ?_)
            obtain ⟨hP3, d6, e6⟩ := HM5.out.app (fs' := fs ++ [(⟨#[65, 98, 99, 100]⟩, v)]) (by rw [fvs_app]; exact h1) h2
            have HO3 := Lib.hid hP3
            clear h1 h2 h3 HM5 HSrc hP3 d5
            refine Lib.hid ?_
            go_wp2
            go_roundw
            case rel =>
              refine ⟨On + 1, ⟨A', On + 1, c'⟩, fs ++ [(⟨#[65, 98, 99, 100]⟩, v)], by omega, rfl, by go_num, Lib.hid ⟨by rw [List.length_append, HX.out.1]; rfl, ?_⟩, HO3⟩
              intro q hq
              rcases List.mem_append.1 hq with hq | hq
              · exact HX.out.2 q hq
              · simp only [List.mem_cons, List.not_mem_nil, or_false] at hq
                subst hq
                exact ⟨(show ByteArray.size ⟨#[65, 98, 99, 100]⟩ ≤ 300 by decide), hvz⟩
            case measure => simp [intOf]; omega
          case' stop12 =>
            have hlti : ¬ (On : Int) < (10 : Int) := by omega
            have hOn : On ≤ 25 := by omega
            clear hge hk
            have HP0 := HO
            clear HO
            go_upto_region 12 with fail
            clear hlti
            go_wp2_with fail
            go_loopw [13] (fun i wr => ∃ (k : Nat) (t : ByteArray), k ≤ N ∧ t.size ≤ k + 1 ∧ i = .int .i64 (k : Int) ∧ Hid (PL w wr gh (gh + 1) ⟨#[71, 69, 84]⟩ t 0 ⟨#[]⟩ 1 ⟨OA, On, Oc⟩ fs)) (fun i _ => N - (intOf i).toNat)
            case atStart => exact ⟨0, ⟨#[47]⟩, by omega, Nat.le_refl _, rfl, HP0⟩
            case' round =>
              obtain ⟨k, t, hk, htz, rfl, HO⟩ := hrel
              clear HP0
              refine (Nat.lt_or_ge k N).elim (fun hlt => ?go13) (fun hge => ?stop13)
              case go13 =>
                have hlti : (k : Int) < (N : Int) := by omega
                have k2 := fun W => run_string_add_sum (P := Tryz.prog) W t ⟨#[116]⟩ (by show t.size + 1 ≤ _; omega)
                have z2 : (t ++ ⟨#[116]⟩).size ≤ k + 1 + 1 := by rw [ByteArray.size_append]; exact Nat.succ_le_succ htz
                have HO3 := Lib.hid (HO.out.setT (t ++ ⟨#[116]⟩))
                have d1 := HO.out.hbox.c 1 rfl
                have d2 := HO.out.hbox.f 1
                clear HO
                go_wp2
                go_roundw
                case rel => exact ⟨k + 1, t ++ ⟨#[116]⟩, by omega, z2, by go_num, HO3⟩
                case measure => simp [intOf]; omega
              case' stop13 =>
                have hlti : ¬ (k : Int) < (N : Int) := by omega
                have ht3 : t.size ≤ 300 := by omega
                clear hge hk htz
                go_upto_region 26 with fail
                clear hlti
  all_goals
    clear v2 v3 u0 u1 u2 y1 y2 y3 y4
    clear hn hhow
    have hTW := hT.up HO.out.low
    obtain ⟨c0, c1, c2, c3, c4, c5⟩ := HO.out.hbox.six
    have HFs := Lib.hid HO.out.row.fs
    have hFew : Few fs := fun f hf => by have := HX.out.2 f hf; omega
    have HTx := Lib.hid (rtextH_any ⟨#[71, 69, 84]⟩ t 0 ⟨#[]⟩ 1 OA On Oc fs false wr (by decide) (by omega) (by decide) (by decide) (by decide) HFs.out (by omega) hFew)
    have HTold : Hid (∀ W, Fs W ⟨OA, On, Oc⟩ fs → Tabs W → Calls Tryz.prog 11 #[.agg #[.string ⟨#[71, 69, 84]⟩, .string t, .int .i64 0, .string ⟨#[]⟩, .int .i64 1, .slice OA On Oc]] W (BoolEnds true W)) := Lib.hid (fun W hW hTW => told_any ⟨#[71, 69, 84]⟩ t 0 ⟨#[]⟩ 1 OA On Oc fs W (by decide) (by omega) (by decide) hW (by omega) hFew hTW)
    have HMax : Hid (∀ s : ByteArray, dl s = textH (hdOf ⟨#[71, 69, 84]⟩ t 0 ⟨#[]⟩ 1 fs) false → s.size ≤ 4611686018427387904) := Lib.hid (fun s hs => text_max hs hFew HX.out.1 (by omega) (by decide) (by omega) (by decide) (by decide) (by decide))
    clear hTW hFew HX ht3 hOn
    go_wp2_with fail
    refine HTx.out.mono ?_
    rintro e w3 ⟨s, rfl, hs0, hb3⟩
    have h12 := text_12 (hdOf ⟨#[71, 69, 84]⟩ t 0 ⟨#[]⟩ 1 fs) false
    rw [← hs0, dl_len] at h12
    have hsz := HMax.out s hs0
    have hb4 := bon HO.out.low hb3
    have bx4 := HO.out.hbox.up hb3
    have HF4 := Lib.hid (HFs.out.up hb3)
    clear HO HFs HTx HMax hs0 hb3 c0 c1 c2 c3 c4 c5
    have hs1 : ((s.size : Int) - 4).toNat = s.size - 4 := by omega
    have hs2 : (0 : Int) ≤ (s.size : Int) - 4 := by omega
    have hs3 : (s.size : Int) - 4 ≤ (s.size : Int) := by omega
    have hs4 : IntKind.i64.wrap ((s.size : Int) - 4) = (s.size : Int) - 4 := IntWalk.i64_in _ (by omega)
    have x1 : (s.extract 0 (s.size - 4)).size ≤ 4611686018427387904 := by rw [ByteArray.size_extract]; omega
    obtain ⟨p, hp⟩ : ∃ p, more % 4 = p := ⟨_, rfl⟩
    have hp4 : p < 4 := by omega
    have y1 : IntKind.i64.wrap (more : Int) = (more : Int) := IntWalk.i64_in _ (by omega)
    have y2 : (more : Int).tmod 4 = (p : Int) := by rw [Int.tmod_eq_emod_of_nonneg (by omega), ← hp]; simp
    have y3 : (more : Int) % 4 = (p : Int) := by rw [← hp]; simp
    have y4 : IntKind.i64.wrap (p : Int) = (p : Int) := IntWalk.i64_in _ (by omega)
    have y5 : IntKind.i64.wrap ((s.size : Int) - 4 - (p : Int)) = (s.size : Int) - 4 - (p : Int) := IntWalk.i64_in _ (by omega)
    obtain ⟨M, hM⟩ : ∃ M : Nat, max 0 ((s.size : Int) - 4 - (p : Int)) = (M : Int) := ⟨(max 0 ((s.size : Int) - 4 - (p : Int))).toNat, by omega⟩
    have hM1 : (M : Int) ≤ (s.size : Int) := by omega
    have hM2 : M ≤ s.size := by omega
    have hM0 : (0 : Int) ≤ (M : Int) := by omega
    have x2 : (s.extract 0 M).size ≤ 4611686018427387904 := by rw [ByteArray.size_extract]; omega
    clear hp
    go_wp2_with fail
    refine (awake_any _ (hT.up hb4)).mono ?_
    rintro e wA ⟨rfl, hbA⟩
    have hAw := bon hb4 hbA
    have bxA := bx4.up hbA
    have HTo := Lib.hid (HTold.out wA (HF4.out.up hbA) (hT.up hAw))
    obtain ⟨c0, c1, c2, c3, c4, c5⟩ := bxA.six
    clear hb4 hbA bx4 HTold HF4 bxA
    go_wp2_with fail
    refine HTo.out.mono ?_
    rintro e wB ⟨rfl, hbB⟩
    have hBw := bon hAw hbB
    clear c0 c1 c2 c3 c4 c5 HTo hAw hbB
    have HS1 := Lib.hid (same_any _ x1 wB (hT.up hBw))
    go_wp2_with fail
    refine HS1.out.mono ?_
    rintro e wC ⟨rfl, hbC⟩
    have hCw := bon hBw hbC
    have HS2 := Lib.hid (same_any _ x2 wC (hT.up hCw))
    clear HS1 hBw hbC
    go_wp2_with fail
    refine HS2.out.mono ?_
    rintro e wD ⟨rfl, hbD⟩
    have hDw := bon hCw hbD
    clear HS2 hCw hbD
    go_wp2
    go_ret
    exact ⟨by rfl, hDw⟩
end Go.Proofs.YteefjcllbnmegaaGreatDoor
