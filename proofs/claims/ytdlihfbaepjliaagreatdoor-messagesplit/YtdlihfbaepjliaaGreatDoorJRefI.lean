/-
  The walks of the document's own Items and Get.
-/
import Derived.Test.YtdlihfbaepjliaaGreatDoorJWords
import Derived.Test.YtdlihfbaepjliaaGreatDoorJRefS
import Derived.Test.YtdlihfbaepjliaaGreatDoorJHdU
import Derived.Test.YtdlihfbaepjliaaGreatDoorProg
import Derived.Lib.SlTrimSet
import Derived.WalkKit
import Derived.Lib.Split
import Derived.WalkSpells
import Derived.WalkLawsBesides
import Derived.WalkSmall
import Derived.Lib.Hide
import Derived.IntWalk
import Derived.BigQuiet
import Derived.Laws.OwnMore
import Derived.Deep.AppendLies
import Derived.Deep.RegionLaw
import Derived.Deep.Upon
import Derived.Deep.DeepCutAuto
import Derived.Lib.IndexLaws
import Derived.Shelf.LaysM
import Derived.Shelf.Small.Strs
import Derived.Shelf.Small.Wraps
import Derived.Shelf.Strings.Search1
import Derived.Shelf.Strings.Search2
import Derived.Shelf.Strings.SlTrimAscii
import Derived.Shelf.Strings.Split
import Derived.Shelf.Strings.Prefix
import Derived.Shelf.Strconv.Itoa4
import Derived.Lib.SmallJoins
import Derived.Lib.LaidTab
import Derived.Lib.AppendIntMem
import Derived.Lib.IndexAny
import Derived.RangeFuncNested
import Derived.RangeFuncBound
import Derived.RangeFuncCalls
import Derived.RangeFuncLeaves
import Derived.Shelf.Abstract
import Derived.Shelf.RegionOpen
import Derived.OwnWalkIn
import Derived.TacticsInMore
import Derived.LoopNIn
import Derived.LoopIn
import Derived.Maps.AppendAt
import Derived.Deep.RegionHeld3
import Derived.Test.YtdlihfbaepjliaaGreatDoorHdA
import Derived.Test.YtdlihfbaepjliaaGreatDoorFm
import Derived.Test.YtdlihfbaepjliaaGreatDoorNum
namespace Go.Proofs.YtdlihfbaepjliaaGreatDoor
open Go.RowKit

/-- what Items has still to tell -/
def restI (s : ByteArray) (f k : Nat) : List Bs := if k ≤ s.size then itemsP (splitA (dl (s.extract f k)) ((dl s).drop k)) else []
theorem rest_start (s : ByteArray) : restI s 0 0 = itemsL (dl s) := by
  rw [restI, if_pos (Nat.zero_le _), dl_ext]
  rfl
theorem rest_step {s : ByteArray} {f k : Nat} (hf : f ≤ k) (hk : k < s.size) (h : s[k] ≠ 44) : restI s f k = restI s f (k + 1) := by
  rw [restI, restI, if_pos (Nat.le_of_lt hk), if_pos (show k + 1 ≤ s.size from hk), drop_cons hk, splitA, if_neg h, ext_succ hf hk]
theorem rest_cut {s : ByteArray} {f k : Nat} (hk : k ≤ s.size) (h : ∀ hlt : k < s.size, s[k] = 44) : restI s f k = itemsP [dl (s.extract f k)] ++ restI s (k + 1) (k + 1) := by
  by_cases hlt : k < s.size
  · rw [restI, restI, if_pos hk, if_pos (show k + 1 ≤ s.size from hlt), drop_cons hlt, splitA, if_pos (h hlt), itemsP_cons]
    congr 3
    rw [dl_ext, List.drop_take]
    simp
  · obtain rfl : k = s.size := by omega
    rw [restI, restI, if_pos hk, if_neg (by omega), List.drop_of_length_le (by rw [dl_len]; exact Nat.le_refl _), splitA, List.append_nil]
theorem itemsP_one (p : Bs) : itemsP [p] = if lowerL (trimL p) = [] then [] else [lowerL (trimL p)] := by
  unfold itemsP
  cases h : lowerL (trimL p) with
  | nil => simp [h]
  | cons a r => simp [h]

/-- the values of the fields of that name -/
def getL (fs : List Fd) (name : ByteArray) : List ByteArray := (fs.filter fun f => decide (lowerL (dl f.1) = lowerL (dl name))).map (·.2)
theorem getL_succ {fs : List Fd} {name : ByteArray} {k : Nat} {x y : ByteArray} (h : fs[k]? = some (x, y)) : getL (fs.take (k + 1)) name = if lowerL (dl x) = lowerL (dl name) then getL (fs.take k) name ++ [y] else getL (fs.take k) name := by
  rw [List.take_add_one, h, getL, getL]
  simp only [Option.toList_some, List.filter_append, List.map_append]
  by_cases hq : lowerL (dl x) = lowerL (dl name)
  · simp [hq]
  · simp [hq]
/-- texts that are just these are handed back -/
def SsEnds (xs : List ByteArray) (w : World) (e : Ending) (w' : World) : Prop := ∃ s : Sli, e = .returned (.slice s.A s.n s.c) ∧ Ss w' s xs ∧ Below w.heap.size w w'

set_option maxRecDepth 100000 in
set_option maxHeartbeats 4000000 in
theorem rget_any (L : Sli) (fs : List Fd) (name : ByteArray) (w : World) (hL : Fs w L fs) (hn : L.n ≤ 4096) (hf : ∀ f ∈ fs, f.1.size ≤ 4096) (hm : name.size ≤ 4096) : Calls Tryz.prog 119 #[L.v, .string name] w (SsEnds (getL fs name) w) := by
  obtain ⟨i9, hi, hz0, hz1, hz2⟩ := info_parts info9
  have HF := Lib.hid hf
  have HL := Lib.hid hL
  obtain ⟨A, n, c⟩ := L
  simp only [Sli.v] at hn ⊢
  have hlen : Hid (fs.length = n) := Lib.hid hL.len
  clear hf hL
  have HLN := Lib.hid (fun W => rlower_any name hm W)
  go_enter Tryz.func119, Tryz.ntmps119
  go_wp2_with fail
  go_loopw [6, 5] (fun i o wr => ∃ (k : Nat) (O : Sli), k ≤ n ∧ O.n ≤ k ∧ i = .int .i64 (k : Int) ∧ o = .slice O.A O.n O.c ∧ Hid (Out 9 1 w wr O (svs (getL (fs.take k) name)))) (fun i _ _ => n - (intOf i).toNat)
  case atStart => exact ⟨0, ⟨none, 0, 0⟩, by omega, Nat.le_refl _, rfl, rfl, Lib.hid (Out.nil _ _ _ _ (Below.refl _ _))⟩
  case round =>
    obtain ⟨k, O, hk, hOn, rfl, rfl, HO⟩ := hrel
    by_cases hlt : k < n
    · obtain ⟨b, o, x, y, hA, hb, hx, c1, d1⟩ := (HL.out.up HO.out.hb).cell (k := k) hlt
      simp only at hA
      subst hA
      have HLX := Lib.hid (fun W => rlower_any x (HF.out _ (List.mem_of_getElem? hx)) W)
      have HS := Lib.hid (getL_succ (name := name) hx)
      clear hx
      have hki : (k : Int) < (n : Int) := by omega
      have hk0 : (0 : Int) ≤ (k : Int) := by omega
      go_wp2_with fail
      refine (HLX.out _).mono ?_
      rintro e w1 ⟨r1, rfl, hr1, hb1⟩
      go_wp2_with fail
      refine (HLN.out _).mono ?_
      rintro e w2 ⟨r2, rfl, hr2, hb2⟩
      have HO2 := Lib.hid (HO.out.up (bon hb1 hb2))
      have d2 := cell_up (bon hb1 hb2) d1
      clear HO c1 d1 hb1 hb2
      by_cases hq : r1 = r2
      · have HS2 : Hid (getL (fs.take (k + 1)) name = getL (fs.take k) name ++ [y]) := Lib.hid (by rw [HS.out, if_pos (by rw [← hr1, ← hr2, hq])])
        subst hq
        clear hr1 hr2
        have HSrc := Lib.hid (src_one w2 9 (svs [y]) 1 1 rfl)
        have HO3 := Lib.hid (HO2.out.up (ba1 w2 (.cells #[.string y] 9)))
        have hBw : w.heap.size ≤ (w2.alloc (.cells #[.string y] 9)).heap.size := HO3.out.le
        clear HO2
        go_wp2_with (at_builtin; refine wpList_app _ rfl _ _ 57 rfl w.heap.size 9 i9 _ 1 16 (by decide) Tryz.underlying57 hi hz0 hz1 hz2 rfl (.slice O.A O.n O.c) O.n (svs (getL (fs.take k) name)) rfl HO3.out.row (some ⟨w2.heap.size, 0, none⟩) 1 1 (svs [y]) rfl HSrc.out (svs_one _) ?_ ?_ hBw (O.n + 1) rfl ?_; (unfold maxLen; omega); omega; intro A' c' w3 h1 h2 h3; refine Hid.out ?_)
        have HO4 := Lib.hid (HO3.out.app (cs' := svs (getL (fs.take (k + 1)) name)) (by rw [HS2.out, svs, List.map_append]; exact h1) h2)
        clear h1 h2 h3 HO3 HSrc
        refine Lib.hid ?_
        go_wp2
        go_roundw
        case rel => exact ⟨k + 1, ⟨A', O.n + 1, c'⟩, by omega, by simp only; omega, by go_num, rfl, HO4⟩
        case measure => simp [intOf]; omega
      · have HS2 : Hid (getL (fs.take (k + 1)) name = getL (fs.take k) name) := Lib.hid (by rw [HS.out, if_neg (by rw [← hr1, ← hr2]; exact fun h => hq (dl_inj h))])
        have hrs : (r1.toList == r2.toList) = false := tl_ne hq
        clear hr1 hr2
        go_wp2
        go_roundw
        case rel => exact ⟨k + 1, O, by omega, by omega, by go_num, rfl, by rw [HS2.out]; exact HO2⟩
        case measure => simp [intOf]; omega
    · obtain rfl : k = n := by omega
      have HE : Hid (fs.take k = fs) := Lib.hid (List.take_of_length_le (by rw [hlen.out]; exact Nat.le_refl _))
      rw [HE.out] at HO
      go_wp2
      go_ret
      exact ⟨O, rfl, HO.out.row.ss, HO.out.hb⟩

end Go.Proofs.YtdlihfbaepjliaaGreatDoor

/-
  Frames as lists alone: what the fields tell, what a request and an answer tell, and whether the connection stays.
-/
namespace Go.Proofs.YtdlihfbaepjliaaGreatDoor
open Go.RowKit

def teN : ByteArray := ⟨#[116, 114, 97, 110, 115, 102, 101, 114, 45, 101, 110, 99, 111, 100, 105, 110, 103]⟩
def clN : ByteArray := ⟨#[99, 111, 110, 116, 101, 110, 116, 45, 108, 101, 110, 103, 116, 104]⟩
def cnN : ByteArray := ⟨#[99, 111, 110, 110, 101, 99, 116, 105, 111, 110]⟩
def chkB : Bs := [99, 104, 117, 110, 107, 101, 100]
def cloB : Bs := [99, 108, 111, 115, 101]
def kaB : Bs := [107, 101, 101, 112, 45, 97, 108, 105, 118, 101]
/-- what one length tells -/
def lenN (l : Bs) : Int × Int × Int :=
  if (parseN l 10).2 = 1 then (0, 0, 22) else if (parseN l 10).2 ≠ 0 ∨ 4000 < (parseN l 10).1 then (0, 0, 2) else (2, (parseN l 10).1, 0)
def hd1 (t : List ByteArray) : ByteArray := t.headD ⟨#[]⟩
def chunkN (t : List ByteArray) : Int × Int × Int := if t.length = 1 ∧ lowerL (dl (hd1 t)) = chkB then (3, 0, 0) else (0, 0, 22)
def sizN (t : List ByteArray) : Int × Int × Int := if t.length = 1 then lenN (dl (hd1 t)) else (0, 0, 22)
/-- what the fields tell -/
def framedN (t c : List ByteArray) (mi : Int) : Int × Int × Int :=
  if 0 < t.length then (if 0 < c.length ∨ mi = 0 then (0, 0, 22) else chunkN t) else if 0 < c.length then sizN c else (0, 0, 0)
def frH (fs : List Fd) (mi : Int) : Int × Int × Int := framedN (getL fs teN) (getL fs clN) mi
/-- what a request tells -/
def reqF (b : Bool) (f : Int × Int × Int) : Int × Int × Int := if b = false then (0, 0, 1) else if f.2.2 ≠ 0 then (0, 0, f.2.2) else if f.1 = 0 then (1, 0, 0) else f
def bareB (st : Int) (mt : Bs) : Bool := decide (mt = [72, 69, 65, 68]) || decide (st < 200) || decide (st = 204) || decide (st = 304)
/-- what an answer tells -/
def ansF (b : Bool) (q : Bool) (f : Int × Int × Int) : Int × Int × Int := if b = false then (0, 0, 1) else if f.2.2 ≠ 0 then (0, 0, f.2.2) else if q = true then (1, 0, 0) else if f.1 = 0 then (4, 0, 0) else f
/-- the items of all texts -/
def itemsF (xs : List ByteArray) : List Bs := xs.flatMap fun x => itemsL (dl x)
def staysN (its : List Bs) (mi : Int) : Bool := if its.contains cloB = true then false else its.contains kaB || decide (mi = 1)
def staysH (fs : List Fd) (mi : Int) : Bool := staysN (itemsF (getL fs cnN)) mi

/-- frames that fields may tell: an error, nothing, or a frame -/
def OkF (f : Int × Int × Int) : Prop := (f.1 = 0 ∧ f.2.1 = 0) ∨ (f.2.2 = 0 ∧ (f.1 = 3 ∧ f.2.1 = 0 ∨ f.1 = 2 ∧ 0 ≤ f.2.1 ∧ f.2.1 ≤ 4000))
theorem num_pos {base : Int} (hb : 1 ≤ base) (s : List UInt8) (h : digsN base s = true) : 0 ≤ numN base 0 s := num_ge hb s 0 (Int.le_refl _) h
theorem parse_zero (l : Bs) : (parseN l 10).2 = 0 → 0 ≤ (parseN l 10).1 := by
  unfold parseN
  split
  · rename_i h
    split
    · intro _
      exact num_pos (by decide) l (by simp at h; exact h.2)
    · intro h; cases h
  · intro h; cases h
theorem len_ok (l : Bs) : OkF (lenN l) := by
  unfold lenN
  by_cases h1 : (parseN l 10).2 = 1
  · rw [if_pos h1]; exact .inl ⟨rfl, rfl⟩
  · rw [if_neg h1]
    by_cases h2 : (parseN l 10).2 ≠ 0 ∨ 4000 < (parseN l 10).1
    · rw [if_pos h2]; exact .inl ⟨rfl, rfl⟩
    · rw [if_neg h2]
      have h0 : (parseN l 10).2 = 0 := Classical.not_not.1 fun h => h2 (.inl h)
      have hp := parse_zero l h0
      exact .inr ⟨rfl, .inr ⟨rfl, hp, by show (parseN l 10).1 ≤ 4000; omega⟩⟩
theorem framed_ok (t c : List ByteArray) (mi : Int) : OkF (framedN t c mi) := by
  unfold framedN chunkN sizN
  repeat' split
  all_goals first
    | exact .inl ⟨rfl, rfl⟩
    | exact .inr ⟨rfl, .inl ⟨rfl, rfl⟩⟩
    | exact len_ok _
theorem frH_ok (fs : List Fd) (mi : Int) : OkF (frH fs mi) := framed_ok _ _ _
theorem getL_name {fs : List Fd} {a b : ByteArray} (h : lowerL (dl a) = lowerL (dl b)) : getL fs a = getL fs b := by
  unfold getL
  rw [h]
theorem getL_mem {fs : List Fd} {a x : ByteArray} (h : x ∈ getL fs a) : ∃ f ∈ fs, f.2 = x := by
  obtain ⟨f, hf, rfl⟩ := List.mem_map.1 h
  exact ⟨f, (List.mem_filter.1 hf).1, rfl⟩
theorem getL_few {fs : List Fd} {a : ByteArray} (h : Few fs) : ∀ x ∈ getL fs a, x.size ≤ 4096 := by
  intro x hx
  obtain ⟨f, hf, rfl⟩ := getL_mem hx
  exact (h f hf).2
theorem getL_len (fs : List Fd) (a : ByteArray) : (getL fs a).length ≤ fs.length := by
  unfold getL
  rw [List.length_map]
  exact List.length_filter_le _ _
theorem hd1_of {t : List ByteArray} {x : ByteArray} (h : t[0]? = some x) : hd1 t = x := by
  cases t with
  | nil => cases h
  | cons y r => simpa [hd1] using h
theorem itemsF_succ {xs : List ByteArray} {k : Nat} {x : ByteArray} (h : xs[k]? = some x) : itemsF (xs.take (k + 1)) = itemsF (xs.take k) ++ itemsL (dl x) := by
  rw [List.take_add_one, h]
  simp [itemsF]

theorem tl_lit {y : ByteArray} {l : List UInt8} (h : dl y ≠ l) : (y.toList == l) = false := beq_eq_false_iff_ne.2 (fun e => h (by rw [← e, Go.ByteArray.toList_eq]))
/-- a frame and an error are handed back -/
def FrEnds (q : Int × Int × Int) (w : World) (e : Ending) (w' : World) : Prop := e = .returned (.tuple #[.agg #[.int .i64 q.1, .int .i64 q.2.1], .int .i64 q.2.2]) ∧ Below w.heap.size w w'
theorem Fr2 {w : World} {g : Nat} {ty : TypeId} {a b : Value} (h : Box w g ty #[a, b]) : w.cell? ⟨g, 0, none⟩ = some a ∧ w.cell? ⟨g, 1, none⟩ = some b ∧ w.frozen? ⟨g, 0, none⟩ = false ∧ w.frozen? ⟨g, 1, none⟩ = false := ⟨h.c 0 rfl, h.c 1 rfl, h.f 0, h.f 1⟩
theorem ret_fr {a b c : Int} {q : Int × Int × Int} (h : q = (a, b, c)) : Ending.returned (.tuple #[.agg #[.int .i64 a, .int .i64 b], .int .i64 c]) = .returned (.tuple #[.agg #[.int .i64 q.1, .int .i64 q.2.1], .int .i64 q.2.2]) := by rw [h]
end Go.Proofs.YtdlihfbaepjliaaGreatDoor

/-
  Bodies in chunks as lists alone: what is read byte by byte, that it does not hang on the pieces, and that what is encoded is read to the same.
-/
namespace Go.Proofs.YtdlihfbaepjliaaGreatDoor

/-- how far a body in chunks is read -/
structure Ck where
  s : Int
  l : Int
  ln : Bs
  m : Int
def Ck.zero : Ck := ⟨0, 0, [], 0⟩
def okC (c : Ck) : Prop := 0 ≤ c.s ∧ c.s ≤ 4 ∧ 0 ≤ c.l ∧ c.l ≤ 4000 ∧ c.ln.length ≤ 200 ∧ 0 ≤ c.m ∧ c.m ≤ 4000 ∧ (c.s = 1 ↔ 0 < c.l) ∧ (c.ln = [] ∨ (c.s ≠ 1 ∧ c.s ≠ 4))
instance (c : Ck) : Decidable (okC c) := by unfold okC; exact inferInstance
/-- what a size line tells -/
def sizeN (l : Bs) : Int × Int := if (parseN (trimL (befL 59 l)) 16).2 = 1 then (0, 23) else if (parseN (trimL (befL 59 l)) 16).2 ≠ 0 then (0, 2) else ((parseN (trimL (befL 59 l)) 16).1, 0)
/-- a line is read -/
def lineC (c : Ck) (l : Bs) : Ck × Int :=
  if c.s = 0 then
    (if (sizeN l).2 ≠ 0 then (⟨c.s, c.l, [], c.m⟩, (sizeN l).2) else if 4000 - c.m < (sizeN l).1 then (⟨c.s, c.l, [], c.m⟩, 2)
      else (⟨if (sizeN l).1 = 0 then 3 else 1, (sizeN l).1, [], c.m⟩, 0))
  else if c.s = 2 then (if l = [] then (⟨0, c.l, [], c.m⟩, 0) else (⟨c.s, c.l, [], c.m⟩, 23))
  else if l = [] then (⟨4, c.l, [], c.m⟩, 0) else if (parse3 l).2.2 = 0 then (⟨c.s, c.l, [], c.m⟩, 0) else (⟨c.s, c.l, [], c.m⟩, 23)
/-- does a line end so? -/
def endsL (l : Bs) : Bool := decide (2 ≤ l.length) && decide (l.drop (l.length - 2) = [13, 10])
/-- one byte is read: the chunks, the body's bytes, the error -/
def stepC (c : Ck) (b : UInt8) : Ck × Bs × Int :=
  if c.s = 1 then (⟨if c.l - 1 = 0 then 2 else 1, c.l - 1, c.ln, c.m + 1⟩, [b], 0)
  else if endsL (c.ln ++ [b]) = true then ((lineC c ((c.ln ++ [b]).take (c.ln.length - 1))).1, [], (lineC c ((c.ln ++ [b]).take (c.ln.length - 1))).2)
  else if 200 < c.ln.length + 1 then (c, [], 2) else (⟨c.s, c.l, c.ln ++ [b], c.m⟩, [], 0)
/-- bytes are read: the chunks, how many, the body, the error -/
def feedA (c : Ck) (acc : Bs) (n : Nat) : Bs → Ck × Nat × Bs × Int
  | [] => (c, n, acc, 0)
  | b :: r => if c.s = 4 then (c, n, acc, 0) else if (stepC c b).2.2 ≠ 0 then (c, n, acc, (stepC c b).2.2) else feedA (stepC c b).1 (acc ++ (stepC c b).2.1) (n + 1) r
/-- Feed -/
def feedC (c : Ck) (s : Bs) : Ck × Nat × Bs × Int :=
  if okC c then (if (feedA c [] 0 s).2.2.2 = 0 then feedA c [] 0 s else (c, 0, [], (feedA c [] 0 s).2.2.2)) else (c, 0, [], 1)

theorem feed_end {c : Ck} (h : c.s = 4) (acc : Bs) (n : Nat) (s : Bs) : feedA c acc n s = (c, n, acc, 0) := by
  cases s with
  | nil => rfl
  | cons b r => rw [feedA, if_pos h]
theorem feed_acc (s : Bs) : ∀ (c : Ck) (acc : Bs) (n : Nat), feedA c acc n s = ((feedA c [] 0 s).1, n + (feedA c [] 0 s).2.1, acc ++ (feedA c [] 0 s).2.2.1, (feedA c [] 0 s).2.2.2) := by
  induction s with
  | nil => intro c acc n; simp [feedA]
  | cons b r ih =>
    intro c acc n
    rw [feedA, feedA]
    by_cases h4 : c.s = 4
    · rw [if_pos h4, if_pos h4]
      simp
    · rw [if_neg h4, if_neg h4]
      by_cases he : (stepC c b).2.2 ≠ 0
      · rw [if_pos he, if_pos he]
        simp
      · rw [if_neg he, if_neg he, ih _ (acc ++ _), ih _ ([] ++ (stepC c b).2.1) (0 + 1)]
        simp [Nat.add_assoc, Nat.add_comm 1]
theorem feed_app (s t : Bs) : ∀ (c : Ck) (acc : Bs) (n : Nat), feedA c acc n (s ++ t) = if (feedA c acc n s).2.2.2 = 0 then feedA (feedA c acc n s).1 (feedA c acc n s).2.2.1 (feedA c acc n s).2.1 t else feedA c acc n s := by
  induction s with
  | nil => intro c acc n; simp [feedA]
  | cons b r ih =>
    intro c acc n
    rw [List.cons_append, feedA, feedA]
    by_cases h4 : c.s = 4
    · rw [if_pos h4, if_pos h4, if_pos rfl, feed_end h4]
    · rw [if_neg h4, if_neg h4]
      by_cases he : (stepC c b).2.2 ≠ 0
      · rw [if_pos he, if_pos he, if_neg he]
      · rw [if_neg he, if_neg he, ih]
theorem feed_len (s : Bs) : ∀ (c : Ck), (feedA c [] 0 s).2.1 ≤ s.length ∧ ((feedA c [] 0 s).2.2.2 = 0 → (feedA c [] 0 s).2.1 < s.length → (feedA c [] 0 s).1.s = 4) := by
  induction s with
  | nil => intro c; simp [feedA]
  | cons b r ih =>
    intro c
    rw [feedA]
    by_cases h4 : c.s = 4
    · rw [if_pos h4]
      exact ⟨Nat.zero_le _, fun _ _ => h4⟩
    · rw [if_neg h4]
      by_cases he : (stepC c b).2.2 ≠ 0
      · rw [if_pos he]
        exact ⟨Nat.zero_le _, fun h => absurd h he⟩
      · rw [if_neg he, feed_acc]
        have := ih (stepC c b).1
        simp only [List.length_cons]
        exact ⟨by omega, fun h1 h2 => this.2 h1 (by omega)⟩

/-! what is valid stays valid -/
theorem size_pos (l : Bs) : 0 ≤ (sizeN l).1 := by
  unfold sizeN
  split
  · exact Int.le_refl _
  · split
    · exact Int.le_refl _
    · rename_i h1 h2
      have h0 : (parseN (trimL (befL 59 l)) 16).2 = 0 := Classical.not_not.1 h2
      revert h0
      unfold parseN
      split
      · rename_i h
        split
        · intro _
          exact num_ge (by decide) _ 0 (Int.le_refl _) h.2.2
        · intro h; cases h
      · intro h; cases h
theorem line_ok {c : Ck} (h : okC c) (h1 : c.s ≠ 1) (l : Bs) (he : (lineC c l).2 = 0) : okC (lineC c l).1 := by
  obtain ⟨a1, a2, a3, a4, a5, a6, a7, a8, a9⟩ := h
  have hl0 : c.l = 0 := by
    have : ¬ 0 < c.l := fun h => h1 (a8.2 h)
    omega
  have hp := size_pos l
  revert he
  unfold lineC
  by_cases s0 : c.s = 0
  · rw [if_pos s0]
    by_cases e1 : (sizeN l).2 ≠ 0
    · rw [if_pos e1]
      exact fun h => absurd h e1
    · rw [if_neg e1]
      by_cases e2 : 4000 - c.m < (sizeN l).1
      · rw [if_pos e2]
        exact fun h => by cases h
      · rw [if_neg e2]
        intro _
        by_cases z : (sizeN l).1 = 0
        · simp only [okC, z]
          simp
          omega
        · simp only [okC, if_neg z]
          simp
          omega
  · rw [if_neg s0]
    by_cases s2 : c.s = 2
    · rw [if_pos s2]
      by_cases hl : l = []
      · rw [if_pos hl]
        intro _
        simp [okC, hl0]
        omega
      · rw [if_neg hl]
        exact fun h => by cases h
    · rw [if_neg s2]
      by_cases hl : l = []
      · rw [if_pos hl]
        intro _
        simp [okC, hl0]
        omega
      · rw [if_neg hl]
        split
        · intro _
          simp [okC, hl0, h1]
          omega
        · exact fun h => by cases h
theorem step_ok {c : Ck} (h : okC c) (h4 : c.s ≠ 4) (b : UInt8) (hm : c.s = 1 → c.l + c.m ≤ 4000) (he : (stepC c b).2.2 = 0) : okC (stepC c b).1 := by
  revert he
  unfold stepC
  by_cases s1 : c.s = 1
  · rw [if_pos s1]
    intro _
    have hm := hm s1
    obtain ⟨a1, a2, a3, a4, a5, a6, a7, a8, a9⟩ := h
    have hl := a8.1 s1
    have hln : c.ln = [] := by
      rcases a9 with h | h
      · exact h
      · exact absurd s1 h.1
    by_cases z : c.l - 1 = 0
    · simp only [okC, hln, z]
      simp
      omega
    · simp only [okC, if_neg z, hln]
      simp
      omega
  · rw [if_neg s1]
    split
    · intro he
      exact line_ok h s1 _ he
    · split
      · exact fun h => by cases h
      · intro _
        rename_i hl
        obtain ⟨a1, a2, a3, a4, a5, a6, a7, a8, a9⟩ := h
        exact ⟨a1, a2, a3, a4, by simp only [List.length_append, List.length_cons, List.length_nil]; omega, a6, a7, a8, .inr ⟨s1, h4⟩⟩
/-- valid, and there is room for what is left -/
def okS (c : Ck) : Prop := okC c ∧ (c.s = 1 → c.l + c.m ≤ 4000)
theorem step_okS {c : Ck} (h : okS c) (h4 : c.s ≠ 4) (b : UInt8) (he : (stepC c b).2.2 = 0) : okS (stepC c b).1 := by
  refine ⟨step_ok h.1 h4 b h.2 he, ?_⟩
  have hm := h.2
  revert he
  unfold stepC
  by_cases s1 : c.s = 1
  · rw [if_pos s1]
    intro _ _
    have := hm s1
    show c.l - 1 + (c.m + 1) ≤ 4000
    omega
  · rw [if_neg s1]
    split
    · unfold lineC
      by_cases s0 : c.s = 0
      · rw [if_pos s0]
        split
        · intro _ hs
          exact absurd hs s1
        · split
          · intro _ hs
            exact absurd hs s1
          · rename_i e2
            intro _ _
            show (sizeN _).1 + c.m ≤ 4000
            omega
      · rw [if_neg s0]
        by_cases s2 : c.s = 2
        · rw [if_pos s2]
          split
          · intro _ hs
            exact absurd (show (0 : Int) = 1 from hs) (by decide)
          · intro _ hs
            exact absurd hs s1
        · rw [if_neg s2]
          split
          · intro _ hs
            exact absurd (show (4 : Int) = 1 from hs) (by decide)
          · split
            · intro _ hs
              exact absurd hs s1
            · intro _ hs
              exact absurd hs s1
    · split
      · intro _ hs
        exact absurd hs s1
      · intro _ hs
        exact absurd hs s1
theorem feed_okS (s : Bs) : ∀ (c : Ck), okS c → (feedA c [] 0 s).2.2.2 = 0 → okS (feedA c [] 0 s).1 := by
  induction s with
  | nil => intro c h _; exact h
  | cons b r ih =>
    intro c h
    rw [feedA]
    by_cases h4 : c.s = 4
    · rw [if_pos h4]
      exact fun _ => h
    · rw [if_neg h4]
      by_cases he : (stepC c b).2.2 ≠ 0
      · rw [if_pos he]
        exact fun h => absurd h he
      · rw [if_neg he, feed_acc]
        exact fun h2 => ih _ (step_okS h h4 b (Classical.not_not.1 he)) h2

/-! what is encoded is read to the same -/
theorem ends_last {p : Bs} {b : UInt8} (h : endsL (p ++ [b]) = true) : b = 10 := by
  unfold endsL at h
  simp only [Bool.and_eq_true, decide_eq_true_eq] at h
  have h2 := congrArg List.getLast? h.2
  rw [List.getLast?_drop] at h2
  simp at h2
  exact h2.2
theorem ends_no {p : Bs} {b : UInt8} (h : b ≠ 10) : ¬ endsL (p ++ [b]) = true := fun e => h (ends_last e)
theorem ends_yes (p : Bs) : endsL (p ++ [13] ++ [10]) = true := by
  unfold endsL
  simp only [List.append_assoc, List.length_append, List.length_cons, List.length_nil, Bool.and_eq_true, decide_eq_true_eq]
  refine ⟨by omega, ?_⟩
  rw [List.drop_append_of_le_length (by omega), show p.length + 2 - 2 = p.length by omega, List.drop_length]
  rfl
theorem line_ln (s l m : Int) (q x : Bs) : lineC ⟨s, l, q, m⟩ x = lineC ⟨s, l, [], m⟩ x := rfl
theorem feed_line {s l m : Int} (h1 : s ≠ 1) (h4 : s ≠ 4) (acc rest : Bs) : ∀ (L pre : Bs) (n : Nat), (∀ b ∈ L, b ≠ 10) → pre.length + L.length + 1 ≤ 200 → (lineC ⟨s, l, [], m⟩ (pre ++ L)).2 = 0 →
    feedA ⟨s, l, pre, m⟩ acc n (L ++ 13 :: 10 :: rest) = feedA (lineC ⟨s, l, [], m⟩ (pre ++ L)).1 acc (n + L.length + 2) rest := by
  intro L
  induction L with
  | nil =>
    intro pre n _ hlen he
    simp only [List.length_nil, List.append_nil] at hlen he ⊢
    have e1 : stepC ⟨s, l, pre, m⟩ 13 = (⟨s, l, pre ++ [13], m⟩, [], 0) := by
      unfold stepC
      rw [if_neg h1, if_neg (ends_no (by decide)), if_neg (by simp only; omega)]
    have e2 : stepC ⟨s, l, pre ++ [13], m⟩ 10 = ((lineC ⟨s, l, [], m⟩ pre).1, [], 0) := by
      unfold stepC
      rw [if_neg h1, if_pos (ends_yes pre)]
      simp only [List.length_append, List.length_cons, List.length_nil]
      rw [show pre.length + 1 - 1 = pre.length by omega, List.append_assoc, List.take_append_of_le_length (Nat.le_refl _), List.take_length, line_ln, he]
    rw [List.nil_append, feedA, if_neg h4, e1, if_neg (by simp), feedA, if_neg h4, e2, if_neg (by simp)]
    simp
  | cons b r ih =>
    intro pre n hb hlen he
    have e1 : stepC ⟨s, l, pre, m⟩ b = (⟨s, l, pre ++ [b], m⟩, [], 0) := by
      unfold stepC
      simp only [List.length_cons] at hlen
      rw [if_neg h1, if_neg (ends_no (hb b (by simp))), if_neg (by simp only; omega)]
    rw [List.cons_append, feedA, if_neg h4, e1, if_neg (by simp)]
    have := ih (pre ++ [b]) (n + 1) (fun c hc => hb c (by simp [hc])) (by simp only [List.length_append, List.length_cons, List.length_nil] at hlen ⊢; omega) (by rw [List.append_assoc]; exact he)
    simp only [List.append_nil] at this ⊢
    rw [this, List.append_assoc]
    simp only [List.length_cons, List.singleton_append]
    congr 1
    omega
theorem feed_body (rest : Bs) : ∀ (p : Bs) (m : Int) (acc : Bs) (n : Nat), p ≠ [] → feedA ⟨1, (p.length : Int), [], m⟩ acc n (p ++ rest) = feedA ⟨2, 0, [], m + (p.length : Int)⟩ (acc ++ p) (n + p.length) rest := by
  intro p
  induction p with
  | nil => intro m acc n h; exact absurd rfl h
  | cons b q ih =>
    intro m acc n _
    rw [List.cons_append, feedA, if_neg (by simp)]
    by_cases hq : q = []
    · subst hq
      simp [stepC]
    · have e1 : stepC ⟨1, ((b :: q).length : Int), [], m⟩ b = (⟨1, (q.length : Int), [], m + 1⟩, [b], 0) := by
        have hq0 : 0 < q.length := List.length_pos_iff.2 hq
        unfold stepC
        rw [if_pos rfl]
        simp only [List.length_cons]
        rw [if_neg (by omega)]
        congr 2
        omega
      have hA : m + 1 + (q.length : Int) = m + ((b :: q).length : Int) := by simp only [List.length_cons]; omega
      have hB : n + 1 + q.length = n + (b :: q).length := by simp only [List.length_cons]; omega
      rw [e1, if_neg (by simp), ih (m + 1) (acc ++ [b]) (n + 1) hq, hA, hB, List.append_assoc]
      rfl
theorem dig_char {c : UInt8} (h : 0 ≤ valN c.toNat 16) : c ≠ 10 ∧ c ≠ 59 ∧ c ≠ 32 ∧ c ≠ 9 := by
  refine ⟨?_, ?_, ?_, ?_⟩ <;> (rintro rfl; revert h; decide)
theorem trim_id {l : Bs} (h : ∀ c ∈ l, bl c = false) : trimL l = l := by
  have hd : ∀ q : Bs, (∀ c ∈ q, bl c = false) → q.dropWhile bl = q := by
    intro q hq
    cases q with
    | nil => rfl
    | cons x r => rw [List.dropWhile_cons_of_neg (by rw [hq x (by simp)]; decide)]
  rw [trim_eq, rdrop, hd l.reverse (fun c hc => h c (List.mem_reverse.1 hc)), List.reverse_reverse, hd l h]
theorem dgs_short {n : Nat} (h : n < 4096) : (dgs 16 n).length ≤ 3 := by
  by_cases h1 : n < 16
  · rw [dgs_small h1]; simp
  · rw [dgs_big (by decide) (by omega), List.length_append]
    by_cases h2 : n / 16 < 16
    · rw [dgs_small h2]; simp
    · rw [dgs_big (by decide) (by omega), List.length_append, dgs_small (by omega)]; simp
theorem text_hex {n : Nat} (h : n < 4096) : textN (n : Int) 16 = dgs 16 n := by
  unfold textN
  rw [if_pos ⟨fit_iff.2 ⟨by omega, by omega⟩, .inr rfl⟩]
  rfl
theorem size_text {n : Nat} (h : n < 4096) : sizeN (textN (n : Int) 16) = ((n : Int), 0) ∧ (∀ b ∈ textN (n : Int) 16, b ≠ 10) ∧ (textN (n : Int) 16).length ≤ 3 := by
  have hd : ∀ b ∈ textN (n : Int) 16, b ≠ 10 ∧ b ≠ 59 ∧ b ≠ 32 ∧ b ≠ 9 := by
    intro b hb
    rw [text_hex h] at hb
    have := (num_dgs (b := 16) (by decide) (by decide) n).2
    unfold digsN at this
    exact dig_char (by simpa using List.all_eq_true.1 this b hb)
  have e1 : befL 59 (textN (n : Int) 16) = textN (n : Int) 16 := (cut_none (fun j _ he => (hd 59 (List.mem_of_getElem? he)).2.1 rfl)).1
  have e2 : trimL (textN (n : Int) 16) = textN (n : Int) 16 := trim_id (fun c hc => by
    have := hd c hc
    unfold bl blks
    simp only [List.contains_cons, List.contains_nil, Bool.or_false, Bool.or_eq_false_iff, beq_eq_false_iff_ne]
    exact ⟨this.2.2.1, this.2.2.2⟩)
  refine ⟨?_, fun b hb => (hd b hb).1, by rw [text_hex h]; exact dgs_short h⟩
  unfold sizeN
  rw [e1, e2, parse_text (.inr rfl) (by omega) (by omega)]
  rfl
/-- the chunks of a text, without the last -/
def encP (k : Nat) (s : Bs) : Bs :=
  if _h : s = [] ∨ k = 0 then [] else textN ((min k s.length : Nat) : Int) 16 ++ [13, 10] ++ s.take k ++ [13, 10] ++ encP k (s.drop k)
termination_by s.length
decreasing_by
  rw [List.length_drop]
  have : 0 < s.length := List.length_pos_iff.2 (fun e => _h (.inl e))
  omega
def encL (k : Nat) (s : Bs) : Bs := encP k s ++ [48, 13, 10, 13, 10]
theorem enc_nil (k : Nat) : encP k [] = [] := by rw [encP, dif_pos (.inl rfl)]
theorem enc_cons {k : Nat} {s : Bs} (hk : 0 < k) (hs : s ≠ []) : encP k s = textN ((min k s.length : Nat) : Int) 16 ++ [13, 10] ++ s.take k ++ [13, 10] ++ encP k (s.drop k) := by
  rw [encP, dif_neg (by rintro (h | h); exact hs h; omega)]
theorem line_size {m : Int} {n : Nat} (h0 : 0 < n) (h : n < 4096) (hm : m + n ≤ 4000) : lineC ⟨0, 0, [], m⟩ (textN (n : Int) 16) = (⟨1, (n : Int), [], m⟩, 0) := by
  unfold lineC
  rw [if_pos rfl, (size_text h).1, if_neg (by simp), if_neg (by simp only; omega), if_neg (by simp only; omega)]
theorem feed_enc (k : Nat) (hk : 0 < k) : ∀ (f : Nat) (s : Bs) (m : Int) (acc : Bs) (n : Nat) (rest : Bs), s.length ≤ f → m + s.length ≤ 4000 → 0 ≤ m →
    feedA ⟨0, 0, [], m⟩ acc n (encP k s ++ rest) = feedA ⟨0, 0, [], m + s.length⟩ (acc ++ s) (n + (encP k s).length) rest := by
  intro f
  induction f with
  | zero =>
    intro s m acc n rest hf _ _
    obtain rfl : s = [] := List.eq_nil_of_length_eq_zero (by omega)
    rw [enc_nil]
    simp
  | succ f ih =>
    intro s m acc n rest hf hm h0
    by_cases hs : s = []
    · subst hs
      rw [enc_nil]
      simp
    · have hl : 0 < s.length := List.length_pos_iff.2 hs
      have ht : (s.take k).length = min k s.length := List.length_take
      obtain ⟨q, hq⟩ : ∃ q, min k s.length = q := ⟨_, rfl⟩
      have hq0 : 0 < q := by omega
      have hqs : q ≤ s.length := by omega
      rw [enc_cons hk hs, hq]
      rw [hq] at ht
      obtain ⟨z1, z2, z3⟩ := size_text (n := q) (by omega)
      have e1 := feed_line (s := 0) (l := 0) (m := m) (by decide) (by decide) acc (s.take k ++ [13, 10] ++ encP k (s.drop k) ++ rest) (textN (q : Int) 16) [] n z2 (by simp only [List.length_nil]; omega) (by rw [List.nil_append, line_size hq0 (by omega) (by omega)])
      rw [List.nil_append, line_size hq0 (by omega) (by omega)] at e1
      have e2 := feed_body ([13, 10] ++ encP k (s.drop k) ++ rest) (s.take k) m acc (n + (textN (q : Int) 16).length + 2) (fun e => by rw [e] at ht; simp at ht; omega)
      rw [ht] at e2
      have e3 := feed_line (s := 2) (l := 0) (m := m + (q : Int)) (by decide) (by decide) (acc ++ s.take k) (encP k (s.drop k) ++ rest) [] [] (n + (textN (q : Int) 16).length + 2 + q) (fun b hb => by cases hb) (by simp) rfl
      have e4 := ih (s.drop k) (m + (q : Int)) (acc ++ s.take k) (n + (textN (q : Int) 16).length + 2 + q + 0 + 2) rest (by rw [List.length_drop]; omega) (by rw [List.length_drop]; omega) (by omega)
      have a1 : textN (q : Int) 16 ++ [13, 10] ++ s.take k ++ [13, 10] ++ encP k (s.drop k) ++ rest = textN (q : Int) 16 ++ 13 :: 10 :: (s.take k ++ [13, 10] ++ encP k (s.drop k) ++ rest) := by simp
      have a2 : s.take k ++ [13, 10] ++ encP k (s.drop k) ++ rest = s.take k ++ ([13, 10] ++ encP k (s.drop k) ++ rest) := by simp
      have a3 : [13, 10] ++ encP k (s.drop k) ++ rest = [] ++ 13 :: 10 :: (encP k (s.drop k) ++ rest) := by simp
      have a4 : lineC ⟨2, 0, [], m + (q : Int)⟩ ([] ++ []) = (⟨0, 0, [], m + (q : Int)⟩, 0) := rfl
      rw [a1, e1]
      simp only
      rw [a2, e2, a3, e3, a4]
      simp only [List.length_nil]
      have hdl : (s.drop k).length = s.length - k := List.length_drop
      have hA : m + (q : Int) + ((s.drop k).length : Int) = m + (s.length : Int) := by rw [hdl]; omega
      have hB : n + (textN (q : Int) 16).length + 2 + q + 0 + 2 + (encP k (s.drop k)).length = n + (textN (q : Int) 16 ++ [13, 10] ++ s.take k ++ [13, 10] ++ encP k (s.drop k)).length := by
        simp only [List.length_append, List.length_cons, List.length_nil, ht]
        omega
      rw [e4, hA, hB, List.append_assoc, List.take_append_drop]
theorem feed_back (k : Nat) (hk : 0 < k) (s more : Bs) (hs : s.length ≤ 4000) : feedC Ck.zero (encL k s ++ more) = (⟨4, 0, [], (s.length : Int)⟩, (encL k s).length, s, 0) := by
  have hok : okC Ck.zero := by decide
  have e : feedA Ck.zero [] 0 (encL k s ++ more) = (⟨4, 0, [], (s.length : Int)⟩, (encL k s).length, s, 0) := by
    have e1 := feed_enc k hk s.length s 0 [] 0 ([48, 13, 10, 13, 10] ++ more) (Nat.le_refl _) (by omega) (by decide)
    have a1 : encL k s ++ more = encP k s ++ ([48, 13, 10, 13, 10] ++ more) := by rw [encL, List.append_assoc]
    have e2 := feed_line (s := 0) (l := 0) (m := 0 + (s.length : Int)) (by decide) (by decide) ([] ++ s) (13 :: 10 :: more) [48] [] (0 + (encP k s).length) (by simp) (by simp) (by
      unfold lineC
      rw [if_pos rfl, show sizeN ([] ++ [48]) = (0, 0) from by decide +kernel, if_neg (by simp), if_neg (by simp only; omega)])
    have e3 := feed_line (s := 3) (l := 0) (m := 0 + (s.length : Int)) (by decide) (by decide) ([] ++ s) more [] [] (0 + (encP k s).length + 1 + 2) (fun b hb => by cases hb) (by simp) rfl
    have a2 : lineC ⟨0, 0, [], 0 + (s.length : Int)⟩ ([] ++ [48]) = (⟨3, 0, [], 0 + (s.length : Int)⟩, 0) := by
      unfold lineC
      rw [if_pos rfl, show sizeN ([] ++ [48]) = (0, 0) from by decide +kernel, if_neg (by simp), if_neg (by simp only; omega)]
      rfl
    have a3 : [48, 13, 10, 13, 10] ++ more = [48] ++ 13 :: 10 :: (13 :: 10 :: more) := by simp
    show feedA ⟨0, 0, [], 0⟩ [] 0 _ = _
    rw [a1, e1, a3, e2, a2]
    simp only [List.length_cons, List.length_nil]
    rw [show (13 :: 10 :: more : Bs) = [] ++ 13 :: 10 :: more from rfl, e3, show lineC ⟨3, 0, [], 0 + (s.length : Int)⟩ ([] ++ []) = (⟨4, 0, [], 0 + (s.length : Int)⟩, 0) from rfl]
    simp only
    rw [feed_end rfl]
    simp [encL]
  unfold feedC
  rw [if_pos hok, e]
  simp
end Go.Proofs.YtdlihfbaepjliaaGreatDoor

/-
  Messages as lists alone: what a reader makes of bytes, that it does not hang on the pieces, and that a valid reader stays valid.
-/
namespace Go.Proofs.YtdlihfbaepjliaaGreatDoor
open Go.RowKit

/-- fields of texts -/
def mkF (fs : List (Bs × Bs)) : List Fd := fs.map fun p => (⟨p.1.toArray⟩, ⟨p.2.toArray⟩)
/-- how far messages are read -/
structure Rr where
  a : Bool
  q : Bs
  hd : Bs
  k : Int
  z : Int
  b : Bs
  ck : Ck
  now : Hd
  e : Int
/-- a message -/
structure Mg where
  h : Hd
  b : Bs
def Mg.zero : Mg := ⟨Hd.zero, []⟩
def ckZ (c : Ck) : Prop := c.s = 0 ∧ c.l = 0 ∧ c.ln = [] ∧ c.m = 0
def hdZ (h : Hd) : Prop := h.m = [] ∧ h.t = [] ∧ h.st = 0 ∧ h.r = [] ∧ h.mi = 0 ∧ h.fs = []
instance (c : Ck) : Decidable (ckZ c) := by unfold ckZ; exact inferInstance
instance (h : Hd) : Decidable (hdZ h) := by unfold hdZ; exact inferInstance
theorem ckZ_eq {c : Ck} (h : ckZ c) : c = Ck.zero := by
  obtain ⟨s, l, ln, m⟩ := c
  obtain ⟨rfl, rfl, rfl, rfl⟩ := h
  rfl
theorem hdZ_eq {c : Hd} (h : hdZ c) : c = Hd.zero := by
  obtain ⟨m, t, st, r, mi, fs⟩ := c
  obtain ⟨rfl, rfl, rfl, rfl, rfl, rfl⟩ := h
  rfl
/-- does a head's text end so? -/
def ends4 (l : Bs) : Bool := decide (4 ≤ l.length) && decide (l.drop (l.length - 4) = [13, 10, 13, 10])
def failR (r : Rr) (e : Int) : Rr := ⟨r.a, r.q, [], 0, 0, [], Ck.zero, Hd.zero, e⟩
def newR (a : Bool) (q : Bs) : Rr := ⟨a, q, [], 0, 0, [], Ck.zero, Hd.zero, 0⟩
/-- J1 -/
def okR (r : Rr) : Prop :=
  if r.e ≠ 0 then r.hd = [] ∧ r.b = [] ∧ r.k = 0 ∧ r.z = 0 ∧ ckZ r.ck ∧ hdZ r.now
  else if r.k = 0 then r.z = 0 ∧ r.b = [] ∧ ckZ r.ck ∧ hdZ r.now ∧ r.hd.length ≤ 2003 ∧ ends4 r.hd = false
  else r.hd = [] ∧ rightB r.now r.a = true ∧ r.b.length ≤ 4000 ∧
    (if r.k = 2 then (r.b.length : Int) < r.z ∧ r.z ≤ 4000 ∧ ckZ r.ck
     else if r.k = 3 then r.z = 0 ∧ okC r.ck ∧ r.ck.s ≠ 4 ∧ r.ck.m = (r.b.length : Int)
     else if r.k = 4 then r.a = true ∧ r.z = 0 ∧ ckZ r.ck else False)
instance (r : Rr) : Decidable (okR r) := by
  unfold okR
  repeat' split
  all_goals exact inferInstance
/-- how the body of a head ends -/
def frameR (h : Hd) (a : Bool) (q : Bs) : Int × Int × Int :=
  if a = true then ansF (rightB h true) (bareB h.st q) (frH (mkF h.fs) h.mi) else reqF (rightB h false) (frH (mkF h.fs) h.mi)
/-- a head is read -/
def framedR (r : Rr) : Rr :=
  if (parseH (r.hd.take (r.hd.length - 4)) r.a).2 ≠ 0 then failR r (parseH (r.hd.take (r.hd.length - 4)) r.a).2
  else if (frameR (parseH (r.hd.take (r.hd.length - 4)) r.a).1 r.a r.q).2.2 ≠ 0 then failR r (frameR (parseH (r.hd.take (r.hd.length - 4)) r.a).1 r.a r.q).2.2
  else ⟨r.a, r.q, [], (frameR (parseH (r.hd.take (r.hd.length - 4)) r.a).1 r.a r.q).1, (frameR (parseH (r.hd.take (r.hd.length - 4)) r.a).1 r.a r.q).2.1, r.b, r.ck, (parseH (r.hd.take (r.hd.length - 4)) r.a).1, r.e⟩
/-- a byte is read -/
def oneR (r : Rr) (c : UInt8) : Rr :=
  if r.k = 0 then
    (if ends4 (r.hd ++ [c]) = true then framedR { r with hd := r.hd ++ [c] } else if 2004 ≤ r.hd.length + 1 then failR r 2 else { r with hd := r.hd ++ [c] })
  else if r.k = 3 then
    (if (feedC r.ck [c]).2.2.2 ≠ 0 then failR r (feedC r.ck [c]).2.2.2 else { r with ck := (feedC r.ck [c]).1, b := r.b ++ (feedC r.ck [c]).2.2.1 })
  else if r.b.length = 4000 then failR r 2 else { r with b := r.b ++ [c] }
/-- is a message whole? -/
def wholeR (r : Rr) : Bool := if r.k = 1 then true else if r.k = 2 then decide ((r.b.length : Int) = r.z) else if r.k = 3 then decide (r.ck.s = 4) else false
/-- a byte is read, and a message that is whole is told -/
def stepR (r : Rr) (out : List Mg) (c : UInt8) : Rr × List Mg :=
  if (oneR r c).e = 0 ∧ wholeR (oneR r c) = true then (newR (oneR r c).a (oneR r c).q, out ++ [⟨(oneR r c).now, (oneR r c).b⟩]) else (oneR r c, out)
def feedM (r : Rr) (out : List Mg) : Bs → Rr × List Mg
  | [] => (r, out)
  | c :: t => if r.e ≠ 0 then (r, out) else feedM (stepR r out c).1 (stepR r out c).2 t
/-- J2 -/
def feedR (r : Rr) (s : Bs) : Rr × List Mg × Int := if okR r then ((feedM r [] s).1, (feedM r [] s).2, (feedM r [] s).1.e) else (r, [], 1)
/-- J3 -/
def endR (r : Rr) : Mg × Bool × Int :=
  if ¬ okR r then (Mg.zero, false, 1) else if r.e ≠ 0 then (Mg.zero, false, r.e) else if r.k = 4 then (⟨r.now, r.b⟩, true, 0) else if r.k = 0 ∧ r.hd = [] then (Mg.zero, false, 0) else (Mg.zero, false, 22)

/-! pieces -/
theorem feedM_stop {r : Rr} (h : r.e ≠ 0) (out : List Mg) (s : Bs) : feedM r out s = (r, out) := by
  cases s with
  | nil => rfl
  | cons c t => rw [feedM, if_pos h]
theorem feedM_app (s t : Bs) : ∀ (r : Rr) (out : List Mg), feedM r out (s ++ t) = feedM (feedM r out s).1 (feedM r out s).2 t := by
  induction s with
  | nil => intro r out; rfl
  | cons c u ih =>
    intro r out
    rw [List.cons_append, feedM, feedM]
    by_cases h : r.e ≠ 0
    · rw [if_pos h, if_pos h, feedM_stop h]
    · rw [if_neg h, if_neg h, ih]
theorem stepR_acc (r : Rr) (out : List Mg) (c : UInt8) : stepR r out c = ((stepR r [] c).1, out ++ (stepR r [] c).2) := by
  unfold stepR
  split
  · simp
  · simp
theorem feedM_acc (s : Bs) : ∀ (r : Rr) (out : List Mg), feedM r out s = ((feedM r [] s).1, out ++ (feedM r [] s).2) := by
  induction s with
  | nil => intro r out; simp [feedM]
  | cons c t ih =>
    intro r out
    rw [feedM, feedM]
    by_cases h : r.e ≠ 0
    · rw [if_pos h, if_pos h]
      simp
    · rw [if_neg h, if_neg h, ih _ (stepR r out c).2, ih _ (stepR r [] c).2, stepR_acc r out c]
      simp

/-! what is valid stays valid -/
/-- valid, and no chunk goes beyond the body's bound -/
def okT (r : Rr) : Prop := okR r ∧ (r.k = 3 → okS r.ck)
theorem ok_new (a : Bool) (q : Bs) : okR (newR a q) := by
  unfold okR
  rw [if_neg (by simp [newR]), if_pos (show (newR a q).k = 0 from rfl)]
  refine ⟨rfl, rfl, ⟨rfl, rfl, rfl, rfl⟩, ⟨rfl, rfl, rfl, rfl, rfl, rfl⟩, by simp [newR], rfl⟩
theorem okT_new (a : Bool) (q : Bs) : okT (newR a q) := ⟨ok_new a q, fun h => absurd (show (0 : Int) = 3 from h) (by decide)⟩
theorem ok_fail (r : Rr) {e : Int} (h : e ≠ 0) : okR (failR r e) := by
  unfold okR
  rw [if_pos (show (failR r e).e ≠ 0 from h)]
  exact ⟨rfl, rfl, rfl, rfl, ⟨rfl, rfl, rfl, rfl⟩, rfl, rfl, rfl, rfl, rfl, rfl⟩
theorem okT_fail (r : Rr) {e : Int} (h : e ≠ 0) : okT (failR r e) := ⟨ok_fail r h, fun h => absurd (show (0 : Int) = 3 from h) (by decide)⟩
theorem feed_one {c : Ck} (h : okC c) (h4 : c.s ≠ 4) (x : UInt8) : feedC c [x] = if (stepC c x).2.2 = 0 then ((stepC c x).1, 1, (stepC c x).2.1, 0) else (c, 0, [], (stepC c x).2.2) := by
  have e : feedA c [] 0 [x] = if (stepC c x).2.2 = 0 then ((stepC c x).1, 1, (stepC c x).2.1, 0) else (c, 0, [], (stepC c x).2.2) := by
    rw [feedA, if_neg h4]
    by_cases h0 : (stepC c x).2.2 = 0
    · rw [if_neg (by simp [h0]), if_pos h0]
      simp [feedA]
    · rw [if_pos h0, if_neg h0]
  unfold feedC
  rw [if_pos h, e]
  by_cases h0 : (stepC c x).2.2 = 0
  · rw [if_pos h0, if_pos rfl]
  · rw [if_neg h0, if_neg h0]
theorem line_m (c : Ck) (l : Bs) : (lineC c l).1.m = c.m := by
  unfold lineC
  repeat' split
  all_goals rfl
theorem step_m {c : Ck} (x : UInt8) : (stepC c x).1.m = c.m + ((stepC c x).2.1.length : Int) := by
  unfold stepC
  split
  · rfl
  · split
    · simp [line_m]
    · split <;> simp
theorem fr_kinds (fs : List Fd) (mi : Int) : (frH fs mi).2.2 = 0 → (frH fs mi).1 = 0 ∧ (frH fs mi).2.1 = 0 ∨ (frH fs mi).1 = 3 ∧ (frH fs mi).2.1 = 0 ∨ (frH fs mi).1 = 2 ∧ 0 ≤ (frH fs mi).2.1 ∧ (frH fs mi).2.1 ≤ 4000 := by
  intro h
  rcases frH_ok fs mi with h1 | ⟨_, h1⟩
  · exact .inl h1
  · exact .inr h1
theorem frame_kinds (h : Hd) (a : Bool) (q : Bs) (h0 : (frameR h a q).2.2 = 0) : rightB h a = true ∧ ((frameR h a q).1 = 1 ∧ (frameR h a q).2.1 = 0 ∨ (frameR h a q).1 = 2 ∧ 0 ≤ (frameR h a q).2.1 ∧ (frameR h a q).2.1 ≤ 4000 ∨ (frameR h a q).1 = 3 ∧ (frameR h a q).2.1 = 0 ∨ (frameR h a q).1 = 4 ∧ a = true ∧ (frameR h a q).2.1 = 0) := by
  revert h0
  unfold frameR
  cases a with
  | true =>
    rw [if_pos rfl]
    unfold ansF
    cases hr : rightB h true with
    | false => rw [if_pos rfl]; intro h; cases h
    | true =>
      rw [if_neg (by decide)]
      by_cases he : (frH (mkF h.fs) h.mi).2.2 ≠ 0
      · rw [if_pos he]
        intro h
        exact absurd h he
      · rw [if_neg he]
        have hk := fr_kinds (mkF h.fs) h.mi (Classical.not_not.1 he)
        by_cases hb : bareB h.st q = true
        · rw [if_pos hb]
          intro _
          exact ⟨rfl, .inl ⟨rfl, rfl⟩⟩
        · rw [if_neg hb]
          by_cases hz : (frH (mkF h.fs) h.mi).1 = 0
          · rw [if_pos hz]
            intro _
            exact ⟨rfl, .inr (.inr (.inr ⟨rfl, rfl, rfl⟩))⟩
          · rw [if_neg hz]
            intro _
            refine ⟨rfl, ?_⟩
            rcases hk with ⟨h1, _⟩ | h1 | h1
            · exact absurd h1 hz
            · exact .inr (.inr (.inl h1))
            · exact .inr (.inl h1)
  | false =>
    rw [if_neg (by decide)]
    unfold reqF
    cases hr : rightB h false with
    | false => rw [if_pos rfl]; intro h; cases h
    | true =>
      rw [if_neg (by decide)]
      by_cases he : (frH (mkF h.fs) h.mi).2.2 ≠ 0
      · rw [if_pos he]
        intro h
        exact absurd h he
      · rw [if_neg he]
        have hk := fr_kinds (mkF h.fs) h.mi (Classical.not_not.1 he)
        by_cases hz : (frH (mkF h.fs) h.mi).1 = 0
        · rw [if_pos hz]
          intro _
          exact ⟨rfl, .inl ⟨rfl, rfl⟩⟩
        · rw [if_neg hz]
          intro _
          refine ⟨rfl, ?_⟩
          rcases hk with ⟨h1, _⟩ | h1 | h1
          · exact absurd h1 hz
          · exact .inr (.inr (.inl h1))
          · exact .inr (.inl h1)
theorem okS_zero : okS Ck.zero := ⟨by unfold okC; simp [Ck.zero], fun h => absurd (show (0 : Int) = 1 from h) (by decide)⟩
theorem step_okT {r : Rr} (h : okT r) (he : r.e = 0) (c : UInt8) : okT (stepR r [] c).1 := by
  obtain ⟨ho, hs⟩ := h
  unfold okR at ho
  rw [if_neg (by simp [he])] at ho
  -- a reader that has failed, or a message that is whole, is valid
  have key : (oneR r c).e ≠ 0 ∧ okT (oneR r c) ∨ (oneR r c).e = 0 ∧ (wholeR (oneR r c) = true ∨ okT (oneR r c)) := by
    unfold oneR
    by_cases k0 : r.k = 0
    · rw [if_pos k0] at ho ⊢
      obtain ⟨z0, b0, ck0, now0, hl, hn⟩ := ho
      by_cases hE : ends4 (r.hd ++ [c]) = true
      · rw [if_pos hE]
        unfold framedR
        simp only
        obtain ⟨p, hp⟩ : ∃ p, parseH ((r.hd ++ [c]).take ((r.hd ++ [c]).length - 4)) r.a = p := ⟨_, rfl⟩
        rw [hp]
        by_cases e1 : p.2 ≠ 0
        · rw [if_pos e1]
          exact .inl ⟨e1, okT_fail _ e1⟩
        · rw [if_neg e1]
          by_cases e2 : (frameR p.1 r.a r.q).2.2 ≠ 0
          · rw [if_pos e2]
            exact .inl ⟨e2, okT_fail _ e2⟩
          · rw [if_neg e2]
            obtain ⟨hr, hk⟩ := frame_kinds p.1 r.a r.q (Classical.not_not.1 e2)
            refine .inr ⟨he, ?_⟩
            obtain ⟨f, hf⟩ : ∃ f, frameR p.1 r.a r.q = f := ⟨_, rfl⟩
            rw [hf] at hk ⊢
            have hbl : (r.b.length : Int) = 0 := by rw [b0]; rfl
            rcases hk with ⟨k1, k2⟩ | ⟨k1, k2, k3⟩ | ⟨k1, k2⟩ | ⟨k1, k2, k3⟩
            · left
              unfold wholeR
              rw [if_pos k1]
            · by_cases hz : f.2.1 = 0
              · left
                unfold wholeR
                simp only [k1, b0, hz]
                rfl
              · right
                refine ⟨?_, fun h => ?_⟩
                · unfold okR
                  rw [if_neg (by simp [he]), if_neg (by simp [k1]), if_pos k1]
                  exact ⟨rfl, hr, by simp only; rw [b0]; simp, by simp only; omega, k3, ck0⟩
                · simp only at h
                  omega
            · right
              refine ⟨?_, fun _ => ?_⟩
              · unfold okR
                rw [if_neg (by simp [he]), if_neg (by simp [k1]), if_neg (by simp [k1]), if_pos k1]
                refine ⟨rfl, hr, by simp only; rw [b0]; simp, k2, ?_, ?_, ?_⟩
                · simp only
                  rw [ckZ_eq ck0]
                  exact okS_zero.1
                · simp only
                  rw [ckZ_eq ck0]
                  decide
                · simp only
                  rw [ckZ_eq ck0, hbl]
                  rfl
              · simp only
                rw [ckZ_eq ck0]
                exact okS_zero
            · right
              refine ⟨?_, fun h => ?_⟩
              · unfold okR
                rw [if_neg (by simp [he]), if_neg (by simp [k1]), if_neg (by simp [k1]), if_neg (by simp [k1]), if_pos k1]
                exact ⟨rfl, hr, by simp only; rw [b0]; simp, k2, k3, ck0⟩
              · simp only at h
                omega
      · rw [if_neg hE]
        by_cases hbig : 2004 ≤ r.hd.length + 1
        · rw [if_pos hbig]
          exact .inl ⟨by simp [failR], okT_fail _ (by decide)⟩
        · rw [if_neg hbig]
          refine .inr ⟨he, .inr ⟨?_, fun h => ?_⟩⟩
          · unfold okR
            rw [if_neg (by simp [he]), if_pos k0]
            exact ⟨z0, b0, ck0, now0, by simp only [List.length_append, List.length_cons, List.length_nil]; omega, by simpa using hE⟩
          · simp only at h
            omega
    · rw [if_neg k0] at ho ⊢
      obtain ⟨hd0, hr, hb, ho⟩ := ho
      by_cases k3 : r.k = 3
      · rw [if_pos k3]
        rw [if_neg (by omega), if_pos k3] at ho
        obtain ⟨z0, oc, s4, mm⟩ := ho
        have hS := hs k3
        rw [feed_one oc s4]
        by_cases e1 : (stepC r.ck c).2.2 = 0
        · rw [if_pos e1, if_neg (by simp)]
          simp only
          refine .inr ⟨he, ?_⟩
          have hS2 := step_okS hS s4 c e1
          have hm2 := step_m (c := r.ck) c
          by_cases e4 : (stepC r.ck c).1.s = 4
          · left
            unfold wholeR
            simp [k3, e4]
          · right
            refine ⟨?_, fun _ => hS2⟩
            unfold okR
            rw [if_neg (by simp [he]), if_neg (by simpa using k0), if_neg (by simp [k3]), if_pos k3]
            have hmb : (stepC r.ck c).1.m ≤ 4000 := hS2.1.2.2.2.2.2.2.1
            refine ⟨hd0, hr, ?_, z0, hS2.1, e4, ?_⟩
            · simp only [List.length_append]
              omega
            · simp only [List.length_append]
              omega
        · rw [if_neg e1, if_pos e1]
          exact .inl ⟨e1, okT_fail _ e1⟩
      · rw [if_neg k3]
        by_cases b4 : r.b.length = 4000
        · rw [if_pos b4]
          exact .inl ⟨by simp [failR], okT_fail _ (by decide)⟩
        · rw [if_neg b4]
          refine .inr ⟨he, ?_⟩
          by_cases k2 : r.k = 2
          · rw [if_pos k2] at ho
            by_cases hw : ((r.b.length : Int) + 1) = r.z
            · left
              unfold wholeR
              simp only [k2]
              simp
              exact hw
            · right
              refine ⟨?_, fun h => ?_⟩
              · unfold okR
                rw [if_neg (by simp [he]), if_neg (by simpa using k0), if_pos k2]
                refine ⟨hd0, hr, ?_, ?_, ho.2.1, ho.2.2⟩
                · simp only [List.length_append, List.length_cons, List.length_nil]
                  omega
                · simp only [List.length_append, List.length_cons, List.length_nil]
                  omega
              · simp only at h
                omega
          · rw [if_neg k2, if_neg k3] at ho
            by_cases k4 : r.k = 4
            · rw [if_pos k4] at ho
              right
              refine ⟨?_, fun h => ?_⟩
              · unfold okR
                rw [if_neg (by simp [he]), if_neg (by simpa using k0), if_neg (by simpa using k2), if_neg (by simpa using k3), if_pos k4]
                refine ⟨hd0, hr, ?_, ho⟩
                simp only [List.length_append, List.length_cons, List.length_nil]
                omega
              · simp only at h
                omega
            · rw [if_neg k4] at ho
              exact ho.elim
  unfold stepR
  rcases key with ⟨e1, h1⟩ | ⟨e1, h1 | h1⟩
  · rw [if_neg (fun h => e1 h.1)]
    exact h1
  · rw [if_pos ⟨e1, h1⟩]
    exact okT_new _ _
  · by_cases hw : wholeR (oneR r c) = true
    · rw [if_pos ⟨e1, hw⟩]
      exact okT_new _ _
    · rw [if_neg (fun h => hw h.2)]
      exact h1
theorem feed_okT (s : Bs) : ∀ (r : Rr), okT r → okT (feedM r [] s).1 := by
  induction s with
  | nil => intro r h; exact h
  | cons c t ih =>
    intro r h
    rw [feedM]
    by_cases e : r.e ≠ 0
    · rw [if_pos e]
      exact h
    · rw [if_neg e, feedM_acc]
      exact ih _ (step_okT h (Classical.not_not.1 e) c)
end Go.Proofs.YtdlihfbaepjliaaGreatDoor

/-
  Messages as lists alone: what is printed is read to the same.
-/
namespace Go.Proofs.YtdlihfbaepjliaaGreatDoor
open Go.RowKit

def clB : Bs := [99, 111, 110, 116, 101, 110, 116, 45, 108, 101, 110, 103, 116, 104]
def teB : Bs := [116, 114, 97, 110, 115, 102, 101, 114, 45, 101, 110, 99, 111, 100, 105, 110, 103]
def CLB : Bs := [67, 111, 110, 116, 101, 110, 116, 45, 76, 101, 110, 103, 116, 104]
/-- fields but for those about the length -/
def dropB (fs : List (Bs × Bs)) : List (Bs × Bs) := fs.filter fun f => !(decide (lowerL f.1 = clB) || decide (lowerL f.1 = teB))
/-- the head that is printed -/
def headP (m : Mg) : Hd := { m.h with fs := dropB m.h.fs ++ [(CLB, textN (m.b.length : Int) 10)] }
/-- J4 -/
def printR (m : Mg) (a : Bool) : Bs × Int :=
  if 4000 < m.b.length then ([], 2) else if (printH (headP m) a).2 ≠ 0 then ([], (printH (headP m) a).2) else ((printH (headP m) a).1 ++ m.b, 0)

theorem lines_mid (r : Bs) : ∀ (acc x : Bs), linesA acc (x ++ 13 :: 10 :: r) = linesA acc x ++ linesA [] r := by
  intro acc x
  induction acc, x using linesA.induct with
  | case1 acc => simp [linesA]
  | case2 acc x =>
    have e1 : linesA acc (x :: 13 :: 10 :: r) = linesA (acc ++ [x]) (13 :: 10 :: r) := by rw [linesA, if_neg (by simp)]
    have e2 : linesA (acc ++ [x]) (13 :: 10 :: r) = (acc ++ [x]) :: linesA [] r := by rw [linesA, if_pos ⟨rfl, rfl⟩]
    rw [List.singleton_append, e1, e2]
    rfl
  | case3 acc x y r' h ih =>
    rw [List.cons_append, List.cons_append, linesA, if_pos h, linesA, if_pos h, ih]
    rfl
  | case4 acc x y r' h ih =>
    rw [List.cons_append, List.cons_append, linesA, if_neg h, linesA, if_neg h]
    exact ih
theorem ends4_iff {p : Bs} (h : ends4 p = true) : ∃ x, p = x ++ [13, 10, 13, 10] := by
  unfold ends4 at h
  rw [Bool.and_eq_true, decide_eq_true_eq, decide_eq_true_eq] at h
  exact ⟨p.take (p.length - 4), by rw [← h.2]; exact (List.take_append_drop _ _).symm⟩
theorem ends4_yes (x : Bs) : ends4 (x ++ [13, 10, 13, 10]) = true := by
  unfold ends4
  rw [Bool.and_eq_true, decide_eq_true_eq, decide_eq_true_eq]
  have hl : (x ++ [13, 10, 13, 10] : Bs).length = x.length + 4 := by simp
  refine ⟨by omega, ?_⟩
  rw [hl, Nat.add_sub_cancel, List.drop_left]
/-- an empty line stands at the text's end alone -/
theorem ends4_last {ls : List Bs} {X p v : Bs} (hl : linesL X = ls) (hne : ∀ l ∈ ls, l ≠ []) (hT : X ++ [13, 10, 13, 10] = p ++ v) (hE : ends4 p = true) : v = [] := by
  obtain ⟨x, rfl⟩ := ends4_iff hE
  have e1 : linesL (X ++ [13, 10, 13, 10]) = ls ++ [[], []] := by
    rw [← hl, linesL, show ([13, 10, 13, 10] : Bs) = 13 :: 10 :: [13, 10] from rfl, lines_mid]
    rfl
  have e2 : linesL (x ++ [13, 10, 13, 10] ++ v) = linesL x ++ [] :: linesL v := by
    rw [show x ++ [13, 10, 13, 10] ++ v = x ++ 13 :: 10 :: (13 :: 10 :: v) by simp, linesL, lines_mid, linesA, if_pos ⟨rfl, rfl⟩]
    rfl
  rw [hT, e2] at e1
  have h1 : linesL v ≠ [] := lines_ne _ _
  have hlen := congrArg List.length e1
  simp only [List.length_append, List.length_cons, List.length_nil] at hlen
  have hv1 : 0 < (linesL v).length := List.length_pos_iff.2 h1
  have hat : (ls ++ [[], []])[(linesL x).length]? = some [] := by
    rw [← e1, List.getElem?_append_right (Nat.le_refl _), Nat.sub_self]
    rfl
  have hge : ls.length ≤ (linesL x).length := by
    rcases Nat.lt_or_ge (linesL x).length ls.length with h | h
    · rw [List.getElem?_append_left h] at hat
      exact absurd rfl (hne [] (List.mem_of_getElem? hat))
    · exact h
  have hv : (linesL v).length = 1 := by omega
  have hvl : linesL v = [[]] := by
    have hlast : (ls ++ [[], []])[(linesL x).length + 1]? = (linesL v)[0]? := by
      rw [← e1, List.getElem?_append_right (by omega)]
      simp
    rw [List.getElem?_append_right (by omega)] at hlast
    have hh : (linesL x).length + 1 - ls.length = 1 := by omega
    rw [hh] at hlast
    match h3 : linesL v, hv with
    | [y], _ =>
      rw [h3] at hlast
      simp at hlast
      rw [← hlast]
  have ht := lines_total [] v
  rw [show linesA [] v = linesL v from rfl, hvl] at ht
  simp [total] at ht
  exact ht

/-- a reader of a head -/
def hdR (a : Bool) (q p : Bs) : Rr := ⟨a, q, p, 0, 0, [], Ck.zero, Hd.zero, 0⟩
theorem feed_head (a : Bool) (q rest : Bs) (out : List Mg) : ∀ (u p : Bs), (∀ v, v ≠ [] → ∀ y, u = y ++ v → y ≠ [] → ends4 (p ++ y) = false) → (u ≠ [] → ends4 (p ++ u) = false) → p.length + u.length ≤ 2003 → feedM (hdR a q p) out (u ++ rest) = feedM (hdR a q (p ++ u)) out rest := by
  intro u
  induction u with
  | nil => intro p _ _ _; simp
  | cons c t ih =>
    intro p h1 h2 hl
    simp only [List.length_cons] at hl
    have hc : ends4 (p ++ [c]) = false := by
      cases t with
      | nil => exact h2 (by simp)
      | cons d s => exact h1 (d :: s) (by simp) [c] rfl (by simp)
    have e : stepR (hdR a q p) out c = (hdR a q (p ++ [c]), out) := by
      have e1 : oneR (hdR a q p) c = hdR a q (p ++ [c]) := by
        unfold oneR
        rw [if_pos (show (hdR a q p).k = 0 from rfl), if_neg (by simp [hdR, hc]), if_neg (by simp only [hdR]; omega)]
        rfl
      unfold stepR
      rw [e1, if_neg (by simp [hdR, wholeR])]
    rw [List.cons_append, feedM, if_neg (by simp [hdR]), e]
    have := ih (p ++ [c]) (fun v hv y hy hne => by
      rw [List.append_assoc, List.singleton_append]
      exact h1 v hv (c :: y) (by rw [hy]; rfl) (by simp)) (fun hne => by
      rw [List.append_assoc, List.singleton_append]
      exact h2 (by simp)) (by rw [List.length_append]; simp only [List.length_cons, List.length_nil]; omega)
    simp only at this ⊢
    rw [this, List.append_assoc, List.singleton_append]
/-- a reader of a body whose size is told -/
def bdR (a : Bool) (q : Bs) (n : Int) (b : Bs) (h : Hd) : Rr := ⟨a, q, [], 2, n, b, Ck.zero, h, 0⟩
theorem feed_sized (a : Bool) (q rest : Bs) (out : List Mg) (n : Int) (h : Hd) : ∀ (u b : Bs), u ≠ [] → (b.length : Int) + (u.length : Int) = n → n ≤ 4000 → feedM (bdR a q n b h) out (u ++ rest) = feedM (newR a q) (out ++ [⟨h, b ++ u⟩]) rest := by
  intro u
  induction u with
  | nil => intro b h; exact absurd rfl h
  | cons c t ih =>
    intro b _ hn h4
    simp only [List.length_cons, Int.natCast_add, Int.natCast_one] at hn
    have e1 : oneR (bdR a q n b h) c = bdR a q n (b ++ [c]) h := by
      unfold oneR
      rw [if_neg (by simp [bdR]), if_neg (by simp [bdR]), if_neg (by simp only [bdR]; omega)]
      rfl
    rw [List.cons_append, feedM, if_neg (by simp [bdR])]
    by_cases ht : t = []
    · subst ht
      have e : stepR (bdR a q n b h) out c = (newR a q, out ++ [⟨h, b ++ [c]⟩]) := by
        unfold stepR
        rw [e1, if_pos ⟨rfl, by simp only [wholeR, bdR]; simp; simp at hn; omega⟩]
        rfl
      rw [e]
      rfl
    · have e : stepR (bdR a q n b h) out c = (bdR a q n (b ++ [c]) h, out) := by
        unfold stepR
        have hp : 0 < t.length := List.length_pos_iff.2 ht
        rw [e1, if_neg (by simp only [wholeR, bdR]; simp; omega)]
      rw [e]
      simp only
      rw [ih (b ++ [c]) ht (by simp; omega) h4, List.append_assoc, List.singleton_append]

theorem drop_mem {fs : List (Bs × Bs)} {f : Bs × Bs} (h : f ∈ dropB fs) : f ∈ fs ∧ lowerL f.1 ≠ clB ∧ lowerL f.1 ≠ teB := by
  obtain ⟨h1, h2⟩ := List.mem_filter.1 h
  simp at h2
  exact ⟨h1, h2.1, h2.2⟩
theorem drop_twice (fs : List (Bs × Bs)) (v : Bs) : dropB (dropB fs ++ [(CLB, v)]) = dropB fs := by
  have hc : lowerL CLB = clB := by decide +kernel
  unfold dropB
  rw [List.filter_append, List.filter_filter]
  simp [hc]
theorem dl_mkB (l : Bs) : dl ⟨l.toArray⟩ = l := dl_mk l
theorem getL_mkF (fs : List (Bs × Bs)) (x : ByteArray) : getL (mkF fs) x = (fs.filter fun f => decide (lowerL f.1 = lowerL (dl x))).map fun f => (⟨f.2.toArray⟩ : ByteArray) := by
  unfold getL mkF
  induction fs with
  | nil => rfl
  | cons f r ih =>
    simp only [List.map_cons, List.filter_cons, dl_mkB]
    by_cases h : lowerL f.1 = lowerL (dl x)
    · simp only [h, decide_true, if_true, List.map_cons]
      rw [ih]
    · simp only [h, decide_false, Bool.false_eq_true, if_false]
      exact ih
theorem frame_printed (fs : List (Bs × Bs)) (n : Nat) (hn : n ≤ 4000) (mi : Int) : frH (mkF (dropB fs ++ [(CLB, textN (n : Int) 10)])) mi = (2, (n : Int), 0) := by
  have hc : lowerL CLB = clB := by decide +kernel
  have hcl : lowerL (dl clN) = clB := by decide +kernel
  have hte : lowerL (dl teN) = teB := by decide +kernel
  have hne : ¬ clB = teB := by decide
  have g1 : getL (mkF (dropB fs ++ [(CLB, textN (n : Int) 10)])) teN = [] := by
    rw [getL_mkF, hte, List.filter_append]
    have : (dropB fs).filter (fun f => decide (lowerL f.1 = teB)) = [] := by
      rw [List.filter_eq_nil_iff]
      intro f hf
      simpa using (drop_mem hf).2.2
    rw [this]
    simp [hc, hne]
  have g2 : getL (mkF (dropB fs ++ [(CLB, textN (n : Int) 10)])) clN = [⟨(textN (n : Int) 10).toArray⟩] := by
    rw [getL_mkF, hcl, List.filter_append]
    have : (dropB fs).filter (fun f => decide (lowerL f.1 = clB)) = [] := by
      rw [List.filter_eq_nil_iff]
      intro f hf
      simpa using (drop_mem hf).2.1
    rw [this]
    simp [hc]
  unfold frH framedN
  rw [g1, g2]
  have hp := parse_text (n := (n : Int)) (base := 10) (.inl rfl) (by omega) (by omega)
  simp [sizN, hd1, lenN, dl_mkB, hp]
  omega

theorem framed_yes {r : Rr} {h : Hd} {f : Int × Int × Int} (h1 : parseH (r.hd.take (r.hd.length - 4)) r.a = (h, 0)) (h2 : frameR h r.a r.q = f) (h3 : f.2.2 = 0) : framedR r = ⟨r.a, r.q, [], f.1, f.2.1, r.b, r.ck, h, r.e⟩ := by
  unfold framedR
  simp [h1, h2, h3]
/-- J5: what is printed is read -/
theorem back_M {m : Mg} {a : Bool} {q : Bs} (hr : rightB (headP m) a = true) (hl : (textH (headP m) a).length ≤ 2004) (hb : m.b.length ≤ 4000) (hbare : a = true → bareB m.h.st q = false) :
    feedM (newR a q) [] (textH (headP m) a ++ m.b) = (newR a q, [⟨headP m, m.b⟩]) := by
  obtain ⟨_, _, hfs, _⟩ := kind_parts hr
  obtain ⟨_, hfirst⟩ := first_back hr
  have hback := back_H hr hl
  have hlines : linesL (firstT (headP m) a ++ tailT (headP m).fs) = firstT (headP m) a :: (headP m).fs.map lineF := lines_tail (headP m).fs (firstT (headP m) a) hfirst hfs
  have hne : ∀ l ∈ firstT (headP m) a :: (headP m).fs.map lineF, l ≠ [] := by
    intro l hl
    rcases List.mem_cons.1 hl with rfl | hl
    · unfold firstT
      split
      · simp [verT]
      · simp
    · obtain ⟨f, _, rfl⟩ := List.mem_map.1 hl
      simp [lineF]
  have hT := text_eq (headP m) a
  obtain ⟨X, hX⟩ : ∃ X, firstT (headP m) a ++ tailT (headP m).fs = X := ⟨_, rfl⟩
  rw [hX] at hlines hT
  have hend : ∀ p v, textH (headP m) a = p ++ v → v ≠ [] → ends4 p = false := by
    intro p v h hv
    cases hE : ends4 p with
    | false => rfl
    | true => exact absurd (ends4_last hlines hne (by rw [← hT]; exact h) hE) hv
  have hsplit : textH (headP m) a = (X ++ [13, 10, 13]) ++ [10] := by rw [hT]; simp
  have hlX : (X ++ [13, 10, 13] : Bs).length ≤ 2003 := by
    have := congrArg List.length hsplit
    rw [List.length_append] at this
    simp only [List.length_cons, List.length_nil] at this
    omega
  have s1 := feed_head a q ([10] ++ m.b) [] (X ++ [13, 10, 13]) [] (fun v hv y hy hne => by
    rw [List.nil_append]
    exact hend y (v ++ [10]) (by rw [hsplit, hy, List.append_assoc]) (by simp)) (fun _ => by
    rw [List.nil_append]
    exact hend _ [10] hsplit (by simp)) (by simpa using hlX)
  have hfr : frameR (headP m) a q = (2, (m.b.length : Int), 0) := by
    unfold frameR
    have hf : frH (mkF (headP m).fs) (headP m).mi = (2, (m.b.length : Int), 0) := frame_printed m.h.fs m.b.length hb m.h.mi
    cases a with
    | true =>
      rw [if_pos rfl, hf, hr]
      unfold ansF
      rw [show (headP m).st = m.h.st from rfl, hbare rfl]
      simp
    | false =>
      rw [if_neg (by decide), hf, hr]
      unfold reqF
      simp
  have e1 : oneR (hdR a q (X ++ [13, 10, 13])) 10 = bdR a q (m.b.length : Int) [] (headP m) := by
    unfold oneR
    have hE : ends4 (X ++ [13, 10, 13] ++ [10]) = true := by
      rw [List.append_assoc]
      exact ends4_yes X
    have hpar : parseH ((X ++ [13, 10, 13] ++ [10]).take ((X ++ [13, 10, 13] ++ [10]).length - 4)) a = (headP m, 0) := by
      rw [← hsplit]
      exact hback
    rw [if_pos (show (hdR a q (X ++ [13, 10, 13])).k = 0 from rfl), if_pos (by exact hE)]
    rw [framed_yes (r := { hdR a q (X ++ [13, 10, 13]) with hd := (hdR a q (X ++ [13, 10, 13])).hd ++ [10] }) hpar hfr rfl]
    rfl
  rw [show textH (headP m) a ++ m.b = (X ++ [13, 10, 13]) ++ ([10] ++ m.b) by rw [hsplit, List.append_assoc], show newR a q = hdR a q [] from rfl, s1, List.nil_append]
  rw [List.singleton_append, feedM, if_neg (by simp [hdR])]
  by_cases h0 : m.b = []
  · have e : stepR (hdR a q (X ++ [13, 10, 13])) [] 10 = (newR a q, [⟨headP m, []⟩]) := by
      unfold stepR
      rw [e1, if_pos ⟨rfl, by simp [wholeR, bdR, h0]⟩]
      rfl
    rw [e, h0]
    rfl
  · have e : stepR (hdR a q (X ++ [13, 10, 13])) [] 10 = (bdR a q (m.b.length : Int) [] (headP m), []) := by
      unfold stepR
      have hp : 0 < m.b.length := List.length_pos_iff.2 h0
      rw [e1, if_neg (fun h => by have h2 := of_decide_eq_true (show decide (((0 : Nat) : Int) = (m.b.length : Int)) = true from h.2); omega)]
    rw [e]
    have s2 := feed_sized a q [] [] (m.b.length : Int) (headP m) m.b [] h0 (by simp) (by omega)
    rw [List.append_nil] at s2
    rw [s2]
    rfl
end Go.Proofs.YtdlihfbaepjliaaGreatDoor
