/-
  No cell of these rows narrows 'for every input' (looked for: loops, veiled, ifaces, maps, wideKeys, modest, calm, conditions, laid).
  DERIVED. THE GIVEN ROWS OF THIS SEAT. 4 by the template 'for every input the law returns true; each argument reads behind the call as it read before'; 0 by the template 'total and deterministic' (their statements: YtkglgbbekmljcaaTotals.lean).
  GIVEN WITH THE SEED: the statements are not yours to turn. If you find one false, say at which input.
  Laid BY PROGRAM, IN A SANDBOX (cutbox-rows.mjs): the forced cells as the released guide's own fill.sh prints them over the translation 814e8b4f7f358648… (all of the seat's roots in one cut). By AI agents, Wed Nov 11 2026. No macro, syntax, notation, axiom, sorry.
-/
import Derived.Test.YtkglgbbekmljcaaChecked
import GoSem.Claim
import GoSem.ClaimJoined
import GoSem.ClaimMapViews
import Derived.JoinedTies
import Derived.KernelRfl
namespace Go.Proofs.Ytkglgbbekmljcaa
/- THE CELL 'sum', in the pinned program and in every row, IS THE sha256 OF THE DUMP (.gsa) THAT YtkglgbbekmljcaaProg.lean LOADS. Nothing in Lean hashes anything: it is a label: what it is worth is what the hold of that sum in a sandbox is worth. -/
noncomputable def Try.pinned : Pinned := { name := "ytkglgbbekmljcaa", sum := "814e8b4f7f35864817093e427027e8bd7fc56909ecce4e0a23c12e9f8cceedb3", checked := Try.checked }
namespace Rows
def none {H : Type} : Left H := { results := [], args := [] }

/-- 'lockagelaw02.IdsAny': WHATEVER THE INPUT: true; the input reads as it did. -/
def idsAnySpec : ChangeSpec := { name := "idsAny", fn := fun _ => fun
  | [d1, d2, d3] => { results := [.lit (.bool true)], args := [d1, d2, d3] }
  | _ => none }
def idsAnyRow : OpenClaim := { program := "ytkglgbbekmljcaa", sum := "814e8b4f7f35864817093e427027e8bd7fc56909ecce4e0a23c12e9f8cceedb3", func := "lockage/lockagelaw02.IdsAny", spec := "idsAny", apart := false }
def IdsAnySaid : Prop := idsAnyRow.holds Try.pinned (OpenSpec.ofChange idsAnySpec)

/-- ITS FALSE NEIGHBOUR: 'it returns false'. Refute it at one input. -/
def idsAnyWrong : ChangeSpec := { name := "idsAny", fn := fun _ => fun
  | [d1, d2, d3] => { results := [.lit (.bool false)], args := [d1, d2, d3] }
  | _ => none }
def IdsAnyWrongFalsely : Prop := idsAnyRow.holds Try.pinned (OpenSpec.ofChange idsAnyWrong)

/-- 'lockagelaw02.IdsMade': WHATEVER THE INPUT: true; the input reads as it did. -/
def idsMadeSpec : ChangeSpec := { name := "idsMade", fn := fun _ => fun
  | [d1, d2, d3, d4] => { results := [.lit (.bool true)], args := [d1, d2, d3, d4] }
  | _ => none }
def idsMadeRow : OpenClaim := { program := "ytkglgbbekmljcaa", sum := "814e8b4f7f35864817093e427027e8bd7fc56909ecce4e0a23c12e9f8cceedb3", func := "lockage/lockagelaw02.IdsMade", spec := "idsMade", apart := false }
def IdsMadeSaid : Prop := idsMadeRow.holds Try.pinned (OpenSpec.ofChange idsMadeSpec)

/-- ITS FALSE NEIGHBOUR: 'it returns false'. Refute it at one input. -/
def idsMadeWrong : ChangeSpec := { name := "idsMade", fn := fun _ => fun
  | [d1, d2, d3, d4] => { results := [.lit (.bool false)], args := [d1, d2, d3, d4] }
  | _ => none }
def IdsMadeWrongFalsely : Prop := idsMadeRow.holds Try.pinned (OpenSpec.ofChange idsMadeWrong)

/-- 'lockagelaw02.IdsSpoilt': WHATEVER THE INPUT: true; the input reads as it did. -/
def idsSpoiltSpec : ChangeSpec := { name := "idsSpoilt", fn := fun _ => fun
  | [d1, d2, d3, d4, d5] => { results := [.lit (.bool true)], args := [d1, d2, d3, d4, d5] }
  | _ => none }
def idsSpoiltRow : OpenClaim := { program := "ytkglgbbekmljcaa", sum := "814e8b4f7f35864817093e427027e8bd7fc56909ecce4e0a23c12e9f8cceedb3", func := "lockage/lockagelaw02.IdsSpoilt", spec := "idsSpoilt", apart := false }
def IdsSpoiltSaid : Prop := idsSpoiltRow.holds Try.pinned (OpenSpec.ofChange idsSpoiltSpec)

/-- ITS FALSE NEIGHBOUR: 'it returns false'. Refute it at one input. -/
def idsSpoiltWrong : ChangeSpec := { name := "idsSpoilt", fn := fun _ => fun
  | [d1, d2, d3, d4, d5] => { results := [.lit (.bool false)], args := [d1, d2, d3, d4, d5] }
  | _ => none }
def IdsSpoiltWrongFalsely : Prop := idsSpoiltRow.holds Try.pinned (OpenSpec.ofChange idsSpoiltWrong)

/-- 'lockagelaw02.IdsOnce': WHATEVER THE INPUT: true; the input reads as it did. -/
def idsOnceSpec : ChangeSpec := { name := "idsOnce", fn := fun _ => fun
  | [d1, d2] => { results := [.lit (.bool true)], args := [d1, d2] }
  | _ => none }
def idsOnceRow : OpenClaim := { program := "ytkglgbbekmljcaa", sum := "814e8b4f7f35864817093e427027e8bd7fc56909ecce4e0a23c12e9f8cceedb3", func := "lockage/lockagelaw02.IdsOnce", spec := "idsOnce", apart := false }
def IdsOnceSaid : Prop := idsOnceRow.holds Try.pinned (OpenSpec.ofChange idsOnceSpec)

/-- ITS FALSE NEIGHBOUR: 'it returns false'. Refute it at one input. -/
def idsOnceWrong : ChangeSpec := { name := "idsOnce", fn := fun _ => fun
  | [d1, d2] => { results := [.lit (.bool false)], args := [d1, d2] }
  | _ => none }
def IdsOnceWrongFalsely : Prop := idsOnceRow.holds Try.pinned (OpenSpec.ofChange idsOnceWrong)

/- THE SECOND FORM. 'bulk': how many values and letters a reading holds, each counted each time it is reached (what is shared counts as often as it is met; a slice's spare places count too). A statement '..UptoSaid' is the law's where the arguments, and the package variables that the reading takes, are together of bulk at most 1048576: NARROWER than '..Said'. Prove '..Said' where nothing that the law and all that it calls make is longer than what came in: it says more and counts as full. Else prove '..UptoSaid'. A law counts once. -/
mutual
def uptoBulk {H : Type} : DataW H → Nat
  | .lit (.string bytes) => bytes.length + 1
  | .lit _ => 1
  | .nil => 1
  | .ptr d => uptoBulk d + 1
  | .slice elems spare => uptoBulkAll elems + uptoBulkAll spare + 1
  | .agg parts => uptoBulkAll parts + 1
  | .iface _ d => uptoBulk d + 1
  | .map entries => uptoBulkEntries entries + 1
  | .held _ => 1
def uptoBulkAll {H : Type} : List (DataW H) → Nat
  | [] => 0
  | d :: r => uptoBulk d + uptoBulkAll r
def uptoBulkEntries {H : Type} : List (Lit × DataW H) → Nat
  | [] => 0
  | x :: r => uptoBulkEntry x + uptoBulkEntries r
def uptoBulkEntry {H : Type} : Lit × DataW H → Nat
  | (.string bytes, d) => bytes.length + uptoBulk d + 1
  | (_, d) => uptoBulk d + 1
 end
def uptoSmall : (H : Type) → List (DataW H) → Bool := fun _ ds => decide (uptoBulkAll ds ≤ 1048576)
def OpenSpec.upto (s : _root_.Go.ChangeSpec) : _root_.Go.OpenSpec := { _root_.Go.OpenSpec.ofChange s with cond := some uptoSmall }

/-- 'lockagelaw02.IdsAny', WHERE WHAT IT READS IS OF BULK AT MOST 1048576: true; the input reads as it did. -/
def idsAnyUptoRow : OpenClaim := { program := "ytkglgbbekmljcaa", sum := "814e8b4f7f35864817093e427027e8bd7fc56909ecce4e0a23c12e9f8cceedb3", func := "lockage/lockagelaw02.IdsAny", spec := "idsAny", apart := false, narrowed := true }
def IdsAnyUptoSaid : Prop := idsAnyUptoRow.holds Try.pinned (OpenSpec.upto idsAnySpec)

/-- 'lockagelaw02.IdsMade', WHERE WHAT IT READS IS OF BULK AT MOST 1048576: true; the input reads as it did. -/
def idsMadeUptoRow : OpenClaim := { program := "ytkglgbbekmljcaa", sum := "814e8b4f7f35864817093e427027e8bd7fc56909ecce4e0a23c12e9f8cceedb3", func := "lockage/lockagelaw02.IdsMade", spec := "idsMade", apart := false, narrowed := true }
def IdsMadeUptoSaid : Prop := idsMadeUptoRow.holds Try.pinned (OpenSpec.upto idsMadeSpec)

/-- 'lockagelaw02.IdsSpoilt', WHERE WHAT IT READS IS OF BULK AT MOST 1048576: true; the input reads as it did. -/
def idsSpoiltUptoRow : OpenClaim := { program := "ytkglgbbekmljcaa", sum := "814e8b4f7f35864817093e427027e8bd7fc56909ecce4e0a23c12e9f8cceedb3", func := "lockage/lockagelaw02.IdsSpoilt", spec := "idsSpoilt", apart := false, narrowed := true }
def IdsSpoiltUptoSaid : Prop := idsSpoiltUptoRow.holds Try.pinned (OpenSpec.upto idsSpoiltSpec)

/-- 'lockagelaw02.IdsOnce', WHERE WHAT IT READS IS OF BULK AT MOST 1048576: true; the input reads as it did. -/
def idsOnceUptoRow : OpenClaim := { program := "ytkglgbbekmljcaa", sum := "814e8b4f7f35864817093e427027e8bd7fc56909ecce4e0a23c12e9f8cceedb3", func := "lockage/lockagelaw02.IdsOnce", spec := "idsOnce", apart := false, narrowed := true }
def IdsOnceUptoSaid : Prop := idsOnceUptoRow.holds Try.pinned (OpenSpec.upto idsOnceSpec)

end Rows
end Go.Proofs.Ytkglgbbekmljcaa
