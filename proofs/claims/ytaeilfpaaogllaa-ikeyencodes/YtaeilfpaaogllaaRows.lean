/-
  No cell of these rows narrows 'for every input' (looked for: loops, veiled, ifaces, maps, wideKeys, modest, calm, conditions, laid).
  DERIVED. THE GIVEN ROWS OF THIS SEAT. 7 by the template 'for every input the law returns true; each argument reads behind the call as it read before'; 0 by the template 'total and deterministic' (their statements: YtaeilfpaaogllaaTotals.lean).
  GIVEN WITH THE SEED: the statements are not yours to turn. If you find one false, say at which input.
  Laid BY PROGRAM, IN A SANDBOX (cutbox-rows.mjs): the forced cells as the released guide's own fill.sh prints them over the translation 0bd89f118437e126… (all of the seat's roots in one cut). By AI agents, Wed Nov 11 2026. No macro, syntax, notation, axiom, sorry.
-/
import Derived.Test.YtaeilfpaaogllaaChecked
import GoSem.Claim
import GoSem.ClaimJoined
import GoSem.ClaimMapViews
import Derived.JoinedTies
import Derived.KernelRfl
namespace Go.Proofs.Ytaeilfpaaogllaa
/- THE CELL 'sum', in the pinned program and in every row, IS THE sha256 OF THE DUMP (.gsa) THAT YtaeilfpaaogllaaProg.lean LOADS. Nothing in Lean hashes anything: it is a label: what it is worth is what the hold of that sum in a sandbox is worth. -/
noncomputable def Try.pinned : Pinned := { name := "ytaeilfpaaogllaa", sum := "0bd89f118437e126e1cf2055acca4fc5a0804f8ce061790213b11e626f63305a", checked := Try.checked }
namespace Rows
def none {H : Type} : Left H := { results := [], args := [] }

/-- 'assartlaw05.IkeyEncodes': WHATEVER THE INPUT: true; the input reads as it did. -/
def ikeyEncodesSpec : ChangeSpec := { name := "ikeyEncodes", fn := fun _ => fun
  | [d1, d2] => { results := [.lit (.bool true)], args := [d1, d2] }
  | _ => none }
def ikeyEncodesRow : OpenClaim := { program := "ytaeilfpaaogllaa", sum := "0bd89f118437e126e1cf2055acca4fc5a0804f8ce061790213b11e626f63305a", func := "assart/assartlaw05.IkeyEncodes", spec := "ikeyEncodes", apart := false }
def IkeyEncodesSaid : Prop := ikeyEncodesRow.holds Try.pinned (OpenSpec.ofChange ikeyEncodesSpec)

/-- ITS FALSE NEIGHBOUR: 'it returns false'. Refute it at one input. -/
def ikeyEncodesWrong : ChangeSpec := { name := "ikeyEncodes", fn := fun _ => fun
  | [d1, d2] => { results := [.lit (.bool false)], args := [d1, d2] }
  | _ => none }
def IkeyEncodesWrongFalsely : Prop := ikeyEncodesRow.holds Try.pinned (OpenSpec.ofChange ikeyEncodesWrong)

/-- 'assartlaw05.IkeySorts': WHATEVER THE INPUT: true; the input reads as it did. -/
def ikeySortsSpec : ChangeSpec := { name := "ikeySorts", fn := fun _ => fun
  | [d1, d2] => { results := [.lit (.bool true)], args := [d1, d2] }
  | _ => none }
def ikeySortsRow : OpenClaim := { program := "ytaeilfpaaogllaa", sum := "0bd89f118437e126e1cf2055acca4fc5a0804f8ce061790213b11e626f63305a", func := "assart/assartlaw05.IkeySorts", spec := "ikeySorts", apart := false }
def IkeySortsSaid : Prop := ikeySortsRow.holds Try.pinned (OpenSpec.ofChange ikeySortsSpec)

/-- ITS FALSE NEIGHBOUR: 'it returns false'. Refute it at one input. -/
def ikeySortsWrong : ChangeSpec := { name := "ikeySorts", fn := fun _ => fun
  | [d1, d2] => { results := [.lit (.bool false)], args := [d1, d2] }
  | _ => none }
def IkeySortsWrongFalsely : Prop := ikeySortsRow.holds Try.pinned (OpenSpec.ofChange ikeySortsWrong)

/-- 'assartlaw05.IkeyOrders': WHATEVER THE INPUT: true; the input reads as it did. -/
def ikeyOrdersSpec : ChangeSpec := { name := "ikeyOrders", fn := fun _ => fun
  | [d1, d2] => { results := [.lit (.bool true)], args := [d1, d2] }
  | _ => none }
def ikeyOrdersRow : OpenClaim := { program := "ytaeilfpaaogllaa", sum := "0bd89f118437e126e1cf2055acca4fc5a0804f8ce061790213b11e626f63305a", func := "assart/assartlaw05.IkeyOrders", spec := "ikeyOrders", apart := false }
def IkeyOrdersSaid : Prop := ikeyOrdersRow.holds Try.pinned (OpenSpec.ofChange ikeyOrdersSpec)

/-- ITS FALSE NEIGHBOUR: 'it returns false'. Refute it at one input. -/
def ikeyOrdersWrong : ChangeSpec := { name := "ikeyOrders", fn := fun _ => fun
  | [d1, d2] => { results := [.lit (.bool false)], args := [d1, d2] }
  | _ => none }
def IkeyOrdersWrongFalsely : Prop := ikeyOrdersRow.holds Try.pinned (OpenSpec.ofChange ikeyOrdersWrong)

/-- 'assartlaw05.IkeyBack': WHATEVER THE INPUT: true; the input reads as it did. -/
def ikeyBackSpec : ChangeSpec := { name := "ikeyBack", fn := fun _ => fun
  | [d1, d2] => { results := [.lit (.bool true)], args := [d1, d2] }
  | _ => none }
def ikeyBackRow : OpenClaim := { program := "ytaeilfpaaogllaa", sum := "0bd89f118437e126e1cf2055acca4fc5a0804f8ce061790213b11e626f63305a", func := "assart/assartlaw05.IkeyBack", spec := "ikeyBack", apart := false }
def IkeyBackSaid : Prop := ikeyBackRow.holds Try.pinned (OpenSpec.ofChange ikeyBackSpec)

/-- ITS FALSE NEIGHBOUR: 'it returns false'. Refute it at one input. -/
def ikeyBackWrong : ChangeSpec := { name := "ikeyBack", fn := fun _ => fun
  | [d1, d2] => { results := [.lit (.bool false)], args := [d1, d2] }
  | _ => none }
def IkeyBackWrongFalsely : Prop := ikeyBackRow.holds Try.pinned (OpenSpec.ofChange ikeyBackWrong)

/-- 'assartlaw05.IkeyParts': WHATEVER THE INPUT: true; the input reads as it did. -/
def ikeyPartsSpec : ChangeSpec := { name := "ikeyParts", fn := fun _ => fun
  | [d1, d2] => { results := [.lit (.bool true)], args := [d1, d2] }
  | _ => none }
def ikeyPartsRow : OpenClaim := { program := "ytaeilfpaaogllaa", sum := "0bd89f118437e126e1cf2055acca4fc5a0804f8ce061790213b11e626f63305a", func := "assart/assartlaw05.IkeyParts", spec := "ikeyParts", apart := false }
def IkeyPartsSaid : Prop := ikeyPartsRow.holds Try.pinned (OpenSpec.ofChange ikeyPartsSpec)

/-- ITS FALSE NEIGHBOUR: 'it returns false'. Refute it at one input. -/
def ikeyPartsWrong : ChangeSpec := { name := "ikeyParts", fn := fun _ => fun
  | [d1, d2] => { results := [.lit (.bool false)], args := [d1, d2] }
  | _ => none }
def IkeyPartsWrongFalsely : Prop := ikeyPartsRow.holds Try.pinned (OpenSpec.ofChange ikeyPartsWrong)

/-- 'assartlaw05.IkeyBetween': WHATEVER THE INPUT: true; the input reads as it did. -/
def ikeyBetweenSpec : ChangeSpec := { name := "ikeyBetween", fn := fun _ => fun
  | [d1, d2, d3] => { results := [.lit (.bool true)], args := [d1, d2, d3] }
  | _ => none }
def ikeyBetweenRow : OpenClaim := { program := "ytaeilfpaaogllaa", sum := "0bd89f118437e126e1cf2055acca4fc5a0804f8ce061790213b11e626f63305a", func := "assart/assartlaw05.IkeyBetween", spec := "ikeyBetween", apart := false }
def IkeyBetweenSaid : Prop := ikeyBetweenRow.holds Try.pinned (OpenSpec.ofChange ikeyBetweenSpec)

/-- ITS FALSE NEIGHBOUR: 'it returns false'. Refute it at one input. -/
def ikeyBetweenWrong : ChangeSpec := { name := "ikeyBetween", fn := fun _ => fun
  | [d1, d2, d3] => { results := [.lit (.bool false)], args := [d1, d2, d3] }
  | _ => none }
def IkeyBetweenWrongFalsely : Prop := ikeyBetweenRow.holds Try.pinned (OpenSpec.ofChange ikeyBetweenWrong)

/-- 'assartlaw05.IkeyTwins': WHATEVER THE INPUT: true; the input reads as it did. -/
def ikeyTwinsSpec : ChangeSpec := { name := "ikeyTwins", fn := fun _ => fun
  | [d] => { results := [.lit (.bool true)], args := [d] }
  | _ => none }
def ikeyTwinsRow : OpenClaim := { program := "ytaeilfpaaogllaa", sum := "0bd89f118437e126e1cf2055acca4fc5a0804f8ce061790213b11e626f63305a", func := "assart/assartlaw05.IkeyTwins", spec := "ikeyTwins", apart := false }
def IkeyTwinsSaid : Prop := ikeyTwinsRow.holds Try.pinned (OpenSpec.ofChange ikeyTwinsSpec)

/-- ITS FALSE NEIGHBOUR: 'it returns false'. Refute it at one input. -/
def ikeyTwinsWrong : ChangeSpec := { name := "ikeyTwins", fn := fun _ => fun
  | [d] => { results := [.lit (.bool false)], args := [d] }
  | _ => none }
def IkeyTwinsWrongFalsely : Prop := ikeyTwinsRow.holds Try.pinned (OpenSpec.ofChange ikeyTwinsWrong)

/- THE SECOND FORM. 'bulk': how many values and letters a reading holds, each counted each time it is reached (what is shared counts as often as it is met; a slice's spare places count too). A statement '..UptoSaid' is the law's where the arguments, and the package variables that the reading takes, are together of bulk at most 1048576: NARROWER than '..Said'. Prove '..Said' where nothing that the law and all that it calls make is longer than what came in: it says more and counts as full. Else prove '..UptoSaid'. A law counts once. -/
mutual
def uptoBulk {H : Type} : DataW H → Nat
  | .lit (.string bytes) => bytes.length + 1
  | .lit _ => 1
  | .nil => 1
  | .ptr d => uptoBulk d + 1
  | .slice elems spare => uptoBulkAll elems + uptoBulkAll spare + 1
  | .agg parts => uptoBulkAll parts + 1
  | .iface _ d => uptoBulk d + 1
  | .map entries => uptoBulkEntries entries + 1
  | .held _ => 1
def uptoBulkAll {H : Type} : List (DataW H) → Nat
  | [] => 0
  | d :: r => uptoBulk d + uptoBulkAll r
def uptoBulkEntries {H : Type} : List (Lit × DataW H) → Nat
  | [] => 0
  | x :: r => uptoBulkEntry x + uptoBulkEntries r
def uptoBulkEntry {H : Type} : Lit × DataW H → Nat
  | (.string bytes, d) => bytes.length + uptoBulk d + 1
  | (_, d) => uptoBulk d + 1
 end
def uptoSmall : (H : Type) → List (DataW H) → Bool := fun _ ds => decide (uptoBulkAll ds ≤ 1048576)
def OpenSpec.upto (s : _root_.Go.ChangeSpec) : _root_.Go.OpenSpec := { _root_.Go.OpenSpec.ofChange s with cond := some uptoSmall }

/-- 'assartlaw05.IkeyEncodes', WHERE WHAT IT READS IS OF BULK AT MOST 1048576: true; the input reads as it did. -/
def ikeyEncodesUptoRow : OpenClaim := { program := "ytaeilfpaaogllaa", sum := "0bd89f118437e126e1cf2055acca4fc5a0804f8ce061790213b11e626f63305a", func := "assart/assartlaw05.IkeyEncodes", spec := "ikeyEncodes", apart := false, narrowed := true }
def IkeyEncodesUptoSaid : Prop := ikeyEncodesUptoRow.holds Try.pinned (OpenSpec.upto ikeyEncodesSpec)

/-- 'assartlaw05.IkeySorts', WHERE WHAT IT READS IS OF BULK AT MOST 1048576: true; the input reads as it did. -/
def ikeySortsUptoRow : OpenClaim := { program := "ytaeilfpaaogllaa", sum := "0bd89f118437e126e1cf2055acca4fc5a0804f8ce061790213b11e626f63305a", func := "assart/assartlaw05.IkeySorts", spec := "ikeySorts", apart := false, narrowed := true }
def IkeySortsUptoSaid : Prop := ikeySortsUptoRow.holds Try.pinned (OpenSpec.upto ikeySortsSpec)

/-- 'assartlaw05.IkeyOrders', WHERE WHAT IT READS IS OF BULK AT MOST 1048576: true; the input reads as it did. -/
def ikeyOrdersUptoRow : OpenClaim := { program := "ytaeilfpaaogllaa", sum := "0bd89f118437e126e1cf2055acca4fc5a0804f8ce061790213b11e626f63305a", func := "assart/assartlaw05.IkeyOrders", spec := "ikeyOrders", apart := false, narrowed := true }
def IkeyOrdersUptoSaid : Prop := ikeyOrdersUptoRow.holds Try.pinned (OpenSpec.upto ikeyOrdersSpec)

/-- 'assartlaw05.IkeyBack', WHERE WHAT IT READS IS OF BULK AT MOST 1048576: true; the input reads as it did. -/
def ikeyBackUptoRow : OpenClaim := { program := "ytaeilfpaaogllaa", sum := "0bd89f118437e126e1cf2055acca4fc5a0804f8ce061790213b11e626f63305a", func := "assart/assartlaw05.IkeyBack", spec := "ikeyBack", apart := false, narrowed := true }
def IkeyBackUptoSaid : Prop := ikeyBackUptoRow.holds Try.pinned (OpenSpec.upto ikeyBackSpec)

/-- 'assartlaw05.IkeyParts', WHERE WHAT IT READS IS OF BULK AT MOST 1048576: true; the input reads as it did. -/
def ikeyPartsUptoRow : OpenClaim := { program := "ytaeilfpaaogllaa", sum := "0bd89f118437e126e1cf2055acca4fc5a0804f8ce061790213b11e626f63305a", func := "assart/assartlaw05.IkeyParts", spec := "ikeyParts", apart := false, narrowed := true }
def IkeyPartsUptoSaid : Prop := ikeyPartsUptoRow.holds Try.pinned (OpenSpec.upto ikeyPartsSpec)

/-- 'assartlaw05.IkeyBetween', WHERE WHAT IT READS IS OF BULK AT MOST 1048576: true; the input reads as it did. -/
def ikeyBetweenUptoRow : OpenClaim := { program := "ytaeilfpaaogllaa", sum := "0bd89f118437e126e1cf2055acca4fc5a0804f8ce061790213b11e626f63305a", func := "assart/assartlaw05.IkeyBetween", spec := "ikeyBetween", apart := false, narrowed := true }
def IkeyBetweenUptoSaid : Prop := ikeyBetweenUptoRow.holds Try.pinned (OpenSpec.upto ikeyBetweenSpec)

/-- 'assartlaw05.IkeyTwins', WHERE WHAT IT READS IS OF BULK AT MOST 1048576: true; the input reads as it did. -/
def ikeyTwinsUptoRow : OpenClaim := { program := "ytaeilfpaaogllaa", sum := "0bd89f118437e126e1cf2055acca4fc5a0804f8ce061790213b11e626f63305a", func := "assart/assartlaw05.IkeyTwins", spec := "ikeyTwins", apart := false, narrowed := true }
def IkeyTwinsUptoSaid : Prop := ikeyTwinsUptoRow.holds Try.pinned (OpenSpec.upto ikeyTwinsSpec)

end Rows
end Go.Proofs.Ytaeilfpaaogllaa
