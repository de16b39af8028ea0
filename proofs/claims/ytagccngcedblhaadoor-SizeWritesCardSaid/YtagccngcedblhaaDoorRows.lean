/-
  NARROWER THAN 'FOR EVERY INPUT', by the rows' own cells (each row's printed sentence says how): SizeReads: laid · SizeWrites: laid · SizeBack: laid.
  DERIVED. THE GIVEN ROWS OF THIS SEAT. 3 by the template 'for every input the law returns true; each argument reads behind the call as it read before'; 0 by the template 'total and deterministic' (their statements: YtagccngcedblhaaDoorTotals.lean).
  GIVEN WITH THE SEED: the statements are not yours to turn. If you find one false, say at which input.
  Laid BY PROGRAM, IN A SANDBOX (cutbox-rows.mjs): the forced cells as the released guide's own fill.sh prints them over the translation 4504febfeec5f268… (all of the seat's roots in one cut). By AI agents, Wed Nov 11 2026. No macro, syntax, notation, axiom, sorry.
-/
import Derived.Test.YtagccngcedblhaaDoorChecked
import GoSem.PinnedTables
import GoSem.Claim
import GoSem.ClaimJoined
import GoSem.ClaimMapViews
import Derived.JoinedTies
import Derived.KernelRfl
namespace Go.Proofs.YtagccngcedblhaaDoor
/- THE CELL 'sum', in the pinned program and in every row, IS THE sha256 OF THE DUMP (.gsa) THAT YtagccngcedblhaaDoorProg.lean LOADS. Nothing in Lean hashes anything: it is a label: what it is worth is what the hold of that sum in a sandbox is worth. -/
noncomputable def Tryd.pinned : Pinned := { name := "ytagccngcedblhaadoor", sum := "4504febfeec5f268e19e7a79df169a1a1517b07b5a598b91d5f718a84cbb2653", checked := Tryd.checked }
namespace Rows
def none {H : Type} : Left H := { results := [], args := [] }

/- WHAT THE LISTED PACKAGE-LEVEL VARIABLES READ AS WHEN THE CALL BEGINS. Each datum BY PROGRAM (the guide's laid-datum.mjs) off the statement by which the dump's own 'gosem.cut.vars' lays the variable. In a bare row this is a premise. The card (YtagccngcedblhaaDoorCards.lean) ties it to the program's text. -/
def laid_unicode_utf8_acceptRanges {H : Type} : DataW H := .agg [.agg [.lit (.int .u8 128), .lit (.int .u8 191)], .agg [.lit (.int .u8 160), .lit (.int .u8 191)], .agg [.lit (.int .u8 128), .lit (.int .u8 159)], .agg [.lit (.int .u8 144), .lit (.int .u8 191)], .agg [.lit (.int .u8 128), .lit (.int .u8 143)], .agg [.lit (.int .u8 0), .lit (.int .u8 0)], .agg [.lit (.int .u8 0), .lit (.int .u8 0)], .agg [.lit (.int .u8 0), .lit (.int .u8 0)], .agg [.lit (.int .u8 0), .lit (.int .u8 0)], .agg [.lit (.int .u8 0), .lit (.int .u8 0)], .agg [.lit (.int .u8 0), .lit (.int .u8 0)], .agg [.lit (.int .u8 0), .lit (.int .u8 0)], .agg [.lit (.int .u8 0), .lit (.int .u8 0)], .agg [.lit (.int .u8 0), .lit (.int .u8 0)], .agg [.lit (.int .u8 0), .lit (.int .u8 0)], .agg [.lit (.int .u8 0), .lit (.int .u8 0)]]
def laid_longshore_size_letters {H : Type} : DataW H := .agg [.lit (.string []), .lit (.string [107]), .lit (.string [109]), .lit (.string [103])]
/-- One of Go's own tables, pinned by name: the form's constant. -/
def laid_unicode_utf8_first : DataW Unit := Go.Pinned.utf8First

/-- 'longshorelaw04.SizeReads': WHATEVER THE INPUT: true; the input reads as it did. -/
def sizeReadsSpec : ChangeSpec := { name := "sizeReads", fn := fun _ => fun
  | [d] => { results := [.lit (.bool true)], args := [d] }
  | _ => none }
def sizeReadsRow : OpenClaim := { program := "ytagccngcedblhaadoor", sum := "4504febfeec5f268e19e7a79df169a1a1517b07b5a598b91d5f718a84cbb2653", func := "longshore/longshorelaw04.SizeReads", spec := "sizeReads", inPlace := ["internal/bytealg.IndexByteString", "internal/bytealg.IndexString"], named := ["unicode/utf8.first", "unicode/utf8.acceptRanges", "longshore/size.letters", "internal/bytealg.MaxLen"], apart := false, laid := [("unicode/utf8.acceptRanges", laid_unicode_utf8_acceptRanges), ("longshore/size.letters", laid_longshore_size_letters), ("unicode/utf8.first", laid_unicode_utf8_first)] }
def SizeReadsSaid : Prop := sizeReadsRow.holds Tryd.pinned (OpenSpec.ofChange sizeReadsSpec)

/-- ITS FALSE NEIGHBOUR: 'it returns false'. Refute it at one input. -/
def sizeReadsWrong : ChangeSpec := { name := "sizeReads", fn := fun _ => fun
  | [d] => { results := [.lit (.bool false)], args := [d] }
  | _ => none }
def SizeReadsWrongFalsely : Prop := sizeReadsRow.holds Tryd.pinned (OpenSpec.ofChange sizeReadsWrong)

/-- 'longshorelaw04.SizeWrites': WHATEVER THE INPUT: true; the input reads as it did. -/
def sizeWritesSpec : ChangeSpec := { name := "sizeWrites", fn := fun _ => fun
  | [d] => { results := [.lit (.bool true)], args := [d] }
  | _ => none }
def sizeWritesRow : OpenClaim := { program := "ytagccngcedblhaadoor", sum := "4504febfeec5f268e19e7a79df169a1a1517b07b5a598b91d5f718a84cbb2653", func := "longshore/longshorelaw04.SizeWrites", spec := "sizeWrites", inPlace := ["internal/bytealg.IndexByteString", "internal/bytealg.IndexString"], named := ["longshore/size.letters", "unicode/utf8.first", "unicode/utf8.acceptRanges", "internal/bytealg.MaxLen"], apart := false, laid := [("unicode/utf8.acceptRanges", laid_unicode_utf8_acceptRanges), ("longshore/size.letters", laid_longshore_size_letters), ("unicode/utf8.first", laid_unicode_utf8_first)] }
def SizeWritesSaid : Prop := sizeWritesRow.holds Tryd.pinned (OpenSpec.ofChange sizeWritesSpec)

/-- ITS FALSE NEIGHBOUR: 'it returns false'. Refute it at one input. -/
def sizeWritesWrong : ChangeSpec := { name := "sizeWrites", fn := fun _ => fun
  | [d] => { results := [.lit (.bool false)], args := [d] }
  | _ => none }
def SizeWritesWrongFalsely : Prop := sizeWritesRow.holds Tryd.pinned (OpenSpec.ofChange sizeWritesWrong)

/-- 'longshorelaw04.SizeBack': WHATEVER THE INPUT: true; the input reads as it did. -/
def sizeBackSpec : ChangeSpec := { name := "sizeBack", fn := fun _ => fun
  | [d1, d2] => { results := [.lit (.bool true)], args := [d1, d2] }
  | _ => none }
def sizeBackRow : OpenClaim := { program := "ytagccngcedblhaadoor", sum := "4504febfeec5f268e19e7a79df169a1a1517b07b5a598b91d5f718a84cbb2653", func := "longshore/longshorelaw04.SizeBack", spec := "sizeBack", inPlace := ["internal/bytealg.IndexByteString", "internal/bytealg.IndexString"], named := ["unicode/utf8.first", "unicode/utf8.acceptRanges", "longshore/size.letters", "internal/bytealg.MaxLen"], apart := false, laid := [("unicode/utf8.acceptRanges", laid_unicode_utf8_acceptRanges), ("longshore/size.letters", laid_longshore_size_letters), ("unicode/utf8.first", laid_unicode_utf8_first)] }
def SizeBackSaid : Prop := sizeBackRow.holds Tryd.pinned (OpenSpec.ofChange sizeBackSpec)

/-- ITS FALSE NEIGHBOUR: 'it returns false'. Refute it at one input. -/
def sizeBackWrong : ChangeSpec := { name := "sizeBack", fn := fun _ => fun
  | [d1, d2] => { results := [.lit (.bool false)], args := [d1, d2] }
  | _ => none }
def SizeBackWrongFalsely : Prop := sizeBackRow.holds Tryd.pinned (OpenSpec.ofChange sizeBackWrong)

/- THE SECOND FORM. 'bulk': how many values and letters a reading holds, each counted each time it is reached (what is shared counts as often as it is met; a slice's spare places count too). A statement '..UptoSaid' is the law's where the arguments, and the package variables that the reading takes, are together of bulk at most 1048576: NARROWER than '..Said'. Prove '..Said' where nothing that the law and all that it calls make is longer than what came in: it says more and counts as full. Else prove '..UptoSaid'. A law counts once. -/
mutual
def uptoBulk {H : Type} : DataW H → Nat
  | .lit (.string bytes) => bytes.length + 1
  | .lit _ => 1
  | .nil => 1
  | .ptr d => uptoBulk d + 1
  | .slice elems spare => uptoBulkAll elems + uptoBulkAll spare + 1
  | .agg parts => uptoBulkAll parts + 1
  | .iface _ d => uptoBulk d + 1
  | .map entries => uptoBulkEntries entries + 1
  | .held _ => 1
def uptoBulkAll {H : Type} : List (DataW H) → Nat
  | [] => 0
  | d :: r => uptoBulk d + uptoBulkAll r
def uptoBulkEntries {H : Type} : List (Lit × DataW H) → Nat
  | [] => 0
  | x :: r => uptoBulkEntry x + uptoBulkEntries r
def uptoBulkEntry {H : Type} : Lit × DataW H → Nat
  | (.string bytes, d) => bytes.length + uptoBulk d + 1
  | (_, d) => uptoBulk d + 1
 end
def uptoSmall : (H : Type) → List (DataW H) → Bool := fun _ ds => decide (uptoBulkAll ds ≤ 1048576)
def OpenSpec.upto (s : _root_.Go.ChangeSpec) : _root_.Go.OpenSpec := { _root_.Go.OpenSpec.ofChange s with cond := some uptoSmall }

/-- 'longshorelaw04.SizeReads', WHERE WHAT IT READS IS OF BULK AT MOST 1048576: true; the input reads as it did. -/
def sizeReadsUptoRow : OpenClaim := { program := "ytagccngcedblhaadoor", sum := "4504febfeec5f268e19e7a79df169a1a1517b07b5a598b91d5f718a84cbb2653", func := "longshore/longshorelaw04.SizeReads", spec := "sizeReads", inPlace := ["internal/bytealg.IndexByteString", "internal/bytealg.IndexString"], named := ["unicode/utf8.first", "unicode/utf8.acceptRanges", "longshore/size.letters", "internal/bytealg.MaxLen"], apart := false, laid := [("unicode/utf8.acceptRanges", laid_unicode_utf8_acceptRanges), ("longshore/size.letters", laid_longshore_size_letters), ("unicode/utf8.first", laid_unicode_utf8_first)], narrowed := true }
def SizeReadsUptoSaid : Prop := sizeReadsUptoRow.holds Tryd.pinned (OpenSpec.upto sizeReadsSpec)

/-- 'longshorelaw04.SizeWrites', WHERE WHAT IT READS IS OF BULK AT MOST 1048576: true; the input reads as it did. -/
def sizeWritesUptoRow : OpenClaim := { program := "ytagccngcedblhaadoor", sum := "4504febfeec5f268e19e7a79df169a1a1517b07b5a598b91d5f718a84cbb2653", func := "longshore/longshorelaw04.SizeWrites", spec := "sizeWrites", inPlace := ["internal/bytealg.IndexByteString", "internal/bytealg.IndexString"], named := ["longshore/size.letters", "unicode/utf8.first", "unicode/utf8.acceptRanges", "internal/bytealg.MaxLen"], apart := false, laid := [("unicode/utf8.acceptRanges", laid_unicode_utf8_acceptRanges), ("longshore/size.letters", laid_longshore_size_letters), ("unicode/utf8.first", laid_unicode_utf8_first)], narrowed := true }
def SizeWritesUptoSaid : Prop := sizeWritesUptoRow.holds Tryd.pinned (OpenSpec.upto sizeWritesSpec)

/-- 'longshorelaw04.SizeBack', WHERE WHAT IT READS IS OF BULK AT MOST 1048576: true; the input reads as it did. -/
def sizeBackUptoRow : OpenClaim := { program := "ytagccngcedblhaadoor", sum := "4504febfeec5f268e19e7a79df169a1a1517b07b5a598b91d5f718a84cbb2653", func := "longshore/longshorelaw04.SizeBack", spec := "sizeBack", inPlace := ["internal/bytealg.IndexByteString", "internal/bytealg.IndexString"], named := ["unicode/utf8.first", "unicode/utf8.acceptRanges", "longshore/size.letters", "internal/bytealg.MaxLen"], apart := false, laid := [("unicode/utf8.acceptRanges", laid_unicode_utf8_acceptRanges), ("longshore/size.letters", laid_longshore_size_letters), ("unicode/utf8.first", laid_unicode_utf8_first)], narrowed := true }
def SizeBackUptoSaid : Prop := sizeBackUptoRow.holds Tryd.pinned (OpenSpec.upto sizeBackSpec)

end Rows
end Go.Proofs.YtagccngcedblhaaDoor
