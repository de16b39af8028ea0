/-
  NARROWER THAN 'FOR EVERY INPUT', by the rows' own cells (each row's printed sentence says how): TmplTells: laid · TmplBack: laid.
  DERIVED. THE GIVEN ROWS OF THIS SEAT. 2 by the template 'for every input the law returns true; each argument reads behind the call as it read before'; 0 by the template 'total and deterministic' (their statements: YtekfbnhicmfaaaaDoorTotals.lean).
  GIVEN WITH THE SEED: the statements are not yours to turn. If you find one false, say at which input.
  Laid BY PROGRAM, IN A SANDBOX (cutbox-rows.mjs): the forced cells as the released guide's own fill.sh prints them over the translation f917d71f3d484e8e… (all of the seat's roots in one cut). By AI agents, Wed Nov 11 2026. No macro, syntax, notation, axiom, sorry.
-/
import Derived.Test.YtekfbnhicmfaaaaDoorChecked
import GoSem.PinnedTables
import GoSem.Claim
import GoSem.ClaimJoined
import GoSem.ClaimMapViews
import Derived.JoinedTies
import Derived.KernelRfl
namespace Go.Proofs.YtekfbnhicmfaaaaDoor
/- THE CELL 'sum', in the pinned program and in every row, IS THE sha256 OF THE DUMP (.gsa) THAT YtekfbnhicmfaaaaDoorProg.lean LOADS. Nothing in Lean hashes anything: it is a label: what it is worth is what the hold of that sum in a sandbox is worth. -/
noncomputable def Tryd.pinned : Pinned := { name := "ytekfbnhicmfaaaadoor", sum := "f917d71f3d484e8e0af43801a677de703de36ddf8a55fbefe85082b76724af34", checked := Tryd.checked }
namespace Rows
def none {H : Type} : Left H := { results := [], args := [] }

/- WHAT THE LISTED PACKAGE-LEVEL VARIABLES READ AS WHEN THE CALL BEGINS. Each datum BY PROGRAM (the guide's laid-datum.mjs) off the statement by which the dump's own 'gosem.cut.vars' lays the variable. In a bare row this is a premise. The card (YtekfbnhicmfaaaaDoorCards.lean) ties it to the program's text. -/
def laid_unicode_utf8_acceptRanges {H : Type} : DataW H := .agg [.agg [.lit (.int .u8 128), .lit (.int .u8 191)], .agg [.lit (.int .u8 160), .lit (.int .u8 191)], .agg [.lit (.int .u8 128), .lit (.int .u8 159)], .agg [.lit (.int .u8 144), .lit (.int .u8 191)], .agg [.lit (.int .u8 128), .lit (.int .u8 143)], .agg [.lit (.int .u8 0), .lit (.int .u8 0)], .agg [.lit (.int .u8 0), .lit (.int .u8 0)], .agg [.lit (.int .u8 0), .lit (.int .u8 0)], .agg [.lit (.int .u8 0), .lit (.int .u8 0)], .agg [.lit (.int .u8 0), .lit (.int .u8 0)], .agg [.lit (.int .u8 0), .lit (.int .u8 0)], .agg [.lit (.int .u8 0), .lit (.int .u8 0)], .agg [.lit (.int .u8 0), .lit (.int .u8 0)], .agg [.lit (.int .u8 0), .lit (.int .u8 0)], .agg [.lit (.int .u8 0), .lit (.int .u8 0)], .agg [.lit (.int .u8 0), .lit (.int .u8 0)]]
def laid_longshore_tmpl_operators {H : Type} : DataW H := .agg [.lit (.string []), .lit (.string []), .lit (.string [58, 45]), .lit (.string [45]), .lit (.string [58, 63]), .lit (.string [63]), .lit (.string [58, 43]), .lit (.string [43])]
/-- One of Go's own tables, pinned by name: the form's constant. -/
def laid_unicode_utf8_first : DataW Unit := Go.Pinned.utf8First

/-- 'longshorelaw13.TmplTells': WHATEVER THE INPUT: true; the input reads as it did. -/
def tmplTellsSpec : ChangeSpec := { name := "tmplTells", fn := fun _ => fun
  | [d] => { results := [.lit (.bool true)], args := [d] }
  | _ => none }
def tmplTellsRow : OpenClaim := { program := "ytekfbnhicmfaaaadoor", sum := "f917d71f3d484e8e0af43801a677de703de36ddf8a55fbefe85082b76724af34", func := "longshore/longshorelaw13.TmplTells", spec := "tmplTells", inPlace := ["internal/bytealg.CountString", "internal/bytealg.IndexByteString", "internal/bytealg.IndexString", "internal/abi.NoEscape", "internal/bytealg.MakeNoZero"], unfollowed := true, recurses := true, named := ["longshore/tmpl.operators", "internal/bytealg.MaxLen", "unicode/utf8.first", "unicode/utf8.acceptRanges"], apart := false, laid := [("unicode/utf8.acceptRanges", laid_unicode_utf8_acceptRanges), ("longshore/tmpl.operators", laid_longshore_tmpl_operators), ("unicode/utf8.first", laid_unicode_utf8_first)] }
def TmplTellsSaid : Prop := tmplTellsRow.holds Tryd.pinned (OpenSpec.ofChange tmplTellsSpec)

/-- ITS FALSE NEIGHBOUR: 'it returns false'. Refute it at one input. -/
def tmplTellsWrong : ChangeSpec := { name := "tmplTells", fn := fun _ => fun
  | [d] => { results := [.lit (.bool false)], args := [d] }
  | _ => none }
def TmplTellsWrongFalsely : Prop := tmplTellsRow.holds Tryd.pinned (OpenSpec.ofChange tmplTellsWrong)

/-- 'longshorelaw13.TmplBack': WHATEVER THE INPUT: true; the input reads as it did. -/
def tmplBackSpec : ChangeSpec := { name := "tmplBack", fn := fun _ => fun
  | [d1, d2] => { results := [.lit (.bool true)], args := [d1, d2] }
  | _ => none }
def tmplBackRow : OpenClaim := { program := "ytekfbnhicmfaaaadoor", sum := "f917d71f3d484e8e0af43801a677de703de36ddf8a55fbefe85082b76724af34", func := "longshore/longshorelaw13.TmplBack", spec := "tmplBack", inPlace := ["internal/bytealg.CountString", "internal/bytealg.IndexByteString", "internal/bytealg.IndexString", "internal/abi.NoEscape", "internal/bytealg.MakeNoZero"], unfollowed := true, recurses := true, named := ["longshore/tmpl.operators", "internal/bytealg.MaxLen", "unicode/utf8.first", "unicode/utf8.acceptRanges"], apart := false, laid := [("unicode/utf8.acceptRanges", laid_unicode_utf8_acceptRanges), ("longshore/tmpl.operators", laid_longshore_tmpl_operators), ("unicode/utf8.first", laid_unicode_utf8_first)] }
def TmplBackSaid : Prop := tmplBackRow.holds Tryd.pinned (OpenSpec.ofChange tmplBackSpec)

/-- ITS FALSE NEIGHBOUR: 'it returns false'. Refute it at one input. -/
def tmplBackWrong : ChangeSpec := { name := "tmplBack", fn := fun _ => fun
  | [d1, d2] => { results := [.lit (.bool false)], args := [d1, d2] }
  | _ => none }
def TmplBackWrongFalsely : Prop := tmplBackRow.holds Tryd.pinned (OpenSpec.ofChange tmplBackWrong)

/- THE SECOND FORM. 'bulk': how many values and letters a reading holds, each counted each time it is reached (what is shared counts as often as it is met; a slice's spare places count too). A statement '..UptoSaid' is the law's where the arguments, and the package variables that the reading takes, are together of bulk at most 1048576: NARROWER than '..Said'. Prove '..Said' where nothing that the law and all that it calls make is longer than what came in: it says more and counts as full. Else prove '..UptoSaid'. A law counts once. -/
mutual
def uptoBulk {H : Type} : DataW H → Nat
  | .lit (.string bytes) => bytes.length + 1
  | .lit _ => 1
  | .nil => 1
  | .ptr d => uptoBulk d + 1
  | .slice elems spare => uptoBulkAll elems + uptoBulkAll spare + 1
  | .agg parts => uptoBulkAll parts + 1
  | .iface _ d => uptoBulk d + 1
  | .map entries => uptoBulkEntries entries + 1
  | .held _ => 1
def uptoBulkAll {H : Type} : List (DataW H) → Nat
  | [] => 0
  | d :: r => uptoBulk d + uptoBulkAll r
def uptoBulkEntries {H : Type} : List (Lit × DataW H) → Nat
  | [] => 0
  | x :: r => uptoBulkEntry x + uptoBulkEntries r
def uptoBulkEntry {H : Type} : Lit × DataW H → Nat
  | (.string bytes, d) => bytes.length + uptoBulk d + 1
  | (_, d) => uptoBulk d + 1
 end
def uptoSmall : (H : Type) → List (DataW H) → Bool := fun _ ds => decide (uptoBulkAll ds ≤ 1048576)
def OpenSpec.upto (s : _root_.Go.ChangeSpec) : _root_.Go.OpenSpec := { _root_.Go.OpenSpec.ofChange s with cond := some uptoSmall }

/-- 'longshorelaw13.TmplTells', WHERE WHAT IT READS IS OF BULK AT MOST 1048576: true; the input reads as it did. -/
def tmplTellsUptoRow : OpenClaim := { program := "ytekfbnhicmfaaaadoor", sum := "f917d71f3d484e8e0af43801a677de703de36ddf8a55fbefe85082b76724af34", func := "longshore/longshorelaw13.TmplTells", spec := "tmplTells", inPlace := ["internal/bytealg.CountString", "internal/bytealg.IndexByteString", "internal/bytealg.IndexString", "internal/abi.NoEscape", "internal/bytealg.MakeNoZero"], unfollowed := true, recurses := true, named := ["longshore/tmpl.operators", "internal/bytealg.MaxLen", "unicode/utf8.first", "unicode/utf8.acceptRanges"], apart := false, laid := [("unicode/utf8.acceptRanges", laid_unicode_utf8_acceptRanges), ("longshore/tmpl.operators", laid_longshore_tmpl_operators), ("unicode/utf8.first", laid_unicode_utf8_first)], narrowed := true }
def TmplTellsUptoSaid : Prop := tmplTellsUptoRow.holds Tryd.pinned (OpenSpec.upto tmplTellsSpec)

/-- 'longshorelaw13.TmplBack', WHERE WHAT IT READS IS OF BULK AT MOST 1048576: true; the input reads as it did. -/
def tmplBackUptoRow : OpenClaim := { program := "ytekfbnhicmfaaaadoor", sum := "f917d71f3d484e8e0af43801a677de703de36ddf8a55fbefe85082b76724af34", func := "longshore/longshorelaw13.TmplBack", spec := "tmplBack", inPlace := ["internal/bytealg.CountString", "internal/bytealg.IndexByteString", "internal/bytealg.IndexString", "internal/abi.NoEscape", "internal/bytealg.MakeNoZero"], unfollowed := true, recurses := true, named := ["longshore/tmpl.operators", "internal/bytealg.MaxLen", "unicode/utf8.first", "unicode/utf8.acceptRanges"], apart := false, laid := [("unicode/utf8.acceptRanges", laid_unicode_utf8_acceptRanges), ("longshore/tmpl.operators", laid_longshore_tmpl_operators), ("unicode/utf8.first", laid_unicode_utf8_first)], narrowed := true }
def TmplBackUptoSaid : Prop := tmplBackUptoRow.holds Tryd.pinned (OpenSpec.upto tmplBackSpec)

end Rows
end Go.Proofs.YtekfbnhicmfaaaaDoor
