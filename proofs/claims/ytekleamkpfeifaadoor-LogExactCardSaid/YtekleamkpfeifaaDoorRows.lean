/-
  NARROWER THAN 'FOR EVERY INPUT', by the rows' own cells (each row's printed sentence says how): LogExact: laid · LogLasts: laid · LogCompacts: laid · LogTorn: laid · LogLong: laid · LogOther: laid · LogTwice: laid.
  DERIVED. THE GIVEN ROWS OF THIS SEAT. 7 by the template 'for every input the law returns true; each argument reads behind the call as it read before'; 0 by the template 'total and deterministic' (their statements: YtekleamkpfeifaaDoorTotals.lean).
  GIVEN WITH THE SEED: the statements are not yours to turn. If you find one false, say at which input.
  Laid BY PROGRAM, IN A SANDBOX (cutbox-rows.mjs): the forced cells as the released guide's own fill.sh prints them over the translation 40d117ed66b618fb… (all of the seat's roots in one cut). By AI agents, Wed Nov 11 2026. No macro, syntax, notation, axiom, sorry.
-/
import Derived.Test.YtekleamkpfeifaaDoorChecked
import GoSem.Claim
import GoSem.ClaimJoined
import GoSem.ClaimMapViews
import Derived.JoinedTies
import Derived.KernelRfl
namespace Go.Proofs.YtekleamkpfeifaaDoor
/- THE CELL 'sum', in the pinned program and in every row, IS THE sha256 OF THE DUMP (.gsa) THAT YtekleamkpfeifaaDoorProg.lean LOADS. Nothing in Lean hashes anything: it is a label: what it is worth is what the hold of that sum in a sandbox is worth. -/
noncomputable def Tryd.pinned : Pinned := { name := "ytekleamkpfeifaadoor", sum := "40d117ed66b618fb7b0d5d47150fac8caeac86a47e88f6f1af461a4746caf9a6", checked := Tryd.checked }
namespace Rows
def none {H : Type} : Left H := { results := [], args := [] }

/- WHAT THE LISTED PACKAGE-LEVEL VARIABLES READ AS WHEN THE CALL BEGINS. Each datum BY PROGRAM (the guide's laid-datum.mjs) off the statement by which the dump's own 'gosem.cut.vars' lays the variable. In a bare row this is a premise. The card (YtekleamkpfeifaaDoorCards.lean) ties it to the program's text. -/
def laid_hanse_frame_shifted {H : Type} : DataW H := .agg [.lit (.int .u32 0), .lit (.int .u32 274646895), .lit (.int .u32 549293790), .lit (.int .u32 820201905), .lit (.int .u32 1098587580), .lit (.int .u32 1361435347), .lit (.int .u32 1640403810), .lit (.int .u32 1905808397), .lit (.int .u32 2197175160), .lit (.int .u32 2460548119), .lit (.int .u32 2722870694), .lit (.int .u32 2987750089), .lit (.int .u32 3280807620), .lit (.int .u32 3553878443), .lit (.int .u32 3811616794), .lit (.int .u32 4084100981)]

/-- 'hanselaw07.LogExact': WHATEVER THE INPUT: true; the input reads as it did. -/
def logExactSpec : ChangeSpec := { name := "logExact", fn := fun _ => fun
  | [d] => { results := [.lit (.bool true)], args := [d] }
  | _ => none }
def logExactRow : OpenClaim := { program := "ytekleamkpfeifaadoor", sum := "40d117ed66b618fb7b0d5d47150fac8caeac86a47e88f6f1af461a4746caf9a6", func := "hanse/hanselaw07.LogExact", spec := "logExact", named := ["hanse/frame.shifted"], apart := false, laid := [("hanse/frame.shifted", laid_hanse_frame_shifted)] }
def LogExactSaid : Prop := logExactRow.holds Tryd.pinned (OpenSpec.ofChange logExactSpec)

/-- ITS FALSE NEIGHBOUR: 'it returns false'. Refute it at one input. -/
def logExactWrong : ChangeSpec := { name := "logExact", fn := fun _ => fun
  | [d] => { results := [.lit (.bool false)], args := [d] }
  | _ => none }
def LogExactWrongFalsely : Prop := logExactRow.holds Tryd.pinned (OpenSpec.ofChange logExactWrong)

/-- 'hanselaw07.LogLasts': WHATEVER THE INPUT: true; the input reads as it did. -/
def logLastsSpec : ChangeSpec := { name := "logLasts", fn := fun _ => fun
  | [d1, d2, d3] => { results := [.lit (.bool true)], args := [d1, d2, d3] }
  | _ => none }
def logLastsRow : OpenClaim := { program := "ytekleamkpfeifaadoor", sum := "40d117ed66b618fb7b0d5d47150fac8caeac86a47e88f6f1af461a4746caf9a6", func := "hanse/hanselaw07.LogLasts", spec := "logLasts", named := ["hanse/frame.shifted"], apart := false, laid := [("hanse/frame.shifted", laid_hanse_frame_shifted)] }
def LogLastsSaid : Prop := logLastsRow.holds Tryd.pinned (OpenSpec.ofChange logLastsSpec)

/-- ITS FALSE NEIGHBOUR: 'it returns false'. Refute it at one input. -/
def logLastsWrong : ChangeSpec := { name := "logLasts", fn := fun _ => fun
  | [d1, d2, d3] => { results := [.lit (.bool false)], args := [d1, d2, d3] }
  | _ => none }
def LogLastsWrongFalsely : Prop := logLastsRow.holds Tryd.pinned (OpenSpec.ofChange logLastsWrong)

/-- 'hanselaw07.LogCompacts': WHATEVER THE INPUT: true; the input reads as it did. -/
def logCompactsSpec : ChangeSpec := { name := "logCompacts", fn := fun _ => fun
  | [d1, d2, d3, d4] => { results := [.lit (.bool true)], args := [d1, d2, d3, d4] }
  | _ => none }
def logCompactsRow : OpenClaim := { program := "ytekleamkpfeifaadoor", sum := "40d117ed66b618fb7b0d5d47150fac8caeac86a47e88f6f1af461a4746caf9a6", func := "hanse/hanselaw07.LogCompacts", spec := "logCompacts", named := ["hanse/frame.shifted"], apart := false, laid := [("hanse/frame.shifted", laid_hanse_frame_shifted)] }
def LogCompactsSaid : Prop := logCompactsRow.holds Tryd.pinned (OpenSpec.ofChange logCompactsSpec)

/-- ITS FALSE NEIGHBOUR: 'it returns false'. Refute it at one input. -/
def logCompactsWrong : ChangeSpec := { name := "logCompacts", fn := fun _ => fun
  | [d1, d2, d3, d4] => { results := [.lit (.bool false)], args := [d1, d2, d3, d4] }
  | _ => none }
def LogCompactsWrongFalsely : Prop := logCompactsRow.holds Tryd.pinned (OpenSpec.ofChange logCompactsWrong)

/-- 'hanselaw07.LogTorn': WHATEVER THE INPUT: true; the input reads as it did. -/
def logTornSpec : ChangeSpec := { name := "logTorn", fn := fun _ => fun
  | [d1, d2] => { results := [.lit (.bool true)], args := [d1, d2] }
  | _ => none }
def logTornRow : OpenClaim := { program := "ytekleamkpfeifaadoor", sum := "40d117ed66b618fb7b0d5d47150fac8caeac86a47e88f6f1af461a4746caf9a6", func := "hanse/hanselaw07.LogTorn", spec := "logTorn", named := ["hanse/frame.shifted"], apart := false, laid := [("hanse/frame.shifted", laid_hanse_frame_shifted)] }
def LogTornSaid : Prop := logTornRow.holds Tryd.pinned (OpenSpec.ofChange logTornSpec)

/-- ITS FALSE NEIGHBOUR: 'it returns false'. Refute it at one input. -/
def logTornWrong : ChangeSpec := { name := "logTorn", fn := fun _ => fun
  | [d1, d2] => { results := [.lit (.bool false)], args := [d1, d2] }
  | _ => none }
def LogTornWrongFalsely : Prop := logTornRow.holds Tryd.pinned (OpenSpec.ofChange logTornWrong)

/-- 'hanselaw07.LogLong': WHATEVER THE INPUT: true; the input reads as it did. -/
def logLongSpec : ChangeSpec := { name := "logLong", fn := fun _ => fun
  | [d1, d2] => { results := [.lit (.bool true)], args := [d1, d2] }
  | _ => none }
def logLongRow : OpenClaim := { program := "ytekleamkpfeifaadoor", sum := "40d117ed66b618fb7b0d5d47150fac8caeac86a47e88f6f1af461a4746caf9a6", func := "hanse/hanselaw07.LogLong", spec := "logLong", named := ["hanse/frame.shifted"], apart := false, laid := [("hanse/frame.shifted", laid_hanse_frame_shifted)] }
def LogLongSaid : Prop := logLongRow.holds Tryd.pinned (OpenSpec.ofChange logLongSpec)

/-- ITS FALSE NEIGHBOUR: 'it returns false'. Refute it at one input. -/
def logLongWrong : ChangeSpec := { name := "logLong", fn := fun _ => fun
  | [d1, d2] => { results := [.lit (.bool false)], args := [d1, d2] }
  | _ => none }
def LogLongWrongFalsely : Prop := logLongRow.holds Tryd.pinned (OpenSpec.ofChange logLongWrong)

/-- 'hanselaw07.LogOther': WHATEVER THE INPUT: true; the input reads as it did. -/
def logOtherSpec : ChangeSpec := { name := "logOther", fn := fun _ => fun
  | [d1, d2, d3] => { results := [.lit (.bool true)], args := [d1, d2, d3] }
  | _ => none }
def logOtherRow : OpenClaim := { program := "ytekleamkpfeifaadoor", sum := "40d117ed66b618fb7b0d5d47150fac8caeac86a47e88f6f1af461a4746caf9a6", func := "hanse/hanselaw07.LogOther", spec := "logOther", named := ["hanse/frame.shifted"], apart := false, laid := [("hanse/frame.shifted", laid_hanse_frame_shifted)] }
def LogOtherSaid : Prop := logOtherRow.holds Tryd.pinned (OpenSpec.ofChange logOtherSpec)

/-- ITS FALSE NEIGHBOUR: 'it returns false'. Refute it at one input. -/
def logOtherWrong : ChangeSpec := { name := "logOther", fn := fun _ => fun
  | [d1, d2, d3] => { results := [.lit (.bool false)], args := [d1, d2, d3] }
  | _ => none }
def LogOtherWrongFalsely : Prop := logOtherRow.holds Tryd.pinned (OpenSpec.ofChange logOtherWrong)

/-- 'hanselaw07.LogTwice': WHATEVER THE INPUT: true; the input reads as it did. -/
def logTwiceSpec : ChangeSpec := { name := "logTwice", fn := fun _ => fun
  | [d1, d2] => { results := [.lit (.bool true)], args := [d1, d2] }
  | _ => none }
def logTwiceRow : OpenClaim := { program := "ytekleamkpfeifaadoor", sum := "40d117ed66b618fb7b0d5d47150fac8caeac86a47e88f6f1af461a4746caf9a6", func := "hanse/hanselaw07.LogTwice", spec := "logTwice", named := ["hanse/frame.shifted"], apart := false, laid := [("hanse/frame.shifted", laid_hanse_frame_shifted)] }
def LogTwiceSaid : Prop := logTwiceRow.holds Tryd.pinned (OpenSpec.ofChange logTwiceSpec)

/-- ITS FALSE NEIGHBOUR: 'it returns false'. Refute it at one input. -/
def logTwiceWrong : ChangeSpec := { name := "logTwice", fn := fun _ => fun
  | [d1, d2] => { results := [.lit (.bool false)], args := [d1, d2] }
  | _ => none }
def LogTwiceWrongFalsely : Prop := logTwiceRow.holds Tryd.pinned (OpenSpec.ofChange logTwiceWrong)

/- THE SECOND FORM. 'bulk': how many values and letters a reading holds, each counted each time it is reached (what is shared counts as often as it is met; a slice's spare places count too). A statement '..UptoSaid' is the law's where the arguments, and the package variables that the reading takes, are together of bulk at most 1048576: NARROWER than '..Said'. Prove '..Said' where nothing that the law and all that it calls make is longer than what came in: it says more and counts as full. Else prove '..UptoSaid'. A law counts once. -/
mutual
def uptoBulk {H : Type} : DataW H → Nat
  | .lit (.string bytes) => bytes.length + 1
  | .lit _ => 1
  | .nil => 1
  | .ptr d => uptoBulk d + 1
  | .slice elems spare => uptoBulkAll elems + uptoBulkAll spare + 1
  | .agg parts => uptoBulkAll parts + 1
  | .iface _ d => uptoBulk d + 1
  | .map entries => uptoBulkEntries entries + 1
  | .held _ => 1
def uptoBulkAll {H : Type} : List (DataW H) → Nat
  | [] => 0
  | d :: r => uptoBulk d + uptoBulkAll r
def uptoBulkEntries {H : Type} : List (Lit × DataW H) → Nat
  | [] => 0
  | x :: r => uptoBulkEntry x + uptoBulkEntries r
def uptoBulkEntry {H : Type} : Lit × DataW H → Nat
  | (.string bytes, d) => bytes.length + uptoBulk d + 1
  | (_, d) => uptoBulk d + 1
 end
def uptoSmall : (H : Type) → List (DataW H) → Bool := fun _ ds => decide (uptoBulkAll ds ≤ 1048576)
def OpenSpec.upto (s : _root_.Go.ChangeSpec) : _root_.Go.OpenSpec := { _root_.Go.OpenSpec.ofChange s with cond := some uptoSmall }

/-- 'hanselaw07.LogExact', WHERE WHAT IT READS IS OF BULK AT MOST 1048576: true; the input reads as it did. -/
def logExactUptoRow : OpenClaim := { program := "ytekleamkpfeifaadoor", sum := "40d117ed66b618fb7b0d5d47150fac8caeac86a47e88f6f1af461a4746caf9a6", func := "hanse/hanselaw07.LogExact", spec := "logExact", named := ["hanse/frame.shifted"], apart := false, laid := [("hanse/frame.shifted", laid_hanse_frame_shifted)], narrowed := true }
def LogExactUptoSaid : Prop := logExactUptoRow.holds Tryd.pinned (OpenSpec.upto logExactSpec)

/-- 'hanselaw07.LogLasts', WHERE WHAT IT READS IS OF BULK AT MOST 1048576: true; the input reads as it did. -/
def logLastsUptoRow : OpenClaim := { program := "ytekleamkpfeifaadoor", sum := "40d117ed66b618fb7b0d5d47150fac8caeac86a47e88f6f1af461a4746caf9a6", func := "hanse/hanselaw07.LogLasts", spec := "logLasts", named := ["hanse/frame.shifted"], apart := false, laid := [("hanse/frame.shifted", laid_hanse_frame_shifted)], narrowed := true }
def LogLastsUptoSaid : Prop := logLastsUptoRow.holds Tryd.pinned (OpenSpec.upto logLastsSpec)

/-- 'hanselaw07.LogCompacts', WHERE WHAT IT READS IS OF BULK AT MOST 1048576: true; the input reads as it did. -/
def logCompactsUptoRow : OpenClaim := { program := "ytekleamkpfeifaadoor", sum := "40d117ed66b618fb7b0d5d47150fac8caeac86a47e88f6f1af461a4746caf9a6", func := "hanse/hanselaw07.LogCompacts", spec := "logCompacts", named := ["hanse/frame.shifted"], apart := false, laid := [("hanse/frame.shifted", laid_hanse_frame_shifted)], narrowed := true }
def LogCompactsUptoSaid : Prop := logCompactsUptoRow.holds Tryd.pinned (OpenSpec.upto logCompactsSpec)

/-- 'hanselaw07.LogTorn', WHERE WHAT IT READS IS OF BULK AT MOST 1048576: true; the input reads as it did. -/
def logTornUptoRow : OpenClaim := { program := "ytekleamkpfeifaadoor", sum := "40d117ed66b618fb7b0d5d47150fac8caeac86a47e88f6f1af461a4746caf9a6", func := "hanse/hanselaw07.LogTorn", spec := "logTorn", named := ["hanse/frame.shifted"], apart := false, laid := [("hanse/frame.shifted", laid_hanse_frame_shifted)], narrowed := true }
def LogTornUptoSaid : Prop := logTornUptoRow.holds Tryd.pinned (OpenSpec.upto logTornSpec)

/-- 'hanselaw07.LogLong', WHERE WHAT IT READS IS OF BULK AT MOST 1048576: true; the input reads as it did. -/
def logLongUptoRow : OpenClaim := { program := "ytekleamkpfeifaadoor", sum := "40d117ed66b618fb7b0d5d47150fac8caeac86a47e88f6f1af461a4746caf9a6", func := "hanse/hanselaw07.LogLong", spec := "logLong", named := ["hanse/frame.shifted"], apart := false, laid := [("hanse/frame.shifted", laid_hanse_frame_shifted)], narrowed := true }
def LogLongUptoSaid : Prop := logLongUptoRow.holds Tryd.pinned (OpenSpec.upto logLongSpec)

/-- 'hanselaw07.LogOther', WHERE WHAT IT READS IS OF BULK AT MOST 1048576: true; the input reads as it did. -/
def logOtherUptoRow : OpenClaim := { program := "ytekleamkpfeifaadoor", sum := "40d117ed66b618fb7b0d5d47150fac8caeac86a47e88f6f1af461a4746caf9a6", func := "hanse/hanselaw07.LogOther", spec := "logOther", named := ["hanse/frame.shifted"], apart := false, laid := [("hanse/frame.shifted", laid_hanse_frame_shifted)], narrowed := true }
def LogOtherUptoSaid : Prop := logOtherUptoRow.holds Tryd.pinned (OpenSpec.upto logOtherSpec)

/-- 'hanselaw07.LogTwice', WHERE WHAT IT READS IS OF BULK AT MOST 1048576: true; the input reads as it did. -/
def logTwiceUptoRow : OpenClaim := { program := "ytekleamkpfeifaadoor", sum := "40d117ed66b618fb7b0d5d47150fac8caeac86a47e88f6f1af461a4746caf9a6", func := "hanse/hanselaw07.LogTwice", spec := "logTwice", named := ["hanse/frame.shifted"], apart := false, laid := [("hanse/frame.shifted", laid_hanse_frame_shifted)], narrowed := true }
def LogTwiceUptoSaid : Prop := logTwiceUptoRow.holds Tryd.pinned (OpenSpec.upto logTwiceSpec)

end Rows
end Go.Proofs.YtekleamkpfeifaaDoor
