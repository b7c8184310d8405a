/-
  NARROWER THAN 'FOR EVERY INPUT', by the rows' own cells (each row's printed sentence says how): FrameSums: laid · FrameSeals: laid · FrameScans: laid · FrameBack: laid · FrameCuts: laid · FrameSpoilt: laid · FrameUnlike: laid · FrameFirsts: laid.
  DERIVED. THE GIVEN ROWS OF THIS SEAT. 8 by the template 'for every input the law returns true; each argument reads behind the call as it read before'; 0 by the template 'total and deterministic' (their statements: YtpcmkjmkaggfbaaDoorTotals.lean).
  GIVEN WITH THE SEED: the statements are not yours to turn. If you find one false, say at which input.
  Laid BY PROGRAM, IN A SANDBOX (cutbox-rows.mjs): the forced cells as the released guide's own fill.sh prints them over the translation e54d925154855416… (all of the seat's roots in one cut). By AI agents, Wed Nov 11 2026. No macro, syntax, notation, axiom, sorry.
-/
import Derived.Test.YtpcmkjmkaggfbaaDoorChecked
import GoSem.Claim
import GoSem.ClaimJoined
import GoSem.ClaimMapViews
import Derived.JoinedTies
import Derived.KernelRfl
namespace Go.Proofs.YtpcmkjmkaggfbaaDoor
/- THE CELL 'sum', in the pinned program and in every row, IS THE sha256 OF THE DUMP (.gsa) THAT YtpcmkjmkaggfbaaDoorProg.lean LOADS. Nothing in Lean hashes anything: it is a label: what it is worth is what the hold of that sum in a sandbox is worth. -/
noncomputable def Tryd.pinned : Pinned := { name := "ytpcmkjmkaggfbaadoor", sum := "e54d925154855416c5df9e0a6dd5e96cbff64814d7bcc3921f583b525f4bd552", checked := Tryd.checked }
namespace Rows
def none {H : Type} : Left H := { results := [], args := [] }

/- WHAT THE LISTED PACKAGE-LEVEL VARIABLES READ AS WHEN THE CALL BEGINS. Each datum BY PROGRAM (the guide's laid-datum.mjs) off the statement by which the dump's own 'gosem.cut.vars' lays the variable. In a bare row this is a premise. The card (YtpcmkjmkaggfbaaDoorCards.lean) ties it to the program's text. -/
def laid_hanse_frame_shifted {H : Type} : DataW H := .agg [.lit (.int .u32 0), .lit (.int .u32 274646895), .lit (.int .u32 549293790), .lit (.int .u32 820201905), .lit (.int .u32 1098587580), .lit (.int .u32 1361435347), .lit (.int .u32 1640403810), .lit (.int .u32 1905808397), .lit (.int .u32 2197175160), .lit (.int .u32 2460548119), .lit (.int .u32 2722870694), .lit (.int .u32 2987750089), .lit (.int .u32 3280807620), .lit (.int .u32 3553878443), .lit (.int .u32 3811616794), .lit (.int .u32 4084100981)]

/-- 'hanselaw04.FrameSums': WHATEVER THE INPUT: true; the input reads as it did. -/
def frameSumsSpec : ChangeSpec := { name := "frameSums", fn := fun _ => fun
  | [d] => { results := [.lit (.bool true)], args := [d] }
  | _ => none }
def frameSumsRow : OpenClaim := { program := "ytpcmkjmkaggfbaadoor", sum := "e54d925154855416c5df9e0a6dd5e96cbff64814d7bcc3921f583b525f4bd552", func := "hanse/hanselaw04.FrameSums", spec := "frameSums", named := ["hanse/frame.shifted"], apart := false, laid := [("hanse/frame.shifted", laid_hanse_frame_shifted)] }
def FrameSumsSaid : Prop := frameSumsRow.holds Tryd.pinned (OpenSpec.ofChange frameSumsSpec)

/-- ITS FALSE NEIGHBOUR: 'it returns false'. Refute it at one input. -/
def frameSumsWrong : ChangeSpec := { name := "frameSums", fn := fun _ => fun
  | [d] => { results := [.lit (.bool false)], args := [d] }
  | _ => none }
def FrameSumsWrongFalsely : Prop := frameSumsRow.holds Tryd.pinned (OpenSpec.ofChange frameSumsWrong)

/-- 'hanselaw04.FrameSeals': WHATEVER THE INPUT: true; the input reads as it did. -/
def frameSealsSpec : ChangeSpec := { name := "frameSeals", fn := fun _ => fun
  | [d1, d2] => { results := [.lit (.bool true)], args := [d1, d2] }
  | _ => none }
def frameSealsRow : OpenClaim := { program := "ytpcmkjmkaggfbaadoor", sum := "e54d925154855416c5df9e0a6dd5e96cbff64814d7bcc3921f583b525f4bd552", func := "hanse/hanselaw04.FrameSeals", spec := "frameSeals", named := ["hanse/frame.shifted"], apart := false, laid := [("hanse/frame.shifted", laid_hanse_frame_shifted)] }
def FrameSealsSaid : Prop := frameSealsRow.holds Tryd.pinned (OpenSpec.ofChange frameSealsSpec)

/-- ITS FALSE NEIGHBOUR: 'it returns false'. Refute it at one input. -/
def frameSealsWrong : ChangeSpec := { name := "frameSeals", fn := fun _ => fun
  | [d1, d2] => { results := [.lit (.bool false)], args := [d1, d2] }
  | _ => none }
def FrameSealsWrongFalsely : Prop := frameSealsRow.holds Tryd.pinned (OpenSpec.ofChange frameSealsWrong)

/-- 'hanselaw04.FrameScans': WHATEVER THE INPUT: true; the input reads as it did. -/
def frameScansSpec : ChangeSpec := { name := "frameScans", fn := fun _ => fun
  | [d] => { results := [.lit (.bool true)], args := [d] }
  | _ => none }
def frameScansRow : OpenClaim := { program := "ytpcmkjmkaggfbaadoor", sum := "e54d925154855416c5df9e0a6dd5e96cbff64814d7bcc3921f583b525f4bd552", func := "hanse/hanselaw04.FrameScans", spec := "frameScans", named := ["hanse/frame.shifted"], apart := false, laid := [("hanse/frame.shifted", laid_hanse_frame_shifted)] }
def FrameScansSaid : Prop := frameScansRow.holds Tryd.pinned (OpenSpec.ofChange frameScansSpec)

/-- ITS FALSE NEIGHBOUR: 'it returns false'. Refute it at one input. -/
def frameScansWrong : ChangeSpec := { name := "frameScans", fn := fun _ => fun
  | [d] => { results := [.lit (.bool false)], args := [d] }
  | _ => none }
def FrameScansWrongFalsely : Prop := frameScansRow.holds Tryd.pinned (OpenSpec.ofChange frameScansWrong)

/-- 'hanselaw04.FrameBack': WHATEVER THE INPUT: true; the input reads as it did. -/
def frameBackSpec : ChangeSpec := { name := "frameBack", fn := fun _ => fun
  | [d1, d2] => { results := [.lit (.bool true)], args := [d1, d2] }
  | _ => none }
def frameBackRow : OpenClaim := { program := "ytpcmkjmkaggfbaadoor", sum := "e54d925154855416c5df9e0a6dd5e96cbff64814d7bcc3921f583b525f4bd552", func := "hanse/hanselaw04.FrameBack", spec := "frameBack", named := ["hanse/frame.shifted"], apart := false, laid := [("hanse/frame.shifted", laid_hanse_frame_shifted)] }
def FrameBackSaid : Prop := frameBackRow.holds Tryd.pinned (OpenSpec.ofChange frameBackSpec)

/-- ITS FALSE NEIGHBOUR: 'it returns false'. Refute it at one input. -/
def frameBackWrong : ChangeSpec := { name := "frameBack", fn := fun _ => fun
  | [d1, d2] => { results := [.lit (.bool false)], args := [d1, d2] }
  | _ => none }
def FrameBackWrongFalsely : Prop := frameBackRow.holds Tryd.pinned (OpenSpec.ofChange frameBackWrong)

/-- 'hanselaw04.FrameCuts': WHATEVER THE INPUT: true; the input reads as it did. -/
def frameCutsSpec : ChangeSpec := { name := "frameCuts", fn := fun _ => fun
  | [d1, d2] => { results := [.lit (.bool true)], args := [d1, d2] }
  | _ => none }
def frameCutsRow : OpenClaim := { program := "ytpcmkjmkaggfbaadoor", sum := "e54d925154855416c5df9e0a6dd5e96cbff64814d7bcc3921f583b525f4bd552", func := "hanse/hanselaw04.FrameCuts", spec := "frameCuts", named := ["hanse/frame.shifted"], apart := false, laid := [("hanse/frame.shifted", laid_hanse_frame_shifted)] }
def FrameCutsSaid : Prop := frameCutsRow.holds Tryd.pinned (OpenSpec.ofChange frameCutsSpec)

/-- ITS FALSE NEIGHBOUR: 'it returns false'. Refute it at one input. -/
def frameCutsWrong : ChangeSpec := { name := "frameCuts", fn := fun _ => fun
  | [d1, d2] => { results := [.lit (.bool false)], args := [d1, d2] }
  | _ => none }
def FrameCutsWrongFalsely : Prop := frameCutsRow.holds Tryd.pinned (OpenSpec.ofChange frameCutsWrong)

/-- 'hanselaw04.FrameSpoilt': WHATEVER THE INPUT: true; the input reads as it did. -/
def frameSpoiltSpec : ChangeSpec := { name := "frameSpoilt", fn := fun _ => fun
  | [d1, d2, d3] => { results := [.lit (.bool true)], args := [d1, d2, d3] }
  | _ => none }
def frameSpoiltRow : OpenClaim := { program := "ytpcmkjmkaggfbaadoor", sum := "e54d925154855416c5df9e0a6dd5e96cbff64814d7bcc3921f583b525f4bd552", func := "hanse/hanselaw04.FrameSpoilt", spec := "frameSpoilt", named := ["hanse/frame.shifted"], apart := false, laid := [("hanse/frame.shifted", laid_hanse_frame_shifted)] }
def FrameSpoiltSaid : Prop := frameSpoiltRow.holds Tryd.pinned (OpenSpec.ofChange frameSpoiltSpec)

/-- ITS FALSE NEIGHBOUR: 'it returns false'. Refute it at one input. -/
def frameSpoiltWrong : ChangeSpec := { name := "frameSpoilt", fn := fun _ => fun
  | [d1, d2, d3] => { results := [.lit (.bool false)], args := [d1, d2, d3] }
  | _ => none }
def FrameSpoiltWrongFalsely : Prop := frameSpoiltRow.holds Tryd.pinned (OpenSpec.ofChange frameSpoiltWrong)

/-- 'hanselaw04.FrameUnlike': WHATEVER THE INPUT: true; the input reads as it did. -/
def frameUnlikeSpec : ChangeSpec := { name := "frameUnlike", fn := fun _ => fun
  | [d1, d2] => { results := [.lit (.bool true)], args := [d1, d2] }
  | _ => none }
def frameUnlikeRow : OpenClaim := { program := "ytpcmkjmkaggfbaadoor", sum := "e54d925154855416c5df9e0a6dd5e96cbff64814d7bcc3921f583b525f4bd552", func := "hanse/hanselaw04.FrameUnlike", spec := "frameUnlike", named := ["hanse/frame.shifted"], apart := false, laid := [("hanse/frame.shifted", laid_hanse_frame_shifted)] }
def FrameUnlikeSaid : Prop := frameUnlikeRow.holds Tryd.pinned (OpenSpec.ofChange frameUnlikeSpec)

/-- ITS FALSE NEIGHBOUR: 'it returns false'. Refute it at one input. -/
def frameUnlikeWrong : ChangeSpec := { name := "frameUnlike", fn := fun _ => fun
  | [d1, d2] => { results := [.lit (.bool false)], args := [d1, d2] }
  | _ => none }
def FrameUnlikeWrongFalsely : Prop := frameUnlikeRow.holds Tryd.pinned (OpenSpec.ofChange frameUnlikeWrong)

/-- 'hanselaw04.FrameFirsts': WHATEVER THE INPUT: true; the input reads as it did. -/
def frameFirstsSpec : ChangeSpec := { name := "frameFirsts", fn := fun _ => fun
  | [d] => { results := [.lit (.bool true)], args := [d] }
  | _ => none }
def frameFirstsRow : OpenClaim := { program := "ytpcmkjmkaggfbaadoor", sum := "e54d925154855416c5df9e0a6dd5e96cbff64814d7bcc3921f583b525f4bd552", func := "hanse/hanselaw04.FrameFirsts", spec := "frameFirsts", named := ["hanse/frame.shifted"], apart := false, laid := [("hanse/frame.shifted", laid_hanse_frame_shifted)] }
def FrameFirstsSaid : Prop := frameFirstsRow.holds Tryd.pinned (OpenSpec.ofChange frameFirstsSpec)

/-- ITS FALSE NEIGHBOUR: 'it returns false'. Refute it at one input. -/
def frameFirstsWrong : ChangeSpec := { name := "frameFirsts", fn := fun _ => fun
  | [d] => { results := [.lit (.bool false)], args := [d] }
  | _ => none }
def FrameFirstsWrongFalsely : Prop := frameFirstsRow.holds Tryd.pinned (OpenSpec.ofChange frameFirstsWrong)

/- THE SECOND FORM. 'bulk': how many values and letters a reading holds, each counted each time it is reached (what is shared counts as often as it is met; a slice's spare places count too). A statement '..UptoSaid' is the law's where the arguments, and the package variables that the reading takes, are together of bulk at most 1048576: NARROWER than '..Said'. Prove '..Said' where nothing that the law and all that it calls make is longer than what came in: it says more and counts as full. Else prove '..UptoSaid'. A law counts once. -/
mutual
def uptoBulk {H : Type} : DataW H → Nat
  | .lit (.string bytes) => bytes.length + 1
  | .lit _ => 1
  | .nil => 1
  | .ptr d => uptoBulk d + 1
  | .slice elems spare => uptoBulkAll elems + uptoBulkAll spare + 1
  | .agg parts => uptoBulkAll parts + 1
  | .iface _ d => uptoBulk d + 1
  | .map entries => uptoBulkEntries entries + 1
  | .held _ => 1
def uptoBulkAll {H : Type} : List (DataW H) → Nat
  | [] => 0
  | d :: r => uptoBulk d + uptoBulkAll r
def uptoBulkEntries {H : Type} : List (Lit × DataW H) → Nat
  | [] => 0
  | x :: r => uptoBulkEntry x + uptoBulkEntries r
def uptoBulkEntry {H : Type} : Lit × DataW H → Nat
  | (.string bytes, d) => bytes.length + uptoBulk d + 1
  | (_, d) => uptoBulk d + 1
 end
def uptoSmall : (H : Type) → List (DataW H) → Bool := fun _ ds => decide (uptoBulkAll ds ≤ 1048576)
def OpenSpec.upto (s : _root_.Go.ChangeSpec) : _root_.Go.OpenSpec := { _root_.Go.OpenSpec.ofChange s with cond := some uptoSmall }

/-- 'hanselaw04.FrameSums', WHERE WHAT IT READS IS OF BULK AT MOST 1048576: true; the input reads as it did. -/
def frameSumsUptoRow : OpenClaim := { program := "ytpcmkjmkaggfbaadoor", sum := "e54d925154855416c5df9e0a6dd5e96cbff64814d7bcc3921f583b525f4bd552", func := "hanse/hanselaw04.FrameSums", spec := "frameSums", named := ["hanse/frame.shifted"], apart := false, laid := [("hanse/frame.shifted", laid_hanse_frame_shifted)], narrowed := true }
def FrameSumsUptoSaid : Prop := frameSumsUptoRow.holds Tryd.pinned (OpenSpec.upto frameSumsSpec)

/-- 'hanselaw04.FrameSeals', WHERE WHAT IT READS IS OF BULK AT MOST 1048576: true; the input reads as it did. -/
def frameSealsUptoRow : OpenClaim := { program := "ytpcmkjmkaggfbaadoor", sum := "e54d925154855416c5df9e0a6dd5e96cbff64814d7bcc3921f583b525f4bd552", func := "hanse/hanselaw04.FrameSeals", spec := "frameSeals", named := ["hanse/frame.shifted"], apart := false, laid := [("hanse/frame.shifted", laid_hanse_frame_shifted)], narrowed := true }
def FrameSealsUptoSaid : Prop := frameSealsUptoRow.holds Tryd.pinned (OpenSpec.upto frameSealsSpec)

/-- 'hanselaw04.FrameScans', WHERE WHAT IT READS IS OF BULK AT MOST 1048576: true; the input reads as it did. -/
def frameScansUptoRow : OpenClaim := { program := "ytpcmkjmkaggfbaadoor", sum := "e54d925154855416c5df9e0a6dd5e96cbff64814d7bcc3921f583b525f4bd552", func := "hanse/hanselaw04.FrameScans", spec := "frameScans", named := ["hanse/frame.shifted"], apart := false, laid := [("hanse/frame.shifted", laid_hanse_frame_shifted)], narrowed := true }
def FrameScansUptoSaid : Prop := frameScansUptoRow.holds Tryd.pinned (OpenSpec.upto frameScansSpec)

/-- 'hanselaw04.FrameBack', WHERE WHAT IT READS IS OF BULK AT MOST 1048576: true; the input reads as it did. -/
def frameBackUptoRow : OpenClaim := { program := "ytpcmkjmkaggfbaadoor", sum := "e54d925154855416c5df9e0a6dd5e96cbff64814d7bcc3921f583b525f4bd552", func := "hanse/hanselaw04.FrameBack", spec := "frameBack", named := ["hanse/frame.shifted"], apart := false, laid := [("hanse/frame.shifted", laid_hanse_frame_shifted)], narrowed := true }
def FrameBackUptoSaid : Prop := frameBackUptoRow.holds Tryd.pinned (OpenSpec.upto frameBackSpec)

/-- 'hanselaw04.FrameCuts', WHERE WHAT IT READS IS OF BULK AT MOST 1048576: true; the input reads as it did. -/
def frameCutsUptoRow : OpenClaim := { program := "ytpcmkjmkaggfbaadoor", sum := "e54d925154855416c5df9e0a6dd5e96cbff64814d7bcc3921f583b525f4bd552", func := "hanse/hanselaw04.FrameCuts", spec := "frameCuts", named := ["hanse/frame.shifted"], apart := false, laid := [("hanse/frame.shifted", laid_hanse_frame_shifted)], narrowed := true }
def FrameCutsUptoSaid : Prop := frameCutsUptoRow.holds Tryd.pinned (OpenSpec.upto frameCutsSpec)

/-- 'hanselaw04.FrameSpoilt', WHERE WHAT IT READS IS OF BULK AT MOST 1048576: true; the input reads as it did. -/
def frameSpoiltUptoRow : OpenClaim := { program := "ytpcmkjmkaggfbaadoor", sum := "e54d925154855416c5df9e0a6dd5e96cbff64814d7bcc3921f583b525f4bd552", func := "hanse/hanselaw04.FrameSpoilt", spec := "frameSpoilt", named := ["hanse/frame.shifted"], apart := false, laid := [("hanse/frame.shifted", laid_hanse_frame_shifted)], narrowed := true }
def FrameSpoiltUptoSaid : Prop := frameSpoiltUptoRow.holds Tryd.pinned (OpenSpec.upto frameSpoiltSpec)

/-- 'hanselaw04.FrameUnlike', WHERE WHAT IT READS IS OF BULK AT MOST 1048576: true; the input reads as it did. -/
def frameUnlikeUptoRow : OpenClaim := { program := "ytpcmkjmkaggfbaadoor", sum := "e54d925154855416c5df9e0a6dd5e96cbff64814d7bcc3921f583b525f4bd552", func := "hanse/hanselaw04.FrameUnlike", spec := "frameUnlike", named := ["hanse/frame.shifted"], apart := false, laid := [("hanse/frame.shifted", laid_hanse_frame_shifted)], narrowed := true }
def FrameUnlikeUptoSaid : Prop := frameUnlikeUptoRow.holds Tryd.pinned (OpenSpec.upto frameUnlikeSpec)

/-- 'hanselaw04.FrameFirsts', WHERE WHAT IT READS IS OF BULK AT MOST 1048576: true; the input reads as it did. -/
def frameFirstsUptoRow : OpenClaim := { program := "ytpcmkjmkaggfbaadoor", sum := "e54d925154855416c5df9e0a6dd5e96cbff64814d7bcc3921f583b525f4bd552", func := "hanse/hanselaw04.FrameFirsts", spec := "frameFirsts", named := ["hanse/frame.shifted"], apart := false, laid := [("hanse/frame.shifted", laid_hanse_frame_shifted)], narrowed := true }
def FrameFirstsUptoSaid : Prop := frameFirstsUptoRow.holds Tryd.pinned (OpenSpec.upto frameFirstsSpec)

end Rows
end Go.Proofs.YtpcmkjmkaggfbaaDoor
