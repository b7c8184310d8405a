/-
  NARROWER THAN 'FOR EVERY INPUT', by the rows' own cells (each row's printed sentence says how): LifeExact: laid · LifeWays: laid · LifeLeads: laid · LifeStarts: laid · LifeParts: laid · LifeReaches: laid.
  DERIVED. THE GIVEN ROWS OF THIS SEAT. 6 by the template 'for every input the law returns true; each argument reads behind the call as it read before'; 0 by the template 'total and deterministic' (their statements: YtmaoemedodpebaaDoorTotals.lean).
  GIVEN WITH THE SEED: the statements are not yours to turn. If you find one false, say at which input.
  Laid BY PROGRAM, IN A SANDBOX (cutbox-rows.mjs): the forced cells as the released guide's own fill.sh prints them over the translation a97c728c8c7d4e32… (all of the seat's roots in one cut). By AI agents, Wed Nov 11 2026. No macro, syntax, notation, axiom, sorry.
-/
import Derived.Test.YtmaoemedodpebaaDoorChecked
import GoSem.Claim
import GoSem.ClaimJoined
import GoSem.ClaimMapViews
import Derived.JoinedTies
import Derived.KernelRfl
namespace Go.Proofs.YtmaoemedodpebaaDoor
/- THE CELL 'sum', in the pinned program and in every row, IS THE sha256 OF THE DUMP (.gsa) THAT YtmaoemedodpebaaDoorProg.lean LOADS. Nothing in Lean hashes anything: it is a label: what it is worth is what the hold of that sum in a sandbox is worth. -/
noncomputable def Tryd.pinned : Pinned := { name := "ytmaoemedodpebaadoor", sum := "a97c728c8c7d4e32f7a31cffd35cb5d2a4bea33e525c6e8a108e3234aa22e8fb", checked := Tryd.checked }
namespace Rows
def none {H : Type} : Left H := { results := [], args := [] }

/- WHAT THE LISTED PACKAGE-LEVEL VARIABLES READ AS WHEN THE CALL BEGINS. Each datum BY PROGRAM (the guide's laid-datum.mjs) off the statement by which the dump's own 'gosem.cut.vars' lays the variable. In a bare row this is a premise. The card (YtmaoemedodpebaaDoorCards.lean) ties it to the program's text. -/
def laid_hanse_life_leads {H : Type} : DataW H := .agg [.slice [] [], .slice [.lit (.int .i64 1)] [], .slice [.lit (.int .i64 1), .lit (.int .i64 2)] [], .slice [.lit (.int .i64 1), .lit (.int .i64 2), .lit (.int .i64 3)] [], .slice [.lit (.int .i64 1), .lit (.int .i64 5)] [], .slice [.lit (.int .i64 1), .lit (.int .i64 5), .lit (.int .i64 7)] [], .slice [.lit (.int .i64 1), .lit (.int .i64 2), .lit (.int .i64 8)] [], .slice [.lit (.int .i64 1), .lit (.int .i64 9)] []]

/-- 'hanselaw10.LifeExact': WHATEVER THE INPUT: true; the input reads as it did. -/
def lifeExactSpec : ChangeSpec := { name := "lifeExact", fn := fun _ => fun
  | [d1, d2, d3] => { results := [.lit (.bool true)], args := [d1, d2, d3] }
  | _ => none }
def lifeExactRow : OpenClaim := { program := "ytmaoemedodpebaadoor", sum := "a97c728c8c7d4e32f7a31cffd35cb5d2a4bea33e525c6e8a108e3234aa22e8fb", func := "hanse/hanselaw10.LifeExact", spec := "lifeExact", unfollowed := true, recurses := true, named := ["hanse/life.leads"], apart := false, laid := [("hanse/life.leads", laid_hanse_life_leads)] }
def LifeExactSaid : Prop := lifeExactRow.holds Tryd.pinned (OpenSpec.ofChange lifeExactSpec)

/-- ITS FALSE NEIGHBOUR: 'it returns false'. Refute it at one input. -/
def lifeExactWrong : ChangeSpec := { name := "lifeExact", fn := fun _ => fun
  | [d1, d2, d3] => { results := [.lit (.bool false)], args := [d1, d2, d3] }
  | _ => none }
def LifeExactWrongFalsely : Prop := lifeExactRow.holds Tryd.pinned (OpenSpec.ofChange lifeExactWrong)

/-- 'hanselaw10.LifeWays': WHATEVER THE INPUT: true; the input reads as it did. -/
def lifeWaysSpec : ChangeSpec := { name := "lifeWays", fn := fun _ => fun
  | [d1, d2] => { results := [.lit (.bool true)], args := [d1, d2] }
  | _ => none }
def lifeWaysRow : OpenClaim := { program := "ytmaoemedodpebaadoor", sum := "a97c728c8c7d4e32f7a31cffd35cb5d2a4bea33e525c6e8a108e3234aa22e8fb", func := "hanse/hanselaw10.LifeWays", spec := "lifeWays", unfollowed := true, recurses := true, named := ["hanse/life.leads"], apart := false, laid := [("hanse/life.leads", laid_hanse_life_leads)] }
def LifeWaysSaid : Prop := lifeWaysRow.holds Tryd.pinned (OpenSpec.ofChange lifeWaysSpec)

/-- ITS FALSE NEIGHBOUR: 'it returns false'. Refute it at one input. -/
def lifeWaysWrong : ChangeSpec := { name := "lifeWays", fn := fun _ => fun
  | [d1, d2] => { results := [.lit (.bool false)], args := [d1, d2] }
  | _ => none }
def LifeWaysWrongFalsely : Prop := lifeWaysRow.holds Tryd.pinned (OpenSpec.ofChange lifeWaysWrong)

/-- 'hanselaw10.LifeLeads': WHATEVER THE INPUT: true; the input reads as it did. -/
def lifeLeadsSpec : ChangeSpec := { name := "lifeLeads", fn := fun _ => fun
  | [d1, d2] => { results := [.lit (.bool true)], args := [d1, d2] }
  | _ => none }
def lifeLeadsRow : OpenClaim := { program := "ytmaoemedodpebaadoor", sum := "a97c728c8c7d4e32f7a31cffd35cb5d2a4bea33e525c6e8a108e3234aa22e8fb", func := "hanse/hanselaw10.LifeLeads", spec := "lifeLeads", unfollowed := true, recurses := true, named := ["hanse/life.leads"], apart := false, laid := [("hanse/life.leads", laid_hanse_life_leads)] }
def LifeLeadsSaid : Prop := lifeLeadsRow.holds Tryd.pinned (OpenSpec.ofChange lifeLeadsSpec)

/-- ITS FALSE NEIGHBOUR: 'it returns false'. Refute it at one input. -/
def lifeLeadsWrong : ChangeSpec := { name := "lifeLeads", fn := fun _ => fun
  | [d1, d2] => { results := [.lit (.bool false)], args := [d1, d2] }
  | _ => none }
def LifeLeadsWrongFalsely : Prop := lifeLeadsRow.holds Tryd.pinned (OpenSpec.ofChange lifeLeadsWrong)

/-- 'hanselaw10.LifeStarts': WHATEVER THE INPUT: true; the input reads as it did. -/
def lifeStartsSpec : ChangeSpec := { name := "lifeStarts", fn := fun _ => fun
  | [d] => { results := [.lit (.bool true)], args := [d] }
  | _ => none }
def lifeStartsRow : OpenClaim := { program := "ytmaoemedodpebaadoor", sum := "a97c728c8c7d4e32f7a31cffd35cb5d2a4bea33e525c6e8a108e3234aa22e8fb", func := "hanse/hanselaw10.LifeStarts", spec := "lifeStarts", unfollowed := true, recurses := true, named := ["hanse/life.leads"], apart := false, laid := [("hanse/life.leads", laid_hanse_life_leads)] }
def LifeStartsSaid : Prop := lifeStartsRow.holds Tryd.pinned (OpenSpec.ofChange lifeStartsSpec)

/-- ITS FALSE NEIGHBOUR: 'it returns false'. Refute it at one input. -/
def lifeStartsWrong : ChangeSpec := { name := "lifeStarts", fn := fun _ => fun
  | [d] => { results := [.lit (.bool false)], args := [d] }
  | _ => none }
def LifeStartsWrongFalsely : Prop := lifeStartsRow.holds Tryd.pinned (OpenSpec.ofChange lifeStartsWrong)

/-- 'hanselaw10.LifeParts': WHATEVER THE INPUT: true; the input reads as it did. -/
def lifePartsSpec : ChangeSpec := { name := "lifeParts", fn := fun _ => fun
  | [d1, d2, d3] => { results := [.lit (.bool true)], args := [d1, d2, d3] }
  | _ => none }
def lifePartsRow : OpenClaim := { program := "ytmaoemedodpebaadoor", sum := "a97c728c8c7d4e32f7a31cffd35cb5d2a4bea33e525c6e8a108e3234aa22e8fb", func := "hanse/hanselaw10.LifeParts", spec := "lifeParts", unfollowed := true, recurses := true, named := ["hanse/life.leads"], apart := false, laid := [("hanse/life.leads", laid_hanse_life_leads)] }
def LifePartsSaid : Prop := lifePartsRow.holds Tryd.pinned (OpenSpec.ofChange lifePartsSpec)

/-- ITS FALSE NEIGHBOUR: 'it returns false'. Refute it at one input. -/
def lifePartsWrong : ChangeSpec := { name := "lifeParts", fn := fun _ => fun
  | [d1, d2, d3] => { results := [.lit (.bool false)], args := [d1, d2, d3] }
  | _ => none }
def LifePartsWrongFalsely : Prop := lifePartsRow.holds Tryd.pinned (OpenSpec.ofChange lifePartsWrong)

/-- 'hanselaw10.LifeReaches': WHATEVER THE INPUT: true; the input reads as it did. -/
def lifeReachesSpec : ChangeSpec := { name := "lifeReaches", fn := fun _ => fun
  | [] => { results := [.lit (.bool true)], args := [] }
  | _ => none }
def lifeReachesRow : OpenClaim := { program := "ytmaoemedodpebaadoor", sum := "a97c728c8c7d4e32f7a31cffd35cb5d2a4bea33e525c6e8a108e3234aa22e8fb", func := "hanse/hanselaw10.LifeReaches", spec := "lifeReaches", unfollowed := true, recurses := true, named := ["hanse/life.leads"], apart := false, laid := [("hanse/life.leads", laid_hanse_life_leads)] }
def LifeReachesSaid : Prop := lifeReachesRow.holds Tryd.pinned (OpenSpec.ofChange lifeReachesSpec)

/-- ITS FALSE NEIGHBOUR: 'it returns false'. Refute it at one input. -/
def lifeReachesWrong : ChangeSpec := { name := "lifeReaches", fn := fun _ => fun
  | [] => { results := [.lit (.bool false)], args := [] }
  | _ => none }
def LifeReachesWrongFalsely : Prop := lifeReachesRow.holds Tryd.pinned (OpenSpec.ofChange lifeReachesWrong)

/- THE SECOND FORM. 'bulk': how many values and letters a reading holds, each counted each time it is reached (what is shared counts as often as it is met; a slice's spare places count too). A statement '..UptoSaid' is the law's where the arguments, and the package variables that the reading takes, are together of bulk at most 1048576: NARROWER than '..Said'. Prove '..Said' where nothing that the law and all that it calls make is longer than what came in: it says more and counts as full. Else prove '..UptoSaid'. A law counts once. -/
mutual
def uptoBulk {H : Type} : DataW H → Nat
  | .lit (.string bytes) => bytes.length + 1
  | .lit _ => 1
  | .nil => 1
  | .ptr d => uptoBulk d + 1
  | .slice elems spare => uptoBulkAll elems + uptoBulkAll spare + 1
  | .agg parts => uptoBulkAll parts + 1
  | .iface _ d => uptoBulk d + 1
  | .map entries => uptoBulkEntries entries + 1
  | .held _ => 1
def uptoBulkAll {H : Type} : List (DataW H) → Nat
  | [] => 0
  | d :: r => uptoBulk d + uptoBulkAll r
def uptoBulkEntries {H : Type} : List (Lit × DataW H) → Nat
  | [] => 0
  | x :: r => uptoBulkEntry x + uptoBulkEntries r
def uptoBulkEntry {H : Type} : Lit × DataW H → Nat
  | (.string bytes, d) => bytes.length + uptoBulk d + 1
  | (_, d) => uptoBulk d + 1
 end
def uptoSmall : (H : Type) → List (DataW H) → Bool := fun _ ds => decide (uptoBulkAll ds ≤ 1048576)
def OpenSpec.upto (s : _root_.Go.ChangeSpec) : _root_.Go.OpenSpec := { _root_.Go.OpenSpec.ofChange s with cond := some uptoSmall }

/-- 'hanselaw10.LifeExact', WHERE WHAT IT READS IS OF BULK AT MOST 1048576: true; the input reads as it did. -/
def lifeExactUptoRow : OpenClaim := { program := "ytmaoemedodpebaadoor", sum := "a97c728c8c7d4e32f7a31cffd35cb5d2a4bea33e525c6e8a108e3234aa22e8fb", func := "hanse/hanselaw10.LifeExact", spec := "lifeExact", unfollowed := true, recurses := true, named := ["hanse/life.leads"], apart := false, laid := [("hanse/life.leads", laid_hanse_life_leads)], narrowed := true }
def LifeExactUptoSaid : Prop := lifeExactUptoRow.holds Tryd.pinned (OpenSpec.upto lifeExactSpec)

/-- 'hanselaw10.LifeWays', WHERE WHAT IT READS IS OF BULK AT MOST 1048576: true; the input reads as it did. -/
def lifeWaysUptoRow : OpenClaim := { program := "ytmaoemedodpebaadoor", sum := "a97c728c8c7d4e32f7a31cffd35cb5d2a4bea33e525c6e8a108e3234aa22e8fb", func := "hanse/hanselaw10.LifeWays", spec := "lifeWays", unfollowed := true, recurses := true, named := ["hanse/life.leads"], apart := false, laid := [("hanse/life.leads", laid_hanse_life_leads)], narrowed := true }
def LifeWaysUptoSaid : Prop := lifeWaysUptoRow.holds Tryd.pinned (OpenSpec.upto lifeWaysSpec)

/-- 'hanselaw10.LifeLeads', WHERE WHAT IT READS IS OF BULK AT MOST 1048576: true; the input reads as it did. -/
def lifeLeadsUptoRow : OpenClaim := { program := "ytmaoemedodpebaadoor", sum := "a97c728c8c7d4e32f7a31cffd35cb5d2a4bea33e525c6e8a108e3234aa22e8fb", func := "hanse/hanselaw10.LifeLeads", spec := "lifeLeads", unfollowed := true, recurses := true, named := ["hanse/life.leads"], apart := false, laid := [("hanse/life.leads", laid_hanse_life_leads)], narrowed := true }
def LifeLeadsUptoSaid : Prop := lifeLeadsUptoRow.holds Tryd.pinned (OpenSpec.upto lifeLeadsSpec)

/-- 'hanselaw10.LifeStarts', WHERE WHAT IT READS IS OF BULK AT MOST 1048576: true; the input reads as it did. -/
def lifeStartsUptoRow : OpenClaim := { program := "ytmaoemedodpebaadoor", sum := "a97c728c8c7d4e32f7a31cffd35cb5d2a4bea33e525c6e8a108e3234aa22e8fb", func := "hanse/hanselaw10.LifeStarts", spec := "lifeStarts", unfollowed := true, recurses := true, named := ["hanse/life.leads"], apart := false, laid := [("hanse/life.leads", laid_hanse_life_leads)], narrowed := true }
def LifeStartsUptoSaid : Prop := lifeStartsUptoRow.holds Tryd.pinned (OpenSpec.upto lifeStartsSpec)

/-- 'hanselaw10.LifeParts', WHERE WHAT IT READS IS OF BULK AT MOST 1048576: true; the input reads as it did. -/
def lifePartsUptoRow : OpenClaim := { program := "ytmaoemedodpebaadoor", sum := "a97c728c8c7d4e32f7a31cffd35cb5d2a4bea33e525c6e8a108e3234aa22e8fb", func := "hanse/hanselaw10.LifeParts", spec := "lifeParts", unfollowed := true, recurses := true, named := ["hanse/life.leads"], apart := false, laid := [("hanse/life.leads", laid_hanse_life_leads)], narrowed := true }
def LifePartsUptoSaid : Prop := lifePartsUptoRow.holds Tryd.pinned (OpenSpec.upto lifePartsSpec)

/-- 'hanselaw10.LifeReaches', WHERE WHAT IT READS IS OF BULK AT MOST 1048576: true; the input reads as it did. -/
def lifeReachesUptoRow : OpenClaim := { program := "ytmaoemedodpebaadoor", sum := "a97c728c8c7d4e32f7a31cffd35cb5d2a4bea33e525c6e8a108e3234aa22e8fb", func := "hanse/hanselaw10.LifeReaches", spec := "lifeReaches", unfollowed := true, recurses := true, named := ["hanse/life.leads"], apart := false, laid := [("hanse/life.leads", laid_hanse_life_leads)], narrowed := true }
def LifeReachesUptoSaid : Prop := lifeReachesUptoRow.holds Tryd.pinned (OpenSpec.upto lifeReachesSpec)

end Rows
end Go.Proofs.YtmaoemedodpebaaDoor
