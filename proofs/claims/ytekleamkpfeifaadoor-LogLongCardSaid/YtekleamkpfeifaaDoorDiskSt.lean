/-
  PLAIN: what a disk is, and what becomes of it by each call.
-/
namespace Go.Proofs.YtekleamkpfeifaaDoor
namespace Dk
/-- A disk: its bytes, how many of them are synced, is the power off, and with which keep the next stroke is tripped. -/
structure DSt where
  bs : List Int
  safe : Nat
  dead : Bool
  trip : Option Int
/-- The error of a call where the power is off. -/
def DSt.off (s : DSt) : Int := if s.dead then 7 else 0
def DSt.add (ys : List Int) (s : DSt) : DSt := if s.dead then s else { s with bs := s.bs ++ ys }
/-- The bytes that a crash leaves. -/
def left (bs : List Int) (safe : Nat) (keep : Int) : List Int := if keep.toNat < bs.length - safe then bs.take (safe + keep.toNat) else bs
def DSt.crash (keep : Int) (s : DSt) : DSt := if s.dead then s else ⟨left s.bs s.safe keep, s.safe, true, none⟩
/-- A stroke: its error, and what becomes of the disk where it does not go well; 'then_' where it does. -/
def DSt.stroke (s : DSt) (then_ : DSt) : Int × DSt := if s.dead then (7, s) else match s.trip with
  | some k => (7, s.crash k)
  | none => (0, then_)
def DSt.sync (s : DSt) : Int × DSt := s.stroke { s with safe := s.bs.length }
def DSt.cut (n : Int) (s : DSt) : Int × DSt := if s.dead then (7, s) else if n < 0 ∨ (s.bs.length : Int) < n then (9, s) else s.stroke { s with bs := s.bs.take n.toNat, safe := n.toNat }
def DSt.swap (ys : List Int) (s : DSt) : Int × DSt := s.stroke { s with bs := ys, safe := ys.length }
def DSt.read (s : DSt) : List Int := if s.dead then [] else s.bs
def DSt.arm (keep : Int) (s : DSt) : DSt := if s.dead then s else { s with trip := some keep }
def DSt.start (s : DSt) : DSt := if s.dead then { s with dead := false, safe := s.bs.length } else s
/-- What is always so. -/
structure DSt.Ok (s : DSt) : Prop where
  safe : s.safe ≤ s.bs.length
  calm : s.dead = true → s.trip = none
end Dk
end Go.Proofs.YtekleamkpfeifaaDoor
