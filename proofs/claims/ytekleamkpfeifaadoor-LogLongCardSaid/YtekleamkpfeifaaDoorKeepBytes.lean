/-
  CONTRACTS of hansekeep.Bytes and hansekeep.Twin.
-/
import Derived.Test.YtekleamkpfeifaaDoorBytesPlain
import Derived.Test.YtekleamkpfeifaaDoorKeepBytesIs
namespace Go.Proofs.YtekleamkpfeifaaDoor
open Go.RowKit

set_option maxRecDepth 100000 in
theorem twin_any (A : Option Addr) (n c : Nat) (xs : List Int) (w : World) (hA : NRow .u8 w A xs) (hn : xs.length = n) (hc : A = none → c = 0) (hlen : n ≤ 70368744177664) :
    Calls Tryd.prog 14 #[.slice A n c] w (NewBytes xs w) := by
  obtain ⟨i0, hi, hz0, hz1, hz2⟩ := info_parts info_u8
  have HA := Lib.hid hA
  have HN := Lib.hid hn
  have HC := Lib.hid hc
  clear hA hn hc
  go_enter Tryd.func14, Tryd.ntmps14
  go_wp2_with (at_builtin; refine wpList_append_row rfl _ _ 27 rfl 5 i0 .u8 1 Tryd.underlying27 hi hz0 hz1 hz2 (.slice none 0 0) 0 [] rfl (World.ownsRow_nil _ _ _ _) _ _ _ _ rfl HN.out HA.out HC.out (by unfold maxLen; omega) (by omega) ?_)
  intro v' w1 hown hst
  have HO := Lib.hid hown
  have HST := Lib.hid hst
  clear hown hst
  go_wp2
  go_ret
  exact ⟨v', rfl, by rw [HN.out]; simpa using HO.out, HST.out⟩
end Go.Proofs.YtekleamkpfeifaaDoor
