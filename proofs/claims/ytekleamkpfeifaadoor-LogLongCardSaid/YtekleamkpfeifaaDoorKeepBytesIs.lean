/-
  CONTRACT of hansekeep.Bytes.
-/
import Derived.Test.YtekleamkpfeifaaDoorBytesPlain
namespace Go.Proofs.YtekleamkpfeifaaDoor
open Go.RowKit
set_option maxRecDepth 100000 in
theorem bytes_any (A B : Option Addr) (n m c d : Nat) (xs ys : List Int) (w : World) (hA : NRow .u8 w A xs) (hB : NRow .u8 w B ys) (hn : xs.length = n) (hm : ys.length = m) :
    Calls Tryd.prog 31 #[.slice A n c, .slice B m d] w fun e w' => e = .returned (.bool ((strOfNums xs).toList == (strOfNums ys).toList)) ∧ w = w' := by
  have h1 := run_convert_nrow (P := Tryd.prog) w 27 9 5 Tryd.underlying27 Tryd.underlying5 Tryd.underlying9 A n c xs hA hn
  have h2 := run_convert_nrow (P := Tryd.prog) w 27 9 5 Tryd.underlying27 Tryd.underlying5 Tryd.underlying9 B m d ys hB hm
  clear hA hB hn hm
  go_enter Tryd.func31, Tryd.ntmps31
  go_wp2
  go_ret
  exact ⟨rfl, rfl⟩
theorem bytes_is (A B : Option Addr) (n m c d : Nat) (xs ys : List Int) (w : World) (hA : NRow .u8 w A xs) (hB : NRow .u8 w B ys) (hn : xs.length = n) (hm : ys.length = m) (bx : ByteList xs) (by_ : ByteList ys) (b : Bool) (hb : decide (xs = ys) = b) :
    Calls Tryd.prog 31 #[.slice A n c, .slice B m d] w fun e w' => e = .returned (.bool b) ∧ w = w' := by
  have h : ((strOfNums xs).toList == (strOfNums ys).toList) = b := by
    rw [← hb, Bool.eq_iff_iff]
    simp only [beq_iff_eq, decide_eq_true_eq]
    exact ⟨fun h => strOfNums_inj bx by_ (by
      rw [ByteArray.toList_eq, ByteArray.toList_eq] at h
      exact ByteArray.ext (Array.toList_inj.1 h)), fun h => by rw [h]⟩
  rw [← h]
  exact bytes_any A B n m c d xs ys w hA hB hn hm
end Go.Proofs.YtekleamkpfeifaaDoor
