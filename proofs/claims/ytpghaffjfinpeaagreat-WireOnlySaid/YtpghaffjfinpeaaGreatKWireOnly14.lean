/-
  3 texts in one: ReadTrec, ReadPoffer, ReadLoffer.
-/
import Derived.Test.YtpghaffjfinpeaaGreatKWireOnly07
import Derived.Test.YtpghaffjfinpeaaGreatKWireOnly13
import Derived.Test.YtpghaffjfinpeaaGreatKWireOnly04
import Derived.Test.YtpghaffjfinpeaaGreatKWireOnly11

/-
  CONTRACTS of wire.whole[api.Rec] and wire.ReadRec. (wip/gen_read.py wrote this.)
-/
namespace Go.Proofs.YtpghaffjfinpeaaGreat
namespace Wi
open Go.RowKit Pk Am
/-- A struct and an error are answered; without an error the struct is what was read. -/
def Wholerec (y : Rs) (vs : List Value) (q p : Nat) (w : World) (r : Ending) (w' : World) : Prop :=
  ∃ us e, r = .returned (.tuple #[.agg us.toArray, .int .i64 e]) ∧ us.length = 24 ∧ us.all (·.oneCell') = true ∧ (e = 0 → us = vs ∧ y.t = false ∧ y.s = .ok []) ∧ Moved w w' [p, q]
set_option maxRecDepth 100000 in
set_option maxHeartbeats 4000000 in
theorem whole_rec (q p : Nat) (y : Rs) (vs : List Value) (w : World) (hR : Rd w q p y) (hlen : vs.length = 24) (hone : vs.all (·.oneCell') = true) :
    Calls Tryz.prog 15 #[.pointer (some ⟨q, 0, none⟩), .agg vs.toArray] w (Wholerec y vs q p w) := by
  have hsz : (w.alloc (.cells vs.toArray 34)).heap.size = w.heap.size + 1 := by simp
  have hM1 : Moved w ((w.alloc (.cells vs.toArray 34)).alloc (.cells #[.int .i64 0, .int .i64 0, .int .i64 0, .int .i64 0, .int .i64 0, .int .i64 0, .int .i64 0, .int .i64 0, .bool false, .int .i64 0, .int .i64 0, .int .i64 0, .complex .f64 0 0, .int .i64 0, .int .i64 0, .int .i64 0, .int .i64 0, .slice none 0 0, .bool false, .int .i64 0, .int .i64 0, .complex .f64 0 0, .slice none 0 0, .slice none 0 0] 34)) [] := ((Moved.refl w []).alloc _).alloc _
  have hat3 : At ((w.alloc (.cells vs.toArray 34)).alloc (.cells #[.int .i64 0, .int .i64 0, .int .i64 0, .int .i64 0, .int .i64 0, .int .i64 0, .int .i64 0, .int .i64 0, .bool false, .int .i64 0, .int .i64 0, .int .i64 0, .complex .f64 0 0, .int .i64 0, .int .i64 0, .int .i64 0, .int .i64 0, .slice none 0 0, .bool false, .int .i64 0, .int .i64 0, .complex .f64 0 0, .slice none 0 0, .slice none 0 0] 34)) w.heap.size vs.toArray 34 := At.moved (heap_alloc_new w _) ((Moved.refl _ []).alloc _)
  have hat4 : At ((w.alloc (.cells vs.toArray 34)).alloc (.cells #[.int .i64 0, .int .i64 0, .int .i64 0, .int .i64 0, .int .i64 0, .int .i64 0, .int .i64 0, .int .i64 0, .bool false, .int .i64 0, .int .i64 0, .int .i64 0, .complex .f64 0 0, .int .i64 0, .int .i64 0, .int .i64 0, .int .i64 0, .slice none 0 0, .bool false, .int .i64 0, .int .i64 0, .complex .f64 0 0, .slice none 0 0, .slice none 0 0] 34)) (w.heap.size + 1) #[.int .i64 0, .int .i64 0, .int .i64 0, .int .i64 0, .int .i64 0, .int .i64 0, .int .i64 0, .int .i64 0, .bool false, .int .i64 0, .int .i64 0, .int .i64 0, .complex .f64 0 0, .int .i64 0, .int .i64 0, .int .i64 0, .int .i64 0, .slice none 0 0, .bool false, .int .i64 0, .int .i64 0, .complex .f64 0 0, .slice none 0 0, .slice none 0 0] 34 := by rw [← hsz]; exact heap_alloc_new _ _
  have hR1 : Rd ((w.alloc (.cells vs.toArray 34)).alloc (.cells #[.int .i64 0, .int .i64 0, .int .i64 0, .int .i64 0, .int .i64 0, .int .i64 0, .int .i64 0, .int .i64 0, .bool false, .int .i64 0, .int .i64 0, .int .i64 0, .complex .f64 0 0, .int .i64 0, .int .i64 0, .int .i64 0, .int .i64 0, .slice none 0 0, .bool false, .int .i64 0, .int .i64 0, .complex .f64 0 0, .slice none 0 0, .slice none 0 0] 34)) q p y := hR.stays (fun k hk => hM1.block k hk (by simp))
  have hpq : p < w.heap.size ∧ q < w.heap.size := ⟨hR.ltp, hR.ltq⟩
  have hc0 := hR1.cell
  have hc1 := cell_at hR1.blk 1 (v := .bool y.t) rfl
  have HI := Lib.hid (show (Tryz.prog.info? 34).map (·.size) = some 24 by kernel_rfl)
  have HIV := Lib.hid (show (Tryz.prog.info? 34).map (·.size) = some vs.length by rw [hlen]; kernel_rfl)
  have HIA := Lib.hid (show (Tryz.prog.info? 34).map (·.size) = some vs.toArray.size by rw [List.size_toArray, hlen]; kernel_rfl)
  have HV := Lib.hid (show (#[.int .i64 0, .int .i64 0, .int .i64 0, .int .i64 0, .int .i64 0, .int .i64 0, .int .i64 0, .int .i64 0, .bool false, .int .i64 0, .int .i64 0, .int .i64 0, .complex .f64 0 0, .int .i64 0, .int .i64 0, .int .i64 0, .int .i64 0, .slice none 0 0, .bool false, .int .i64 0, .int .i64 0, .complex .f64 0 0, .slice none 0 0, .slice none 0 0] : Array Value).size = vs.toArray.size from Eq.trans (b := 24) rfl (by rw [List.size_toArray, hlen]))
  have HO := Lib.hid (show vs.toArray.all (·.oneCell') = true by rw [List.all_toArray]; exact hone)
  have HL := Lib.hid hlen
  have HON := Lib.hid hone
  have HR1 := Lib.hid hR1
  have HA3 := Lib.hid hat3
  have HA4 := Lib.hid hat4
  have HPQ := Lib.hid hpq
  clear hsz hM1 hat3 hat4 hR1 hpq hlen hone hR
  cases ht : y.t with
  | true =>
    rw [ht] at hc1
    have hmv : Moved ((w.alloc (.cells vs.toArray 34)).alloc (.cells #[.int .i64 0, .int .i64 0, .int .i64 0, .int .i64 0, .int .i64 0, .int .i64 0, .int .i64 0, .int .i64 0, .bool false, .int .i64 0, .int .i64 0, .int .i64 0, .complex .f64 0 0, .int .i64 0, .int .i64 0, .int .i64 0, .int .i64 0, .slice none 0 0, .bool false, .int .i64 0, .int .i64 0, .complex .f64 0 0, .slice none 0 0, .slice none 0 0] 34)) ((w.alloc (.cells vs.toArray 34)).alloc (.cells #[.int .i64 0, .int .i64 0, .int .i64 0, .int .i64 0, .int .i64 0, .int .i64 0, .int .i64 0, .int .i64 0, .bool false, .int .i64 0, .int .i64 0, .int .i64 0, .complex .f64 0 0, .int .i64 0, .int .i64 0, .int .i64 0, .int .i64 0, .slice none 0 0, .bool false, .int .i64 0, .int .i64 0, .complex .f64 0 0, .slice none 0 0, .slice none 0 0] 34)) [p, q] := Moved.refl _ _
    have h1 : ((w.alloc (.cells vs.toArray 34)).alloc (.cells #[.int .i64 0, .int .i64 0, .int .i64 0, .int .i64 0, .int .i64 0, .int .i64 0, .int .i64 0, .int .i64 0, .bool false, .int .i64 0, .int .i64 0, .int .i64 0, .complex .f64 0 0, .int .i64 0, .int .i64 0, .int .i64 0, .int .i64 0, .slice none 0 0, .bool false, .int .i64 0, .int .i64 0, .complex .f64 0 0, .slice none 0 0, .slice none 0 0] 34)).heap.size = w.heap.size + 2 := by simp
    have h2 := hmv.size
    have h3 := HPQ.out
    have hat : At (((w.alloc (.cells vs.toArray 34)).alloc (.cells #[.int .i64 0, .int .i64 0, .int .i64 0, .int .i64 0, .int .i64 0, .int .i64 0, .int .i64 0, .int .i64 0, .bool false, .int .i64 0, .int .i64 0, .int .i64 0, .complex .f64 0 0, .int .i64 0, .int .i64 0, .int .i64 0, .int .i64 0, .slice none 0 0, .bool false, .int .i64 0, .int .i64 0, .complex .f64 0 0, .slice none 0 0, .slice none 0 0] 34)).alloc (.cells #[.int .i64 0, .int .i64 0, .int .i64 0, .int .i64 0, .int .i64 0, .int .i64 0, .int .i64 0, .int .i64 0, .bool false, .int .i64 0, .int .i64 0, .int .i64 0, .complex .f64 0 0, .int .i64 0, .int .i64 0, .int .i64 0, .int .i64 0, .slice none 0 0, .bool false, .int .i64 0, .int .i64 0, .complex .f64 0 0, .slice none 0 0, .slice none 0 0] 34)) (w.heap.size + 1) #[.int .i64 0, .int .i64 0, .int .i64 0, .int .i64 0, .int .i64 0, .int .i64 0, .int .i64 0, .int .i64 0, .bool false, .int .i64 0, .int .i64 0, .int .i64 0, .complex .f64 0 0, .int .i64 0, .int .i64 0, .int .i64 0, .int .i64 0, .slice none 0 0, .bool false, .int .i64 0, .int .i64 0, .complex .f64 0 0, .slice none 0 0, .slice none 0 0] 34 := (Below.heap_alloc ((w.alloc (.cells vs.toArray 34)).alloc (.cells #[.int .i64 0, .int .i64 0, .int .i64 0, .int .i64 0, .int .i64 0, .int .i64 0, .int .i64 0, .int .i64 0, .bool false, .int .i64 0, .int .i64 0, .int .i64 0, .complex .f64 0 0, .int .i64 0, .int .i64 0, .int .i64 0, .int .i64 0, .slice none 0 0, .bool false, .int .i64 0, .int .i64 0, .complex .f64 0 0, .slice none 0 0, .slice none 0 0] 34)) _ _ (by omega)).trans ((hmv.block _ (by omega) (by simp; omega)).trans HA4.out)
    have HAT := Lib.hid hat
    have hrz : (((w.alloc (.cells vs.toArray 34)).alloc (.cells #[.int .i64 0, .int .i64 0, .int .i64 0, .int .i64 0, .int .i64 0, .int .i64 0, .int .i64 0, .int .i64 0, .bool false, .int .i64 0, .int .i64 0, .int .i64 0, .complex .f64 0 0, .int .i64 0, .int .i64 0, .int .i64 0, .int .i64 0, .slice none 0 0, .bool false, .int .i64 0, .int .i64 0, .complex .f64 0 0, .slice none 0 0, .slice none 0 0] 34)).alloc (.cells #[.int .i64 0, .int .i64 0, .int .i64 0, .int .i64 0, .int .i64 0, .int .i64 0, .int .i64 0, .int .i64 0, .bool false, .int .i64 0, .int .i64 0, .int .i64 0, .complex .f64 0 0, .int .i64 0, .int .i64 0, .int .i64 0, .int .i64 0, .slice none 0 0, .bool false, .int .i64 0, .int .i64 0, .complex .f64 0 0, .slice none 0 0, .slice none 0 0] 34)).rangeAt ((w.alloc (.cells vs.toArray 34)).alloc (.cells #[.int .i64 0, .int .i64 0, .int .i64 0, .int .i64 0, .int .i64 0, .int .i64 0, .int .i64 0, .int .i64 0, .bool false, .int .i64 0, .int .i64 0, .int .i64 0, .complex .f64 0 0, .int .i64 0, .int .i64 0, .int .i64 0, .int .i64 0, .slice none 0 0, .bool false, .int .i64 0, .int .i64 0, .complex .f64 0 0, .slice none 0 0, .slice none 0 0] 34)).heap.size 0 [.int .i64 0, .int .i64 0, .int .i64 0, .int .i64 0, .int .i64 0, .int .i64 0, .int .i64 0, .int .i64 0, .bool false, .int .i64 0, .int .i64 0, .int .i64 0, .complex .f64 0 0, .int .i64 0, .int .i64 0, .int .i64 0, .int .i64 0, .slice none 0 0, .bool false, .int .i64 0, .int .i64 0, .complex .f64 0 0, .slice none 0 0, .slice none 0 0] := range_new ((w.alloc (.cells vs.toArray 34)).alloc (.cells #[.int .i64 0, .int .i64 0, .int .i64 0, .int .i64 0, .int .i64 0, .int .i64 0, .int .i64 0, .int .i64 0, .bool false, .int .i64 0, .int .i64 0, .int .i64 0, .complex .f64 0 0, .int .i64 0, .int .i64 0, .int .i64 0, .int .i64 0, .slice none 0 0, .bool false, .int .i64 0, .int .i64 0, .complex .f64 0 0, .slice none 0 0, .slice none 0 0] 34)) [.int .i64 0, .int .i64 0, .int .i64 0, .int .i64 0, .int .i64 0, .int .i64 0, .int .i64 0, .int .i64 0, .bool false, .int .i64 0, .int .i64 0, .int .i64 0, .complex .f64 0 0, .int .i64 0, .int .i64 0, .int .i64 0, .int .i64 0, .slice none 0 0, .bool false, .int .i64 0, .int .i64 0, .complex .f64 0 0, .slice none 0 0, .slice none 0 0] 34
    have hsz2 : ((w.alloc (.cells vs.toArray 34)).alloc (.cells #[.int .i64 0, .int .i64 0, .int .i64 0, .int .i64 0, .int .i64 0, .int .i64 0, .int .i64 0, .int .i64 0, .bool false, .int .i64 0, .int .i64 0, .int .i64 0, .complex .f64 0 0, .int .i64 0, .int .i64 0, .int .i64 0, .int .i64 0, .slice none 0 0, .bool false, .int .i64 0, .int .i64 0, .complex .f64 0 0, .slice none 0 0, .slice none 0 0] 34)).heap.size = w.heap.size + 1 + 1 := by rw [World.size_alloc, World.size_alloc]
    rw [hsz2] at hrz
    have HRZ := Lib.hid hrz
    have hm9 : Moved w ((((w.alloc (.cells vs.toArray 34)).alloc (.cells #[.int .i64 0, .int .i64 0, .int .i64 0, .int .i64 0, .int .i64 0, .int .i64 0, .int .i64 0, .int .i64 0, .bool false, .int .i64 0, .int .i64 0, .int .i64 0, .complex .f64 0 0, .int .i64 0, .int .i64 0, .int .i64 0, .int .i64 0, .slice none 0 0, .bool false, .int .i64 0, .int .i64 0, .complex .f64 0 0, .slice none 0 0, .slice none 0 0] 34)).alloc (.cells #[.int .i64 0, .int .i64 0, .int .i64 0, .int .i64 0, .int .i64 0, .int .i64 0, .int .i64 0, .int .i64 0, .bool false, .int .i64 0, .int .i64 0, .int .i64 0, .complex .f64 0 0, .int .i64 0, .int .i64 0, .int .i64 0, .int .i64 0, .slice none 0 0, .bool false, .int .i64 0, .int .i64 0, .complex .f64 0 0, .slice none 0 0, .slice none 0 0] 34)).setRow (w.heap.size + 1) #[.int .i64 0, .int .i64 0, .int .i64 0, .int .i64 0, .int .i64 0, .int .i64 0, .int .i64 0, .int .i64 0, .bool false, .int .i64 0, .int .i64 0, .int .i64 0, .complex .f64 0 0, .int .i64 0, .int .i64 0, .int .i64 0, .int .i64 0, .slice none 0 0, .bool false, .int .i64 0, .int .i64 0, .complex .f64 0 0, .slice none 0 0, .slice none 0 0]) [p, q] := moved_setRow ((((Moved.refl w [p, q]).alloc _).alloc _).trans (hmv.alloc _) (fun k hk => .inl hk)) (.inr (by omega)) _
    have HM9 := Lib.hid hm9
    have hrl : (loadVar 34 ⟨w.heap.size + 1, 0, none⟩).run Tryz.prog ((((w.alloc (.cells vs.toArray 34)).alloc (.cells #[.int .i64 0, .int .i64 0, .int .i64 0, .int .i64 0, .int .i64 0, .int .i64 0, .int .i64 0, .int .i64 0, .bool false, .int .i64 0, .int .i64 0, .int .i64 0, .complex .f64 0 0, .int .i64 0, .int .i64 0, .int .i64 0, .int .i64 0, .slice none 0 0, .bool false, .int .i64 0, .int .i64 0, .complex .f64 0 0, .slice none 0 0, .slice none 0 0] 34)).alloc (.cells #[.int .i64 0, .int .i64 0, .int .i64 0, .int .i64 0, .int .i64 0, .int .i64 0, .int .i64 0, .int .i64 0, .bool false, .int .i64 0, .int .i64 0, .int .i64 0, .complex .f64 0 0, .int .i64 0, .int .i64 0, .int .i64 0, .int .i64 0, .slice none 0 0, .bool false, .int .i64 0, .int .i64 0, .complex .f64 0 0, .slice none 0 0, .slice none 0 0] 34)).setRow (w.heap.size + 1) #[.int .i64 0, .int .i64 0, .int .i64 0, .int .i64 0, .int .i64 0, .int .i64 0, .int .i64 0, .int .i64 0, .bool false, .int .i64 0, .int .i64 0, .int .i64 0, .complex .f64 0 0, .int .i64 0, .int .i64 0, .int .i64 0, .int .i64 0, .slice none 0 0, .bool false, .int .i64 0, .int .i64 0, .complex .f64 0 0, .slice none 0 0, .slice none 0 0]) = .ok (.agg #[.int .i64 0, .int .i64 0, .int .i64 0, .int .i64 0, .int .i64 0, .int .i64 0, .int .i64 0, .int .i64 0, .bool false, .int .i64 0, .int .i64 0, .int .i64 0, .complex .f64 0 0, .int .i64 0, .int .i64 0, .int .i64 0, .int .i64 0, .slice none 0 0, .bool false, .int .i64 0, .int .i64 0, .complex .f64 0 0, .slice none 0 0, .slice none 0 0]) ((((w.alloc (.cells vs.toArray 34)).alloc (.cells #[.int .i64 0, .int .i64 0, .int .i64 0, .int .i64 0, .int .i64 0, .int .i64 0, .int .i64 0, .int .i64 0, .bool false, .int .i64 0, .int .i64 0, .int .i64 0, .complex .f64 0 0, .int .i64 0, .int .i64 0, .int .i64 0, .int .i64 0, .slice none 0 0, .bool false, .int .i64 0, .int .i64 0, .complex .f64 0 0, .slice none 0 0, .slice none 0 0] 34)).alloc (.cells #[.int .i64 0, .int .i64 0, .int .i64 0, .int .i64 0, .int .i64 0, .int .i64 0, .int .i64 0, .int .i64 0, .bool false, .int .i64 0, .int .i64 0, .int .i64 0, .complex .f64 0 0, .int .i64 0, .int .i64 0, .int .i64 0, .int .i64 0, .slice none 0 0, .bool false, .int .i64 0, .int .i64 0, .complex .f64 0 0, .slice none 0 0, .slice none 0 0] 34)).setRow (w.heap.size + 1) #[.int .i64 0, .int .i64 0, .int .i64 0, .int .i64 0, .int .i64 0, .int .i64 0, .int .i64 0, .int .i64 0, .bool false, .int .i64 0, .int .i64 0, .int .i64 0, .complex .f64 0 0, .int .i64 0, .int .i64 0, .int .i64 0, .int .i64 0, .slice none 0 0, .bool false, .int .i64 0, .int .i64 0, .complex .f64 0 0, .slice none 0 0, .slice none 0 0]) := run_loadVar_mid _ (w.heap.size + 1) 0 34 [.int .i64 0, .int .i64 0, .int .i64 0, .int .i64 0, .int .i64 0, .int .i64 0, .int .i64 0, .int .i64 0, .bool false, .int .i64 0, .int .i64 0, .int .i64 0, .complex .f64 0 0, .int .i64 0, .int .i64 0, .int .i64 0, .int .i64 0, .slice none 0 0, .bool false, .int .i64 0, .int .i64 0, .complex .f64 0 0, .slice none 0 0, .slice none 0 0] _ (At.range (vs := [.int .i64 0, .int .i64 0, .int .i64 0, .int .i64 0, .int .i64 0, .int .i64 0, .int .i64 0, .int .i64 0, .bool false, .int .i64 0, .int .i64 0, .int .i64 0, .complex .f64 0 0, .int .i64 0, .int .i64 0, .int .i64 0, .int .i64 0, .slice none 0 0, .bool false, .int .i64 0, .int .i64 0, .complex .f64 0 0, .slice none 0 0, .slice none 0 0]) (setRow_heap _ _ _ _ _ _ hat)) Tryz.underlying34 rfl (by exact HI.out)
    have HRL := Lib.hid hrl
    clear h1 h2 h3 hmv hat hrz hm9 hrl
    clear ht hsz2
    go_enter Tryz.func15, Tryz.ntmps15
    go_wp2_with (first
      | (refine wpList_load_mid rfl 34 _ rfl _ 0 rfl [.int .i64 0, .int .i64 0, .int .i64 0, .int .i64 0, .int .i64 0, .int .i64 0, .int .i64 0, .int .i64 0, .bool false, .int .i64 0, .int .i64 0, .int .i64 0, .complex .f64 0 0, .int .i64 0, .int .i64 0, .int .i64 0, .int .i64 0, .slice none 0 0, .bool false, .int .i64 0, .int .i64 0, .complex .f64 0 0, .slice none 0 0, .slice none 0 0] _ HRZ.out Tryz.underlying34 rfl (by exact HI.out) ?_)
      | (refine wpList_store_at rfl 34 _ _ rfl (w.heap.size + 1) #[.int .i64 0, .int .i64 0, .int .i64 0, .int .i64 0, .int .i64 0, .int .i64 0, .int .i64 0, .int .i64 0, .bool false, .int .i64 0, .int .i64 0, .int .i64 0, .complex .f64 0 0, .int .i64 0, .int .i64 0, .int .i64 0, .int .i64 0, .slice none 0 0, .bool false, .int .i64 0, .int .i64 0, .complex .f64 0 0, .slice none 0 0, .slice none 0 0] rfl rfl _ HAT.out (by exact HI.out) rfl (by rw [List.all_toArray]; rfl) ?_))
    exact bodyPost_ret (results_cell2 rfl rfl HRL.out) rfl ⟨[.int .i64 0, .int .i64 0, .int .i64 0, .int .i64 0, .int .i64 0, .int .i64 0, .int .i64 0, .int .i64 0, .bool false, .int .i64 0, .int .i64 0, .int .i64 0, .complex .f64 0 0, .int .i64 0, .int .i64 0, .int .i64 0, .int .i64 0, .slice none 0 0, .bool false, .int .i64 0, .int .i64 0, .complex .f64 0 0, .slice none 0 0, .slice none 0 0], 6, rfl, rfl, rfl, (fun h => by cases h), HM9.out⟩
  | false =>
    rw [ht] at hc1
    have HT := Lib.hid ht
    clear ht
    go_enter Tryz.func15, Tryz.ntmps15
    go_wp2_with fail
    refine (g_done q p y _ (by exact HR1.out)).mono ?_
    rintro e1 w2 ⟨d, rfl, hd0, hmv, -⟩
    by_cases hd : d = 0
    · subst hd
      have HD := Lib.hid (hd0 rfl)
      have h1 : ((w.alloc (.cells vs.toArray 34)).alloc (.cells #[.int .i64 0, .int .i64 0, .int .i64 0, .int .i64 0, .int .i64 0, .int .i64 0, .int .i64 0, .int .i64 0, .bool false, .int .i64 0, .int .i64 0, .int .i64 0, .complex .f64 0 0, .int .i64 0, .int .i64 0, .int .i64 0, .int .i64 0, .slice none 0 0, .bool false, .int .i64 0, .int .i64 0, .complex .f64 0 0, .slice none 0 0, .slice none 0 0] 34)).heap.size = w.heap.size + 2 := by simp
      have h2 := hmv.size
      have h3 := HPQ.out
      have hat : At w2 (w.heap.size + 1) #[.int .i64 0, .int .i64 0, .int .i64 0, .int .i64 0, .int .i64 0, .int .i64 0, .int .i64 0, .int .i64 0, .bool false, .int .i64 0, .int .i64 0, .int .i64 0, .complex .f64 0 0, .int .i64 0, .int .i64 0, .int .i64 0, .int .i64 0, .slice none 0 0, .bool false, .int .i64 0, .int .i64 0, .complex .f64 0 0, .slice none 0 0, .slice none 0 0] 34 := (hmv.block _ (by omega) (by simp; omega)).trans HA4.out
      have har : At w2 w.heap.size vs.toArray 34 := (hmv.block _ (by omega) (by simp; omega)).trans HA3.out
      have HAT := Lib.hid hat
      have HAR := Lib.hid har
      have hm9 : Moved w (w2.setRow (w.heap.size + 1) vs.toArray) [p, q] := moved_setRow ((((Moved.refl w [p, q]).alloc _).alloc _).trans hmv (fun k hk => .inl hk)) (.inr (by omega)) _
      have HM9 := Lib.hid hm9
      have hrl : (loadVar 34 ⟨w.heap.size + 1, 0, none⟩).run Tryz.prog (w2.setRow (w.heap.size + 1) vs.toArray) = .ok (.agg vs.toArray) (w2.setRow (w.heap.size + 1) vs.toArray) := run_loadVar_mid _ (w.heap.size + 1) 0 34 vs _ (At.range (setRow_heap _ _ _ _ _ _ hat)) Tryz.underlying34 rfl HIV.out
      have HRL := Lib.hid hrl
      clear h1 h2 h3 hmv hat har hm9 hrl hd0 hc0 hc1
      go_wp2_with (first
        | (refine wpList_load_mid rfl 34 _ rfl w.heap.size 0 rfl vs _ HAR.out.range Tryz.underlying34 rfl HIV.out ?_)
        | (refine wpList_store_at rfl 34 _ _ rfl (w.heap.size + 1) vs.toArray rfl rfl _ HAT.out HIA.out HV.out HO.out ?_))
      exact bodyPost_ret (results_cell2 rfl rfl HRL.out) rfl ⟨vs, 0, rfl, HL.out, HON.out, fun _ => ⟨rfl, HT.out, HD.out⟩, HM9.out⟩
    · have hdn : (d != 0) = true := by simpa using hd
      have h1 : ((w.alloc (.cells vs.toArray 34)).alloc (.cells #[.int .i64 0, .int .i64 0, .int .i64 0, .int .i64 0, .int .i64 0, .int .i64 0, .int .i64 0, .int .i64 0, .bool false, .int .i64 0, .int .i64 0, .int .i64 0, .complex .f64 0 0, .int .i64 0, .int .i64 0, .int .i64 0, .int .i64 0, .slice none 0 0, .bool false, .int .i64 0, .int .i64 0, .complex .f64 0 0, .slice none 0 0, .slice none 0 0] 34)).heap.size = w.heap.size + 2 := by simp
      have h2 := hmv.size
      have h3 := HPQ.out
      have hat : At (w2.alloc (.cells #[.int .i64 0, .int .i64 0, .int .i64 0, .int .i64 0, .int .i64 0, .int .i64 0, .int .i64 0, .int .i64 0, .bool false, .int .i64 0, .int .i64 0, .int .i64 0, .complex .f64 0 0, .int .i64 0, .int .i64 0, .int .i64 0, .int .i64 0, .slice none 0 0, .bool false, .int .i64 0, .int .i64 0, .complex .f64 0 0, .slice none 0 0, .slice none 0 0] 34)) (w.heap.size + 1) #[.int .i64 0, .int .i64 0, .int .i64 0, .int .i64 0, .int .i64 0, .int .i64 0, .int .i64 0, .int .i64 0, .bool false, .int .i64 0, .int .i64 0, .int .i64 0, .complex .f64 0 0, .int .i64 0, .int .i64 0, .int .i64 0, .int .i64 0, .slice none 0 0, .bool false, .int .i64 0, .int .i64 0, .complex .f64 0 0, .slice none 0 0, .slice none 0 0] 34 := (Below.heap_alloc w2 _ _ (by omega)).trans ((hmv.block _ (by omega) (by simp; omega)).trans HA4.out)
      have HAT := Lib.hid hat
      have hrz : (w2.alloc (.cells #[.int .i64 0, .int .i64 0, .int .i64 0, .int .i64 0, .int .i64 0, .int .i64 0, .int .i64 0, .int .i64 0, .bool false, .int .i64 0, .int .i64 0, .int .i64 0, .complex .f64 0 0, .int .i64 0, .int .i64 0, .int .i64 0, .int .i64 0, .slice none 0 0, .bool false, .int .i64 0, .int .i64 0, .complex .f64 0 0, .slice none 0 0, .slice none 0 0] 34)).rangeAt w2.heap.size 0 [.int .i64 0, .int .i64 0, .int .i64 0, .int .i64 0, .int .i64 0, .int .i64 0, .int .i64 0, .int .i64 0, .bool false, .int .i64 0, .int .i64 0, .int .i64 0, .complex .f64 0 0, .int .i64 0, .int .i64 0, .int .i64 0, .int .i64 0, .slice none 0 0, .bool false, .int .i64 0, .int .i64 0, .complex .f64 0 0, .slice none 0 0, .slice none 0 0] := range_new w2 [.int .i64 0, .int .i64 0, .int .i64 0, .int .i64 0, .int .i64 0, .int .i64 0, .int .i64 0, .int .i64 0, .bool false, .int .i64 0, .int .i64 0, .int .i64 0, .complex .f64 0 0, .int .i64 0, .int .i64 0, .int .i64 0, .int .i64 0, .slice none 0 0, .bool false, .int .i64 0, .int .i64 0, .complex .f64 0 0, .slice none 0 0, .slice none 0 0] 34
      have HRZ := Lib.hid hrz
      have hm9 : Moved w ((w2.alloc (.cells #[.int .i64 0, .int .i64 0, .int .i64 0, .int .i64 0, .int .i64 0, .int .i64 0, .int .i64 0, .int .i64 0, .bool false, .int .i64 0, .int .i64 0, .int .i64 0, .complex .f64 0 0, .int .i64 0, .int .i64 0, .int .i64 0, .int .i64 0, .slice none 0 0, .bool false, .int .i64 0, .int .i64 0, .complex .f64 0 0, .slice none 0 0, .slice none 0 0] 34)).setRow (w.heap.size + 1) #[.int .i64 0, .int .i64 0, .int .i64 0, .int .i64 0, .int .i64 0, .int .i64 0, .int .i64 0, .int .i64 0, .bool false, .int .i64 0, .int .i64 0, .int .i64 0, .complex .f64 0 0, .int .i64 0, .int .i64 0, .int .i64 0, .int .i64 0, .slice none 0 0, .bool false, .int .i64 0, .int .i64 0, .complex .f64 0 0, .slice none 0 0, .slice none 0 0]) [p, q] := moved_setRow ((((Moved.refl w [p, q]).alloc _).alloc _).trans (hmv.alloc _) (fun k hk => .inl hk)) (.inr (by omega)) _
      have HM9 := Lib.hid hm9
      have hrl : (loadVar 34 ⟨w.heap.size + 1, 0, none⟩).run Tryz.prog ((w2.alloc (.cells #[.int .i64 0, .int .i64 0, .int .i64 0, .int .i64 0, .int .i64 0, .int .i64 0, .int .i64 0, .int .i64 0, .bool false, .int .i64 0, .int .i64 0, .int .i64 0, .complex .f64 0 0, .int .i64 0, .int .i64 0, .int .i64 0, .int .i64 0, .slice none 0 0, .bool false, .int .i64 0, .int .i64 0, .complex .f64 0 0, .slice none 0 0, .slice none 0 0] 34)).setRow (w.heap.size + 1) #[.int .i64 0, .int .i64 0, .int .i64 0, .int .i64 0, .int .i64 0, .int .i64 0, .int .i64 0, .int .i64 0, .bool false, .int .i64 0, .int .i64 0, .int .i64 0, .complex .f64 0 0, .int .i64 0, .int .i64 0, .int .i64 0, .int .i64 0, .slice none 0 0, .bool false, .int .i64 0, .int .i64 0, .complex .f64 0 0, .slice none 0 0, .slice none 0 0]) = .ok (.agg #[.int .i64 0, .int .i64 0, .int .i64 0, .int .i64 0, .int .i64 0, .int .i64 0, .int .i64 0, .int .i64 0, .bool false, .int .i64 0, .int .i64 0, .int .i64 0, .complex .f64 0 0, .int .i64 0, .int .i64 0, .int .i64 0, .int .i64 0, .slice none 0 0, .bool false, .int .i64 0, .int .i64 0, .complex .f64 0 0, .slice none 0 0, .slice none 0 0]) ((w2.alloc (.cells #[.int .i64 0, .int .i64 0, .int .i64 0, .int .i64 0, .int .i64 0, .int .i64 0, .int .i64 0, .int .i64 0, .bool false, .int .i64 0, .int .i64 0, .int .i64 0, .complex .f64 0 0, .int .i64 0, .int .i64 0, .int .i64 0, .int .i64 0, .slice none 0 0, .bool false, .int .i64 0, .int .i64 0, .complex .f64 0 0, .slice none 0 0, .slice none 0 0] 34)).setRow (w.heap.size + 1) #[.int .i64 0, .int .i64 0, .int .i64 0, .int .i64 0, .int .i64 0, .int .i64 0, .int .i64 0, .int .i64 0, .bool false, .int .i64 0, .int .i64 0, .int .i64 0, .complex .f64 0 0, .int .i64 0, .int .i64 0, .int .i64 0, .int .i64 0, .slice none 0 0, .bool false, .int .i64 0, .int .i64 0, .complex .f64 0 0, .slice none 0 0, .slice none 0 0]) := run_loadVar_mid _ (w.heap.size + 1) 0 34 [.int .i64 0, .int .i64 0, .int .i64 0, .int .i64 0, .int .i64 0, .int .i64 0, .int .i64 0, .int .i64 0, .bool false, .int .i64 0, .int .i64 0, .int .i64 0, .complex .f64 0 0, .int .i64 0, .int .i64 0, .int .i64 0, .int .i64 0, .slice none 0 0, .bool false, .int .i64 0, .int .i64 0, .complex .f64 0 0, .slice none 0 0, .slice none 0 0] _ (At.range (vs := [.int .i64 0, .int .i64 0, .int .i64 0, .int .i64 0, .int .i64 0, .int .i64 0, .int .i64 0, .int .i64 0, .bool false, .int .i64 0, .int .i64 0, .int .i64 0, .complex .f64 0 0, .int .i64 0, .int .i64 0, .int .i64 0, .int .i64 0, .slice none 0 0, .bool false, .int .i64 0, .int .i64 0, .complex .f64 0 0, .slice none 0 0, .slice none 0 0]) (setRow_heap _ _ _ _ _ _ hat)) Tryz.underlying34 rfl (by exact HI.out)
      have HRL := Lib.hid hrl
      clear h1 h2 h3 hmv hat hrz hm9 hrl
      clear hd0 hc0 hc1 hd
      go_wp2_with (first
      | (refine wpList_load_mid rfl 34 _ rfl _ 0 rfl [.int .i64 0, .int .i64 0, .int .i64 0, .int .i64 0, .int .i64 0, .int .i64 0, .int .i64 0, .int .i64 0, .bool false, .int .i64 0, .int .i64 0, .int .i64 0, .complex .f64 0 0, .int .i64 0, .int .i64 0, .int .i64 0, .int .i64 0, .slice none 0 0, .bool false, .int .i64 0, .int .i64 0, .complex .f64 0 0, .slice none 0 0, .slice none 0 0] _ HRZ.out Tryz.underlying34 rfl (by exact HI.out) ?_)
      | (refine wpList_store_at rfl 34 _ _ rfl (w.heap.size + 1) #[.int .i64 0, .int .i64 0, .int .i64 0, .int .i64 0, .int .i64 0, .int .i64 0, .int .i64 0, .int .i64 0, .bool false, .int .i64 0, .int .i64 0, .int .i64 0, .complex .f64 0 0, .int .i64 0, .int .i64 0, .int .i64 0, .int .i64 0, .slice none 0 0, .bool false, .int .i64 0, .int .i64 0, .complex .f64 0 0, .slice none 0 0, .slice none 0 0] rfl rfl _ HAT.out (by exact HI.out) rfl (by rw [List.all_toArray]; rfl) ?_))
      exact bodyPost_ret (results_cell2 rfl rfl HRL.out) rfl ⟨[.int .i64 0, .int .i64 0, .int .i64 0, .int .i64 0, .int .i64 0, .int .i64 0, .int .i64 0, .int .i64 0, .bool false, .int .i64 0, .int .i64 0, .int .i64 0, .complex .f64 0 0, .int .i64 0, .int .i64 0, .int .i64 0, .int .i64 0, .slice none 0 0, .bool false, .int .i64 0, .int .i64 0, .complex .f64 0 0, .slice none 0 0, .slice none 0 0], 6, rfl, rfl, rfl, (fun h => by cases h), HM9.out⟩
set_option maxRecDepth 100000 in
set_option maxHeartbeats 4000000 in
theorem read_rec (A : Option Addr) (n c : Nat) (xs : List Int) (w : World) (hA : NRow .u8 w A xs) (hn : xs.length = n) (hb : ByteList xs) (hc : A = none → c = 0) (hl : n ≤ 70368744177664) :
    Calls Tryz.prog 4 #[.slice A n c] w fun r w' => ∃ us e, r = .returned (.tuple #[.agg us.toArray, .int .i64 e]) ∧ us.length = 24 ∧ us.all (·.oneCell') = true ∧ Moved w w' [] ∧ (e = 0 → ∃ ds, HoldsAll w' w'.heap.size Krec us ds ∧ RightDs ds ∧ xs = encDs ds) := by
  obtain ⟨W0, hW0⟩ : ∃ W0, W0 = w.alloc (.cells #[.int .i64 0, .int .i64 0, .int .i64 0, .int .i64 0, .int .i64 0, .int .i64 0, .int .i64 0, .int .i64 0, .bool false, .int .i64 0, .int .i64 0, .int .i64 0, .complex .f64 0 0, .int .i64 0, .int .i64 0, .int .i64 0, .int .i64 0, .slice none 0 0, .bool false, .int .i64 0, .int .i64 0, .complex .f64 0 0, .slice none 0 0, .slice none 0 0] 34) := ⟨_, rfl⟩
  have hA0 : NRow .u8 W0 A xs := by rw [hW0]; exact hA.alloc _
  have hat : At W0 w.heap.size #[.int .i64 0, .int .i64 0, .int .i64 0, .int .i64 0, .int .i64 0, .int .i64 0, .int .i64 0, .int .i64 0, .bool false, .int .i64 0, .int .i64 0, .int .i64 0, .complex .f64 0 0, .int .i64 0, .int .i64 0, .int .i64 0, .int .i64 0, .slice none 0 0, .bool false, .int .i64 0, .int .i64 0, .complex .f64 0 0, .slice none 0 0, .slice none 0 0] 34 := by rw [hW0]; exact heap_alloc_new w _
  have hM0 : Moved w W0 [] := by rw [hW0]; exact (Moved.refl w []).alloc _
  have hs0 : W0.heap.size = w.heap.size + 1 := by rw [hW0]; simp
  have HN := Lib.hid (new_reader A n c xs W0 hA0 hn hb hc hl)
  have HI := Lib.hid (show (Tryz.prog.info? 34).map (·.size) = some 24 by kernel_rfl)
  have HAT := Lib.hid hat
  have HM0 := Lib.hid hM0
  have HS0 := Lib.hid hs0
  clear hA hn hb hc hl hA0 hat hM0 hs0
  go_enter Tryz.func4, Tryz.ntmps4
  go_wp2_with fail
  rw [← hW0]
  clear hW0
  refine HN.out.mono ?_
  rintro e1 w1 ⟨q, p, rfl, hR1, hM1, hq1, hp1⟩
  have HR1 := Lib.hid hR1
  have HM1 := Lib.hid hM1
  have HQ := Lib.hid hq1
  have HP := Lib.hid hp1
  clear hR1 hM1 hq1 hp1
  go_wp2_with fail
  refine (r_rec q p _ _ (by exact HR1.out)).mono ?_
  rintro e2 w2 ⟨vs, ds, y, rfl, hG⟩
  have HG := Lib.hid hG
  clear hG
  go_wp2_with fail
  refine (whole_rec q p y vs _ (by exact HG.out.rd) HG.out.data.len.1 (data_one HG.out.data)).mono ?_
  rintro e3 w3 ⟨us, d, rfl, hul, huo, hud, hM3⟩
  have h0 := HS0.out
  have h1 := HM1.out.size
  have h2 := HG.out.moved.size
  have h3 := hM3.size
  have hq := HQ.out
  have hp := HP.out
  have hst := HG.out.start
  have hmv : Moved W0 w3 [] := (HM1.out.trans (HG.out.moved.trans hM3 (fun k hk => .inl hk)) (fun k hk => .inr (by simp only [List.mem_cons, List.not_mem_nil, or_false] at hk; omega)))
  have hat3 : At w3 w.heap.size #[.int .i64 0, .int .i64 0, .int .i64 0, .int .i64 0, .int .i64 0, .int .i64 0, .int .i64 0, .int .i64 0, .bool false, .int .i64 0, .int .i64 0, .int .i64 0, .complex .f64 0 0, .int .i64 0, .int .i64 0, .int .i64 0, .int .i64 0, .slice none 0 0, .bool false, .int .i64 0, .int .i64 0, .complex .f64 0 0, .slice none 0 0, .slice none 0 0] 34 := (hmv.block _ (by omega) (by simp)).trans HAT.out
  have HA3 := Lib.hid hat3
  have HIA := Lib.hid (show (Tryz.prog.info? 34).map (·.size) = some us.toArray.size by rw [List.size_toArray, hul]; exact HI.out)
  have HIU := Lib.hid (show (Tryz.prog.info? 34).map (·.size) = some us.length by rw [hul]; exact HI.out)
  have HV := Lib.hid (show (#[.int .i64 0, .int .i64 0, .int .i64 0, .int .i64 0, .int .i64 0, .int .i64 0, .int .i64 0, .int .i64 0, .bool false, .int .i64 0, .int .i64 0, .int .i64 0, .complex .f64 0 0, .int .i64 0, .int .i64 0, .int .i64 0, .int .i64 0, .slice none 0 0, .bool false, .int .i64 0, .int .i64 0, .complex .f64 0 0, .slice none 0 0, .slice none 0 0] : Array Value).size = us.toArray.size from Eq.trans (b := 24) rfl (by rw [List.size_toArray, hul]))
  have HO := Lib.hid (show us.toArray.all (·.oneCell') = true by rw [List.all_toArray]; exact huo)
  have hm9 : Moved w (w3.setRow w.heap.size us.toArray) [] := moved_setRow (HM0.out.trans hmv (fun k hk => by cases hk)) (.inr (Nat.le_refl _)) _
  have HM9 := Lib.hid hm9
  have hrl : (loadVar 34 ⟨w.heap.size, 0, none⟩).run Tryz.prog (w3.setRow w.heap.size us.toArray) = .ok (.agg us.toArray) (w3.setRow w.heap.size us.toArray) := run_loadVar_mid _ w.heap.size 0 34 us _ (At.range (setRow_heap _ _ _ _ _ _ hat3)) Tryz.underlying34 rfl HIU.out
  have HRL := Lib.hid hrl
  have hms : Moved w3 (w3.setRow w.heap.size us.toArray) [w.heap.size] := moved_setRow (Moved.refl _ _) (.inl (by simp)) _
  have hss := hms.size
  have HF := Lib.hid (show d = 0 → ∃ ds, HoldsAll (w3.setRow w.heap.size us.toArray) (w3.setRow w.heap.size us.toArray).heap.size Krec us ds ∧ RightDs ds ∧ xs = encDs ds from fun hd => by
    obtain ⟨rfl, ht, hs⟩ := hud hd
    obtain ⟨b1, b2, b3⟩ := HG.out.back [] hs ht
    refine ⟨ds, HoldsDs.holds (D := fun k => k < (w3.setRow w.heap.size us.toArray).heap.size) (fun k hk => hk) _ _ _ (HoldsDs.to (fun k hk => ?_) _ _ _ HG.out.data), b2, ?_⟩
    · have hk1 := hk.1
      have hk2 := hk.2
      exact ⟨(hms.block k (by omega) (by simp; omega)).trans (hM3.block k hk2 (by simp only [List.mem_cons, List.not_mem_nil, or_false]; omega)), by omega⟩
    · simp only [List.append_nil] at b3
      injection b3)
  have HUL := Lib.hid hul
  have HUO := Lib.hid huo
  clear h0 h1 h2 h3 hq hp hst hmv hat3 hm9 hrl hms hss hud hM3 hul huo
  go_wp2_with (refine wpList_store_at rfl 34 _ _ rfl w.heap.size us.toArray rfl rfl _ HA3.out HIA.out HV.out HO.out ?_)
  exact bodyPost_ret (results_cell2 rfl rfl HRL.out) rfl ⟨us, d, rfl, HUL.out, HUO.out, HM9.out, HF.out⟩
end Wi
end Go.Proofs.YtpghaffjfinpeaaGreat

/-
  CONTRACT of (*wire.reader).offer. (wip/gen_read.py wrote this.)
-/
namespace Go.Proofs.YtpghaffjfinpeaaGreat
namespace Wi
open Go.RowKit Pk Am
set_option maxRecDepth 100000 in
set_option maxHeartbeats 8000000 in
theorem r_offer (q p : Nat) (x : Rs) (w : World) (hR : Rd w q p x) :
    Calls Tryz.prog 87 #[.pointer (some ⟨q, 0, none⟩)] w fun r w' => ∃ vs ds y, r = .returned (.agg vs.toArray) ∧ Got q p x w Koffer vs ds y w' := by
  obtain ⟨W0, hW0⟩ : ∃ W0, W0 = w.alloc (.cells #[.int .i64 0, .slice none 0 0] 167) := ⟨_, rfl⟩
  have hR0 : Rd W0 q p x := by rw [hW0]; exact hR.stays (fun k hk => Below.heap_alloc w _ k hk)
  have hat : At W0 w.heap.size #[.int .i64 0, .slice none 0 0] 167 := by rw [hW0]; exact heap_alloc_new w _
  have hsz : W0.heap.size = w.heap.size + 1 := by rw [hW0]; simp
  have hM0 : Moved w W0 [] := by rw [hW0]; exact (Moved.refl w []).alloc _
  have hA := Lib.hid (Got.refl hR0)
  have hc : W0.cell? ⟨q, 0, none⟩ = some (.pointer (some ⟨p, 0, none⟩)) := hR0.cell
  have HR := Lib.hid hR
  have HAT := Lib.hid hat
  have HSZ := Lib.hid hsz
  have HM0 := Lib.hid hM0
  have HI := Lib.hid (show (Tryz.prog.info? 167).map (·.size) = some 2 by kernel_rfl)
  have hmf : ∀ (fn : Fn) (first cap : Array Value) (w : World), (Instr.makeFunc fn first cap).run Tryz.prog w = .ok (.func fn first cap) w := fun _ _ _ _ => rfl
  clear hR hR0 hat hsz hM0
  go_enter Tryz.func87, Tryz.ntmps87
  rw [hW0] at hc
  go_wp2_with fail
  rw [← hW0] at hc ⊢
  clear hW0
  refine (g_int q p _ _ (by exact hA.out.rd)).mono ?_
  rintro e0 w1 ⟨n0, y0, rfl, hG⟩
  have hA := Lib.hid (hA.out.trans (Moved.refl _ []) hG)
  have hc := hA.out.rd.cell
  clear hG
  go_wp2_with fail
  refine (r_list_span q p _ 8 _ _ (by exact hA.out.rd) (by rfl) (by omega)).mono ?_
  rintro e1 w2 ⟨A1, z1, k1, r1, y1, rfl, hG⟩
  have hA := Lib.hid (hA.out.trans (Moved.refl _ []) hG)
  have hc := hA.out.rd.cell
  clear hG
  have hng : ∀ k ∈ [p, q], k ≠ w.heap.size := by
    have h1 := HR.out.ltp
    have h2 := HR.out.ltq
    intro k hk
    simp only [List.mem_cons, List.not_mem_nil, or_false] at hk
    omega
  have hat2 : At w2 w.heap.size #[.int .i64 0, .slice none 0 0] 167 := (hA.out.moved.block _ (by have := HSZ.out; omega) (fun hm => hng _ hm rfl)).trans HAT.out
  have H1 := Lib.hid (show (#[.int .i64 n0, .slice A1 z1 k1] : Array Value).all (·.oneCell') = true by rw [List.all_toArray]; exact data_one hA.out.data)
  obtain ⟨wZ, hw9⟩ : ∃ wZ, wZ = w2.setRow w.heap.size #[.int .i64 n0, .slice A1 z1 k1] := ⟨_, rfl⟩
  have hm9 : Moved w2 wZ [w.heap.size] := by rw [hw9]; exact moved_setRow (Moved.refl _ _) (.inl (by simp)) _
  have hat9 : At wZ w.heap.size #[.int .i64 n0, .slice A1 z1 k1] 167 := by rw [hw9]; exact setRow_heap _ _ _ _ _ _ hat2
  have hrl : (loadVar 167 ⟨w.heap.size, 0, none⟩).run Tryz.prog wZ = .ok (.agg #[.int .i64 n0, .slice A1 z1 k1]) wZ := run_loadVar_mid wZ w.heap.size 0 167 [.int .i64 n0, .slice A1 z1 k1] _ hat9.range Tryz.underlying167 rfl (by exact HI.out)
  have HG := Lib.hid (got_done HR.out HM0.out HSZ.out hA.out hm9)
  clear hA hm9 hat9 hng
  rw [hw9] at hrl HG
  clear hw9
  go_wp2_with (refine wpList_store_at rfl 167 _ _ rfl w.heap.size #[.int .i64 n0, .slice A1 z1 k1] rfl rfl _ hat2 (by exact HI.out) rfl H1.out ?_)
  exact bodyPost_ret (results_cell rfl rfl hrl) rfl ⟨_, _, _, rfl, HG.out⟩
end Wi
end Go.Proofs.YtpghaffjfinpeaaGreat

/-
  CONTRACT of wire.list[hanse/api.Offer]. (wip/gen_read.py wrote this.)
-/
namespace Go.Proofs.YtpghaffjfinpeaaGreat
namespace Wi
open Go.RowKit Pk Am
theorem rinfo_offer : (Tryz.prog.info? 167).map (fun i => (i.zero, i.size, i.bytes)) = some (some (.agg #[.int .i64 0, .slice none 0 0]), 2, 32) := by kernel_rfl
set_option maxRecDepth 100000 in
set_option maxHeartbeats 2000000 in
theorem r_list_offer (q p : Nat) (x : Rs) (most : Nat) (M : Int) (w : World) (h : Rd w q p x) (hM : M = (most : Int)) (hm : most ≤ 1024) :
    Calls Tryz.prog 86 #[.pointer (some ⟨q, 0, none⟩), .int .u64 M, .func (.func 87) #[.pointer (some ⟨q, 0, none⟩)] #[]] w fun r w' => ∃ A n c rows y, r = .returned (.slice A n c) ∧ Got q p x w [.list most Koffer] [.slice A n c] [.list most rows] y w' := by
  subst hM
  obtain ⟨i0, hi, hz, hsz, hby⟩ := info_parts rinfo_offer
  have hc := h.cell
  have HR := Lib.hid h
  clear h
  go_enter Tryz.func86, Tryz.ntmps86
  go_wp2_with fail
  refine (g_uint q p x _ (by exact HR.out)).mono ?_
  rintro e1 w1 ⟨n, y1, rfl, hn, hR1, hM1, ht1, hb1⟩
  have HS : Hid (p < w.heap.size ∧ q < w.heap.size) := ⟨HR.out.ltp, HR.out.ltq⟩
  have HT1 := Lib.hid ht1
  have HB1 := Lib.hid hb1
  have HM1 := Lib.hid hM1
  have k1 := cell_at hR1.blk 1 (v := .bool y1.t) rfl
  have f1 := free_at hR1.blk 1
  have HR1 := Lib.hid hR1
  clear hc ht1 hb1 hM1 hR1 hn
  by_cases hgt : most < n
  · go_wp2
    go_ret
    exact ⟨none, 0, 0, [], _, rfl, got_long HR1.out HM1.out HS.out⟩
  · have hn1 : n ≤ 1024 := by omega
    clear k1 f1
    go_wp2
    go_loopw [8, 21] (fun l i W => ∃ (k : Nat) (v : Value) (rows : List (List Dat)) (y : Rs), l = v ∧ i = .int .u64 k ∧ k ≤ n ∧ Lst q p w Koffer 167 y1 k v rows y W) (fun _ i _ => n - (intOf i).toNat)
    case atStart => exact ⟨0, _, [], y1, rfl, rfl, Nat.zero_le _, Lst.begin HR1.out HM1.out HS.out⟩
    case round =>
      obtain ⟨k, v, rows, y, rfl, rfl, hk, hL⟩ := hrel
      obtain ⟨cells, hown, hrows⟩ := hL.row
      have HROWS := Lib.hid hrows
      have HL := Lib.hid hL
      have HO := Lib.hid hown
      clear hrows hL hown
      by_cases hlt : k < n
      · go_wp2_with fail
        refine (r_offer q p y _ (by exact HL.out.rd)).mono ?_
        rintro e2 w2 ⟨vs, ds, zz, rfl, hG⟩
        obtain ⟨v0, v1, rfl⟩ : ∃ v0 v1, vs = [v0, v1] := list_2 hG.data.len.1
        have hown2 := own_moved' HO.out hG.moved (fun b hb hm => by
          have h1 := (HL.out.mine b hb).1
          have h2 := HS.out
          simp only [List.mem_cons, List.not_mem_nil, or_false] at hm
          omega)
        have HO2 := Lib.hid (own_stays hown2 (fun b hb => Below.heap_alloc w2 (.cells #[v0, v1] 167) b (own_lt hown2 b hb)))
        have H1 := Lib.hid (show ∀ u ∈ ([v0, v1] : List Value), u.oneCell' = true from fun u hu => (List.all_eq_true.1 (data_one hG.data)) u hu)
        have HG := Lib.hid hG
        clear hown2 hG
        go_wp2_with (at_builtin; refine wpList_append_roww rfl _ _ 123 rfl 167 i0 (.agg #[.int .i64 0, .slice none 0 0]) 2 32 Tryz.underlying123 hi hz hsz hby rfl (by omega) _ k cells rfl (by exact HO2.out) ⟨w2.heap.size, 0, none⟩ 1 1 [v0, v1] rfl rfl (fun j u hu => by have h := range_new w2 [v0, v1] 167 j u hu; rw [add_none_]; exact h) H1.out (by unfold maxLen; omega) (by omega) ?_)
        intro v' w3 hown3 hst3
        have HL2 := Lib.hid (HL.out.next (ds := ds) HROWS.out HO.out.1 HG.out hown3 hst3)
        clear hown3 hst3
        go_wp2
        go_roundw
        case rel => exact ⟨k + 1, v', _, _, rfl, by go_num, by omega, HL2.out⟩
        case measure => simp [intOf]; omega
      · obtain rfl : k = n := by omega
        obtain ⟨A, c, rfl⟩ := own_shapew HO.out
        go_wp2
        go_ret
        exact ⟨A, k, c, rows, y, rfl, HL.out.done (by omega) hm HT1.out HB1.out⟩
end Wi
end Go.Proofs.YtpghaffjfinpeaaGreat
