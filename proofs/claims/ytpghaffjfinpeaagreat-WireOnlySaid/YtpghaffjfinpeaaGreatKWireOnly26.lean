/-
  1 texts in one: ReadTstate.
-/
import Derived.Test.YtpghaffjfinpeaaGreatKWireOnly07
import Derived.Test.YtpghaffjfinpeaaGreatKWireOnly25

/-
  CONTRACTS of wire.whole[api.State] and wire.ReadState. (wip/gen_read.py wrote this.)
-/
namespace Go.Proofs.YtpghaffjfinpeaaGreat
namespace Wi
open Go.RowKit Pk Am
/-- A struct and an error are answered; without an error the struct is what was read. -/
def Wholestate (y : Rs) (vs : List Value) (q p : Nat) (w : World) (r : Ending) (w' : World) : Prop :=
  ∃ us e, r = .returned (.tuple #[.agg us.toArray, .int .i64 e]) ∧ us.length = 12 ∧ us.all (·.oneCell') = true ∧ (e = 0 → us = vs ∧ y.t = false ∧ y.s = .ok []) ∧ Moved w w' [p, q]
set_option maxRecDepth 100000 in
set_option maxHeartbeats 4000000 in
theorem whole_state (q p : Nat) (y : Rs) (vs : List Value) (w : World) (hR : Rd w q p y) (hlen : vs.length = 12) (hone : vs.all (·.oneCell') = true) :
    Calls Tryz.prog 27 #[.pointer (some ⟨q, 0, none⟩), .agg vs.toArray] w (Wholestate y vs q p w) := by
  have hsz : (w.alloc (.cells vs.toArray 55)).heap.size = w.heap.size + 1 := by simp
  have hM1 : Moved w ((w.alloc (.cells vs.toArray 55)).alloc (.cells #[.int .i64 0, .complex .f64 0 0, .int .i64 0, .bool false, .int .i64 0, .int .i64 0, .slice none 0 0, .slice none 0 0, .slice none 0 0, .slice none 0 0, .slice none 0 0, .int .i64 0] 55)) [] := ((Moved.refl w []).alloc _).alloc _
  have hat3 : At ((w.alloc (.cells vs.toArray 55)).alloc (.cells #[.int .i64 0, .complex .f64 0 0, .int .i64 0, .bool false, .int .i64 0, .int .i64 0, .slice none 0 0, .slice none 0 0, .slice none 0 0, .slice none 0 0, .slice none 0 0, .int .i64 0] 55)) w.heap.size vs.toArray 55 := At.moved (heap_alloc_new w _) ((Moved.refl _ []).alloc _)
  have hat4 : At ((w.alloc (.cells vs.toArray 55)).alloc (.cells #[.int .i64 0, .complex .f64 0 0, .int .i64 0, .bool false, .int .i64 0, .int .i64 0, .slice none 0 0, .slice none 0 0, .slice none 0 0, .slice none 0 0, .slice none 0 0, .int .i64 0] 55)) (w.heap.size + 1) #[.int .i64 0, .complex .f64 0 0, .int .i64 0, .bool false, .int .i64 0, .int .i64 0, .slice none 0 0, .slice none 0 0, .slice none 0 0, .slice none 0 0, .slice none 0 0, .int .i64 0] 55 := by rw [← hsz]; exact heap_alloc_new _ _
  have hR1 : Rd ((w.alloc (.cells vs.toArray 55)).alloc (.cells #[.int .i64 0, .complex .f64 0 0, .int .i64 0, .bool false, .int .i64 0, .int .i64 0, .slice none 0 0, .slice none 0 0, .slice none 0 0, .slice none 0 0, .slice none 0 0, .int .i64 0] 55)) q p y := hR.stays (fun k hk => hM1.block k hk (by simp))
  have hpq : p < w.heap.size ∧ q < w.heap.size := ⟨hR.ltp, hR.ltq⟩
  have hc0 := hR1.cell
  have hc1 := cell_at hR1.blk 1 (v := .bool y.t) rfl
  have HI := Lib.hid (show (Tryz.prog.info? 55).map (·.size) = some 12 by kernel_rfl)
  have HIV := Lib.hid (show (Tryz.prog.info? 55).map (·.size) = some vs.length by rw [hlen]; kernel_rfl)
  have HIA := Lib.hid (show (Tryz.prog.info? 55).map (·.size) = some vs.toArray.size by rw [List.size_toArray, hlen]; kernel_rfl)
  have HV := Lib.hid (show (#[.int .i64 0, .complex .f64 0 0, .int .i64 0, .bool false, .int .i64 0, .int .i64 0, .slice none 0 0, .slice none 0 0, .slice none 0 0, .slice none 0 0, .slice none 0 0, .int .i64 0] : Array Value).size = vs.toArray.size from Eq.trans (b := 12) rfl (by rw [List.size_toArray, hlen]))
  have HO := Lib.hid (show vs.toArray.all (·.oneCell') = true by rw [List.all_toArray]; exact hone)
  have HL := Lib.hid hlen
  have HON := Lib.hid hone
  have HR1 := Lib.hid hR1
  have HA3 := Lib.hid hat3
  have HA4 := Lib.hid hat4
  have HPQ := Lib.hid hpq
  clear hsz hM1 hat3 hat4 hR1 hpq hlen hone hR
  cases ht : y.t with
  | true =>
    rw [ht] at hc1
    have hmv : Moved ((w.alloc (.cells vs.toArray 55)).alloc (.cells #[.int .i64 0, .complex .f64 0 0, .int .i64 0, .bool false, .int .i64 0, .int .i64 0, .slice none 0 0, .slice none 0 0, .slice none 0 0, .slice none 0 0, .slice none 0 0, .int .i64 0] 55)) ((w.alloc (.cells vs.toArray 55)).alloc (.cells #[.int .i64 0, .complex .f64 0 0, .int .i64 0, .bool false, .int .i64 0, .int .i64 0, .slice none 0 0, .slice none 0 0, .slice none 0 0, .slice none 0 0, .slice none 0 0, .int .i64 0] 55)) [p, q] := Moved.refl _ _
    have h1 : ((w.alloc (.cells vs.toArray 55)).alloc (.cells #[.int .i64 0, .complex .f64 0 0, .int .i64 0, .bool false, .int .i64 0, .int .i64 0, .slice none 0 0, .slice none 0 0, .slice none 0 0, .slice none 0 0, .slice none 0 0, .int .i64 0] 55)).heap.size = w.heap.size + 2 := by simp
    have h2 := hmv.size
    have h3 := HPQ.out
    have hat : At (((w.alloc (.cells vs.toArray 55)).alloc (.cells #[.int .i64 0, .complex .f64 0 0, .int .i64 0, .bool false, .int .i64 0, .int .i64 0, .slice none 0 0, .slice none 0 0, .slice none 0 0, .slice none 0 0, .slice none 0 0, .int .i64 0] 55)).alloc (.cells #[.int .i64 0, .complex .f64 0 0, .int .i64 0, .bool false, .int .i64 0, .int .i64 0, .slice none 0 0, .slice none 0 0, .slice none 0 0, .slice none 0 0, .slice none 0 0, .int .i64 0] 55)) (w.heap.size + 1) #[.int .i64 0, .complex .f64 0 0, .int .i64 0, .bool false, .int .i64 0, .int .i64 0, .slice none 0 0, .slice none 0 0, .slice none 0 0, .slice none 0 0, .slice none 0 0, .int .i64 0] 55 := (Below.heap_alloc ((w.alloc (.cells vs.toArray 55)).alloc (.cells #[.int .i64 0, .complex .f64 0 0, .int .i64 0, .bool false, .int .i64 0, .int .i64 0, .slice none 0 0, .slice none 0 0, .slice none 0 0, .slice none 0 0, .slice none 0 0, .int .i64 0] 55)) _ _ (by omega)).trans ((hmv.block _ (by omega) (by simp; omega)).trans HA4.out)
    have HAT := Lib.hid hat
    have hrz : (((w.alloc (.cells vs.toArray 55)).alloc (.cells #[.int .i64 0, .complex .f64 0 0, .int .i64 0, .bool false, .int .i64 0, .int .i64 0, .slice none 0 0, .slice none 0 0, .slice none 0 0, .slice none 0 0, .slice none 0 0, .int .i64 0] 55)).alloc (.cells #[.int .i64 0, .complex .f64 0 0, .int .i64 0, .bool false, .int .i64 0, .int .i64 0, .slice none 0 0, .slice none 0 0, .slice none 0 0, .slice none 0 0, .slice none 0 0, .int .i64 0] 55)).rangeAt ((w.alloc (.cells vs.toArray 55)).alloc (.cells #[.int .i64 0, .complex .f64 0 0, .int .i64 0, .bool false, .int .i64 0, .int .i64 0, .slice none 0 0, .slice none 0 0, .slice none 0 0, .slice none 0 0, .slice none 0 0, .int .i64 0] 55)).heap.size 0 [.int .i64 0, .complex .f64 0 0, .int .i64 0, .bool false, .int .i64 0, .int .i64 0, .slice none 0 0, .slice none 0 0, .slice none 0 0, .slice none 0 0, .slice none 0 0, .int .i64 0] := range_new ((w.alloc (.cells vs.toArray 55)).alloc (.cells #[.int .i64 0, .complex .f64 0 0, .int .i64 0, .bool false, .int .i64 0, .int .i64 0, .slice none 0 0, .slice none 0 0, .slice none 0 0, .slice none 0 0, .slice none 0 0, .int .i64 0] 55)) [.int .i64 0, .complex .f64 0 0, .int .i64 0, .bool false, .int .i64 0, .int .i64 0, .slice none 0 0, .slice none 0 0, .slice none 0 0, .slice none 0 0, .slice none 0 0, .int .i64 0] 55
    have hsz2 : ((w.alloc (.cells vs.toArray 55)).alloc (.cells #[.int .i64 0, .complex .f64 0 0, .int .i64 0, .bool false, .int .i64 0, .int .i64 0, .slice none 0 0, .slice none 0 0, .slice none 0 0, .slice none 0 0, .slice none 0 0, .int .i64 0] 55)).heap.size = w.heap.size + 1 + 1 := by rw [World.size_alloc, World.size_alloc]
    rw [hsz2] at hrz
    have HRZ := Lib.hid hrz
    have hm9 : Moved w ((((w.alloc (.cells vs.toArray 55)).alloc (.cells #[.int .i64 0, .complex .f64 0 0, .int .i64 0, .bool false, .int .i64 0, .int .i64 0, .slice none 0 0, .slice none 0 0, .slice none 0 0, .slice none 0 0, .slice none 0 0, .int .i64 0] 55)).alloc (.cells #[.int .i64 0, .complex .f64 0 0, .int .i64 0, .bool false, .int .i64 0, .int .i64 0, .slice none 0 0, .slice none 0 0, .slice none 0 0, .slice none 0 0, .slice none 0 0, .int .i64 0] 55)).setRow (w.heap.size + 1) #[.int .i64 0, .complex .f64 0 0, .int .i64 0, .bool false, .int .i64 0, .int .i64 0, .slice none 0 0, .slice none 0 0, .slice none 0 0, .slice none 0 0, .slice none 0 0, .int .i64 0]) [p, q] := moved_setRow ((((Moved.refl w [p, q]).alloc _).alloc _).trans (hmv.alloc _) (fun k hk => .inl hk)) (.inr (by omega)) _
    have HM9 := Lib.hid hm9
    have hrl : (loadVar 55 ⟨w.heap.size + 1, 0, none⟩).run Tryz.prog ((((w.alloc (.cells vs.toArray 55)).alloc (.cells #[.int .i64 0, .complex .f64 0 0, .int .i64 0, .bool false, .int .i64 0, .int .i64 0, .slice none 0 0, .slice none 0 0, .slice none 0 0, .slice none 0 0, .slice none 0 0, .int .i64 0] 55)).alloc (.cells #[.int .i64 0, .complex .f64 0 0, .int .i64 0, .bool false, .int .i64 0, .int .i64 0, .slice none 0 0, .slice none 0 0, .slice none 0 0, .slice none 0 0, .slice none 0 0, .int .i64 0] 55)).setRow (w.heap.size + 1) #[.int .i64 0, .complex .f64 0 0, .int .i64 0, .bool false, .int .i64 0, .int .i64 0, .slice none 0 0, .slice none 0 0, .slice none 0 0, .slice none 0 0, .slice none 0 0, .int .i64 0]) = .ok (.agg #[.int .i64 0, .complex .f64 0 0, .int .i64 0, .bool false, .int .i64 0, .int .i64 0, .slice none 0 0, .slice none 0 0, .slice none 0 0, .slice none 0 0, .slice none 0 0, .int .i64 0]) ((((w.alloc (.cells vs.toArray 55)).alloc (.cells #[.int .i64 0, .complex .f64 0 0, .int .i64 0, .bool false, .int .i64 0, .int .i64 0, .slice none 0 0, .slice none 0 0, .slice none 0 0, .slice none 0 0, .slice none 0 0, .int .i64 0] 55)).alloc (.cells #[.int .i64 0, .complex .f64 0 0, .int .i64 0, .bool false, .int .i64 0, .int .i64 0, .slice none 0 0, .slice none 0 0, .slice none 0 0, .slice none 0 0, .slice none 0 0, .int .i64 0] 55)).setRow (w.heap.size + 1) #[.int .i64 0, .complex .f64 0 0, .int .i64 0, .bool false, .int .i64 0, .int .i64 0, .slice none 0 0, .slice none 0 0, .slice none 0 0, .slice none 0 0, .slice none 0 0, .int .i64 0]) := run_loadVar_mid _ (w.heap.size + 1) 0 55 [.int .i64 0, .complex .f64 0 0, .int .i64 0, .bool false, .int .i64 0, .int .i64 0, .slice none 0 0, .slice none 0 0, .slice none 0 0, .slice none 0 0, .slice none 0 0, .int .i64 0] _ (At.range (vs := [.int .i64 0, .complex .f64 0 0, .int .i64 0, .bool false, .int .i64 0, .int .i64 0, .slice none 0 0, .slice none 0 0, .slice none 0 0, .slice none 0 0, .slice none 0 0, .int .i64 0]) (setRow_heap _ _ _ _ _ _ hat)) Tryz.underlying55 rfl (by exact HI.out)
    have HRL := Lib.hid hrl
    clear h1 h2 h3 hmv hat hrz hm9 hrl
    clear ht hsz2
    go_enter Tryz.func27, Tryz.ntmps27
    go_wp2_with (first
      | (refine wpList_load_mid rfl 55 _ rfl _ 0 rfl [.int .i64 0, .complex .f64 0 0, .int .i64 0, .bool false, .int .i64 0, .int .i64 0, .slice none 0 0, .slice none 0 0, .slice none 0 0, .slice none 0 0, .slice none 0 0, .int .i64 0] _ HRZ.out Tryz.underlying55 rfl (by exact HI.out) ?_)
      | (refine wpList_store_at rfl 55 _ _ rfl (w.heap.size + 1) #[.int .i64 0, .complex .f64 0 0, .int .i64 0, .bool false, .int .i64 0, .int .i64 0, .slice none 0 0, .slice none 0 0, .slice none 0 0, .slice none 0 0, .slice none 0 0, .int .i64 0] rfl rfl _ HAT.out (by exact HI.out) rfl (by rw [List.all_toArray]; rfl) ?_))
    exact bodyPost_ret (results_cell2 rfl rfl HRL.out) rfl ⟨[.int .i64 0, .complex .f64 0 0, .int .i64 0, .bool false, .int .i64 0, .int .i64 0, .slice none 0 0, .slice none 0 0, .slice none 0 0, .slice none 0 0, .slice none 0 0, .int .i64 0], 6, rfl, rfl, rfl, (fun h => by cases h), HM9.out⟩
  | false =>
    rw [ht] at hc1
    have HT := Lib.hid ht
    clear ht
    go_enter Tryz.func27, Tryz.ntmps27
    go_wp2_with fail
    refine (g_done q p y _ (by exact HR1.out)).mono ?_
    rintro e1 w2 ⟨d, rfl, hd0, hmv, -⟩
    by_cases hd : d = 0
    · subst hd
      have HD := Lib.hid (hd0 rfl)
      have h1 : ((w.alloc (.cells vs.toArray 55)).alloc (.cells #[.int .i64 0, .complex .f64 0 0, .int .i64 0, .bool false, .int .i64 0, .int .i64 0, .slice none 0 0, .slice none 0 0, .slice none 0 0, .slice none 0 0, .slice none 0 0, .int .i64 0] 55)).heap.size = w.heap.size + 2 := by simp
      have h2 := hmv.size
      have h3 := HPQ.out
      have hat : At w2 (w.heap.size + 1) #[.int .i64 0, .complex .f64 0 0, .int .i64 0, .bool false, .int .i64 0, .int .i64 0, .slice none 0 0, .slice none 0 0, .slice none 0 0, .slice none 0 0, .slice none 0 0, .int .i64 0] 55 := (hmv.block _ (by omega) (by simp; omega)).trans HA4.out
      have har : At w2 w.heap.size vs.toArray 55 := (hmv.block _ (by omega) (by simp; omega)).trans HA3.out
      have HAT := Lib.hid hat
      have HAR := Lib.hid har
      have hm9 : Moved w (w2.setRow (w.heap.size + 1) vs.toArray) [p, q] := moved_setRow ((((Moved.refl w [p, q]).alloc _).alloc _).trans hmv (fun k hk => .inl hk)) (.inr (by omega)) _
      have HM9 := Lib.hid hm9
      have hrl : (loadVar 55 ⟨w.heap.size + 1, 0, none⟩).run Tryz.prog (w2.setRow (w.heap.size + 1) vs.toArray) = .ok (.agg vs.toArray) (w2.setRow (w.heap.size + 1) vs.toArray) := run_loadVar_mid _ (w.heap.size + 1) 0 55 vs _ (At.range (setRow_heap _ _ _ _ _ _ hat)) Tryz.underlying55 rfl HIV.out
      have HRL := Lib.hid hrl
      clear h1 h2 h3 hmv hat har hm9 hrl hd0 hc0 hc1
      go_wp2_with (first
        | (refine wpList_load_mid rfl 55 _ rfl w.heap.size 0 rfl vs _ HAR.out.range Tryz.underlying55 rfl HIV.out ?_)
        | (refine wpList_store_at rfl 55 _ _ rfl (w.heap.size + 1) vs.toArray rfl rfl _ HAT.out HIA.out HV.out HO.out ?_))
      exact bodyPost_ret (results_cell2 rfl rfl HRL.out) rfl ⟨vs, 0, rfl, HL.out, HON.out, fun _ => ⟨rfl, HT.out, HD.out⟩, HM9.out⟩
    · have hdn : (d != 0) = true := by simpa using hd
      have h1 : ((w.alloc (.cells vs.toArray 55)).alloc (.cells #[.int .i64 0, .complex .f64 0 0, .int .i64 0, .bool false, .int .i64 0, .int .i64 0, .slice none 0 0, .slice none 0 0, .slice none 0 0, .slice none 0 0, .slice none 0 0, .int .i64 0] 55)).heap.size = w.heap.size + 2 := by simp
      have h2 := hmv.size
      have h3 := HPQ.out
      have hat : At (w2.alloc (.cells #[.int .i64 0, .complex .f64 0 0, .int .i64 0, .bool false, .int .i64 0, .int .i64 0, .slice none 0 0, .slice none 0 0, .slice none 0 0, .slice none 0 0, .slice none 0 0, .int .i64 0] 55)) (w.heap.size + 1) #[.int .i64 0, .complex .f64 0 0, .int .i64 0, .bool false, .int .i64 0, .int .i64 0, .slice none 0 0, .slice none 0 0, .slice none 0 0, .slice none 0 0, .slice none 0 0, .int .i64 0] 55 := (Below.heap_alloc w2 _ _ (by omega)).trans ((hmv.block _ (by omega) (by simp; omega)).trans HA4.out)
      have HAT := Lib.hid hat
      have hrz : (w2.alloc (.cells #[.int .i64 0, .complex .f64 0 0, .int .i64 0, .bool false, .int .i64 0, .int .i64 0, .slice none 0 0, .slice none 0 0, .slice none 0 0, .slice none 0 0, .slice none 0 0, .int .i64 0] 55)).rangeAt w2.heap.size 0 [.int .i64 0, .complex .f64 0 0, .int .i64 0, .bool false, .int .i64 0, .int .i64 0, .slice none 0 0, .slice none 0 0, .slice none 0 0, .slice none 0 0, .slice none 0 0, .int .i64 0] := range_new w2 [.int .i64 0, .complex .f64 0 0, .int .i64 0, .bool false, .int .i64 0, .int .i64 0, .slice none 0 0, .slice none 0 0, .slice none 0 0, .slice none 0 0, .slice none 0 0, .int .i64 0] 55
      have HRZ := Lib.hid hrz
      have hm9 : Moved w ((w2.alloc (.cells #[.int .i64 0, .complex .f64 0 0, .int .i64 0, .bool false, .int .i64 0, .int .i64 0, .slice none 0 0, .slice none 0 0, .slice none 0 0, .slice none 0 0, .slice none 0 0, .int .i64 0] 55)).setRow (w.heap.size + 1) #[.int .i64 0, .complex .f64 0 0, .int .i64 0, .bool false, .int .i64 0, .int .i64 0, .slice none 0 0, .slice none 0 0, .slice none 0 0, .slice none 0 0, .slice none 0 0, .int .i64 0]) [p, q] := moved_setRow ((((Moved.refl w [p, q]).alloc _).alloc _).trans (hmv.alloc _) (fun k hk => .inl hk)) (.inr (by omega)) _
      have HM9 := Lib.hid hm9
      have hrl : (loadVar 55 ⟨w.heap.size + 1, 0, none⟩).run Tryz.prog ((w2.alloc (.cells #[.int .i64 0, .complex .f64 0 0, .int .i64 0, .bool false, .int .i64 0, .int .i64 0, .slice none 0 0, .slice none 0 0, .slice none 0 0, .slice none 0 0, .slice none 0 0, .int .i64 0] 55)).setRow (w.heap.size + 1) #[.int .i64 0, .complex .f64 0 0, .int .i64 0, .bool false, .int .i64 0, .int .i64 0, .slice none 0 0, .slice none 0 0, .slice none 0 0, .slice none 0 0, .slice none 0 0, .int .i64 0]) = .ok (.agg #[.int .i64 0, .complex .f64 0 0, .int .i64 0, .bool false, .int .i64 0, .int .i64 0, .slice none 0 0, .slice none 0 0, .slice none 0 0, .slice none 0 0, .slice none 0 0, .int .i64 0]) ((w2.alloc (.cells #[.int .i64 0, .complex .f64 0 0, .int .i64 0, .bool false, .int .i64 0, .int .i64 0, .slice none 0 0, .slice none 0 0, .slice none 0 0, .slice none 0 0, .slice none 0 0, .int .i64 0] 55)).setRow (w.heap.size + 1) #[.int .i64 0, .complex .f64 0 0, .int .i64 0, .bool false, .int .i64 0, .int .i64 0, .slice none 0 0, .slice none 0 0, .slice none 0 0, .slice none 0 0, .slice none 0 0, .int .i64 0]) := run_loadVar_mid _ (w.heap.size + 1) 0 55 [.int .i64 0, .complex .f64 0 0, .int .i64 0, .bool false, .int .i64 0, .int .i64 0, .slice none 0 0, .slice none 0 0, .slice none 0 0, .slice none 0 0, .slice none 0 0, .int .i64 0] _ (At.range (vs := [.int .i64 0, .complex .f64 0 0, .int .i64 0, .bool false, .int .i64 0, .int .i64 0, .slice none 0 0, .slice none 0 0, .slice none 0 0, .slice none 0 0, .slice none 0 0, .int .i64 0]) (setRow_heap _ _ _ _ _ _ hat)) Tryz.underlying55 rfl (by exact HI.out)
      have HRL := Lib.hid hrl
      clear h1 h2 h3 hmv hat hrz hm9 hrl
      clear hd0 hc0 hc1 hd
      go_wp2_with (first
      | (refine wpList_load_mid rfl 55 _ rfl _ 0 rfl [.int .i64 0, .complex .f64 0 0, .int .i64 0, .bool false, .int .i64 0, .int .i64 0, .slice none 0 0, .slice none 0 0, .slice none 0 0, .slice none 0 0, .slice none 0 0, .int .i64 0] _ HRZ.out Tryz.underlying55 rfl (by exact HI.out) ?_)
      | (refine wpList_store_at rfl 55 _ _ rfl (w.heap.size + 1) #[.int .i64 0, .complex .f64 0 0, .int .i64 0, .bool false, .int .i64 0, .int .i64 0, .slice none 0 0, .slice none 0 0, .slice none 0 0, .slice none 0 0, .slice none 0 0, .int .i64 0] rfl rfl _ HAT.out (by exact HI.out) rfl (by rw [List.all_toArray]; rfl) ?_))
      exact bodyPost_ret (results_cell2 rfl rfl HRL.out) rfl ⟨[.int .i64 0, .complex .f64 0 0, .int .i64 0, .bool false, .int .i64 0, .int .i64 0, .slice none 0 0, .slice none 0 0, .slice none 0 0, .slice none 0 0, .slice none 0 0, .int .i64 0], 6, rfl, rfl, rfl, (fun h => by cases h), HM9.out⟩
set_option maxRecDepth 100000 in
set_option maxHeartbeats 4000000 in
theorem read_state (A : Option Addr) (n c : Nat) (xs : List Int) (w : World) (hA : NRow .u8 w A xs) (hn : xs.length = n) (hb : ByteList xs) (hc : A = none → c = 0) (hl : n ≤ 70368744177664) :
    Calls Tryz.prog 11 #[.slice A n c] w fun r w' => ∃ us e, r = .returned (.tuple #[.agg us.toArray, .int .i64 e]) ∧ us.length = 12 ∧ us.all (·.oneCell') = true ∧ Moved w w' [] ∧ (e = 0 → ∃ ds, HoldsAll w' w'.heap.size Kstate us ds ∧ RightDs ds ∧ xs = encDs ds) := by
  obtain ⟨W0, hW0⟩ : ∃ W0, W0 = w.alloc (.cells #[.int .i64 0, .complex .f64 0 0, .int .i64 0, .bool false, .int .i64 0, .int .i64 0, .slice none 0 0, .slice none 0 0, .slice none 0 0, .slice none 0 0, .slice none 0 0, .int .i64 0] 55) := ⟨_, rfl⟩
  have hA0 : NRow .u8 W0 A xs := by rw [hW0]; exact hA.alloc _
  have hat : At W0 w.heap.size #[.int .i64 0, .complex .f64 0 0, .int .i64 0, .bool false, .int .i64 0, .int .i64 0, .slice none 0 0, .slice none 0 0, .slice none 0 0, .slice none 0 0, .slice none 0 0, .int .i64 0] 55 := by rw [hW0]; exact heap_alloc_new w _
  have hM0 : Moved w W0 [] := by rw [hW0]; exact (Moved.refl w []).alloc _
  have hs0 : W0.heap.size = w.heap.size + 1 := by rw [hW0]; simp
  have HN := Lib.hid (new_reader A n c xs W0 hA0 hn hb hc hl)
  have HI := Lib.hid (show (Tryz.prog.info? 55).map (·.size) = some 12 by kernel_rfl)
  have HAT := Lib.hid hat
  have HM0 := Lib.hid hM0
  have HS0 := Lib.hid hs0
  clear hA hn hb hc hl hA0 hat hM0 hs0
  go_enter Tryz.func11, Tryz.ntmps11
  go_wp2_with fail
  rw [← hW0]
  clear hW0
  refine HN.out.mono ?_
  rintro e1 w1 ⟨q, p, rfl, hR1, hM1, hq1, hp1⟩
  have HR1 := Lib.hid hR1
  have HM1 := Lib.hid hM1
  have HQ := Lib.hid hq1
  have HP := Lib.hid hp1
  clear hR1 hM1 hq1 hp1
  go_wp2_with fail
  refine (r_state q p _ _ (by exact HR1.out)).mono ?_
  rintro e2 w2 ⟨vs, ds, y, rfl, hG⟩
  have HG := Lib.hid hG
  clear hG
  go_wp2_with fail
  refine (whole_state q p y vs _ (by exact HG.out.rd) HG.out.data.len.1 (data_one HG.out.data)).mono ?_
  rintro e3 w3 ⟨us, d, rfl, hul, huo, hud, hM3⟩
  have h0 := HS0.out
  have h1 := HM1.out.size
  have h2 := HG.out.moved.size
  have h3 := hM3.size
  have hq := HQ.out
  have hp := HP.out
  have hst := HG.out.start
  have hmv : Moved W0 w3 [] := (HM1.out.trans (HG.out.moved.trans hM3 (fun k hk => .inl hk)) (fun k hk => .inr (by simp only [List.mem_cons, List.not_mem_nil, or_false] at hk; omega)))
  have hat3 : At w3 w.heap.size #[.int .i64 0, .complex .f64 0 0, .int .i64 0, .bool false, .int .i64 0, .int .i64 0, .slice none 0 0, .slice none 0 0, .slice none 0 0, .slice none 0 0, .slice none 0 0, .int .i64 0] 55 := (hmv.block _ (by omega) (by simp)).trans HAT.out
  have HA3 := Lib.hid hat3
  have HIA := Lib.hid (show (Tryz.prog.info? 55).map (·.size) = some us.toArray.size by rw [List.size_toArray, hul]; exact HI.out)
  have HIU := Lib.hid (show (Tryz.prog.info? 55).map (·.size) = some us.length by rw [hul]; exact HI.out)
  have HV := Lib.hid (show (#[.int .i64 0, .complex .f64 0 0, .int .i64 0, .bool false, .int .i64 0, .int .i64 0, .slice none 0 0, .slice none 0 0, .slice none 0 0, .slice none 0 0, .slice none 0 0, .int .i64 0] : Array Value).size = us.toArray.size from Eq.trans (b := 12) rfl (by rw [List.size_toArray, hul]))
  have HO := Lib.hid (show us.toArray.all (·.oneCell') = true by rw [List.all_toArray]; exact huo)
  have hm9 : Moved w (w3.setRow w.heap.size us.toArray) [] := moved_setRow (HM0.out.trans hmv (fun k hk => by cases hk)) (.inr (Nat.le_refl _)) _
  have HM9 := Lib.hid hm9
  have hrl : (loadVar 55 ⟨w.heap.size, 0, none⟩).run Tryz.prog (w3.setRow w.heap.size us.toArray) = .ok (.agg us.toArray) (w3.setRow w.heap.size us.toArray) := run_loadVar_mid _ w.heap.size 0 55 us _ (At.range (setRow_heap _ _ _ _ _ _ hat3)) Tryz.underlying55 rfl HIU.out
  have HRL := Lib.hid hrl
  have hms : Moved w3 (w3.setRow w.heap.size us.toArray) [w.heap.size] := moved_setRow (Moved.refl _ _) (.inl (by simp)) _
  have hss := hms.size
  have HF := Lib.hid (show d = 0 → ∃ ds, HoldsAll (w3.setRow w.heap.size us.toArray) (w3.setRow w.heap.size us.toArray).heap.size Kstate us ds ∧ RightDs ds ∧ xs = encDs ds from fun hd => by
    obtain ⟨rfl, ht, hs⟩ := hud hd
    obtain ⟨b1, b2, b3⟩ := HG.out.back [] hs ht
    refine ⟨ds, HoldsDs.holds (D := fun k => k < (w3.setRow w.heap.size us.toArray).heap.size) (fun k hk => hk) _ _ _ (HoldsDs.to (fun k hk => ?_) _ _ _ HG.out.data), b2, ?_⟩
    · have hk1 := hk.1
      have hk2 := hk.2
      exact ⟨(hms.block k (by omega) (by simp; omega)).trans (hM3.block k hk2 (by simp only [List.mem_cons, List.not_mem_nil, or_false]; omega)), by omega⟩
    · simp only [List.append_nil] at b3
      injection b3)
  have HUL := Lib.hid hul
  have HUO := Lib.hid huo
  clear h0 h1 h2 h3 hq hp hst hmv hat3 hm9 hrl hms hss hud hM3 hul huo
  go_wp2_with (refine wpList_store_at rfl 55 _ _ rfl w.heap.size us.toArray rfl rfl _ HA3.out HIA.out HV.out HO.out ?_)
  exact bodyPost_ret (results_cell2 rfl rfl HRL.out) rfl ⟨us, d, rfl, HUL.out, HUO.out, HM9.out, HF.out⟩
end Wi
end Go.Proofs.YtpghaffjfinpeaaGreat
