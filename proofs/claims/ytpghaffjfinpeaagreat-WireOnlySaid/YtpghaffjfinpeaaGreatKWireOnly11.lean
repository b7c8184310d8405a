/-
  2 texts in one: ReadPspan, ReadLspan.
-/
import Derived.Test.YtpghaffjfinpeaaGreatKWireOnly07
import Derived.Test.YtpghaffjfinpeaaGreatKWireOnly04

/-
  CONTRACT of (*wire.reader).span. (wip/gen_read.py wrote this.)
-/
namespace Go.Proofs.YtpghaffjfinpeaaGreat
namespace Wi
open Go.RowKit Pk Am
set_option maxRecDepth 100000 in
set_option maxHeartbeats 8000000 in
theorem r_span (q p : Nat) (x : Rs) (w : World) (hR : Rd w q p x) :
    Calls Tryz.prog 39 #[.pointer (some ⟨q, 0, none⟩)] w fun r w' => ∃ vs ds y, r = .returned (.agg vs.toArray) ∧ Got q p x w Kspan vs ds y w' := by
  obtain ⟨W0, hW0⟩ : ∃ W0, W0 = w.alloc (.cells #[.int .i64 0, .int .i64 0] 101) := ⟨_, rfl⟩
  have hR0 : Rd W0 q p x := by rw [hW0]; exact hR.stays (fun k hk => Below.heap_alloc w _ k hk)
  have hat : At W0 w.heap.size #[.int .i64 0, .int .i64 0] 101 := by rw [hW0]; exact heap_alloc_new w _
  have hsz : W0.heap.size = w.heap.size + 1 := by rw [hW0]; simp
  have hM0 : Moved w W0 [] := by rw [hW0]; exact (Moved.refl w []).alloc _
  have hA := Lib.hid (Got.refl hR0)
  have hc : W0.drew.cell? ⟨q, 0, none⟩ = some (.pointer (some ⟨p, 0, none⟩)) := hR0.cell
  have hwd : Moved W0 W0.drew [] := (Moved.refl W0 []).drew
  have HR := Lib.hid hR
  have HAT := Lib.hid hat
  have HSZ := Lib.hid hsz
  have HM0 := Lib.hid hM0
  have HI := Lib.hid (show (Tryz.prog.info? 101).map (·.size) = some 2 by kernel_rfl)
  have hmf : ∀ (fn : Fn) (first cap : Array Value) (w : World), (Instr.makeFunc fn first cap).run Tryz.prog w = .ok (.func fn first cap) w := fun _ _ _ _ => rfl
  clear hR hR0 hat hsz hM0
  go_enter Tryz.func39, Tryz.ntmps39
  go_wp2_with fail
  rw [← hW0]
  clear hW0
  refine wp_region_held (S := fun w' => w'.cell? ⟨q, 0, none⟩ = some (.pointer (some ⟨p, 0, none⟩))) (by kernel_rfl) ?_
  change wpAnyH _ _ _ _ _ _ _ _ (World.drew _)
  refine wpAnyH_take (i := 0) (v := .pointer (some ⟨q, 0, none⟩)) rfl (by kernel_rfl) (by kernel_rfl) (by kernel_rfl) (fun _ _ _ h => h) (Or.inl ⟨by rfl, fun w' hw => by go_simp⟩) hc ?_
  refine wpAnyH_take (i := 1) (v := .pointer (some ⟨q, 0, none⟩)) rfl (by kernel_rfl) (by kernel_rfl) (by kernel_rfl) (fun _ _ _ h => h) (Or.inl ⟨by rfl, fun w' hw => by go_simp⟩) hc ?_
  refine wpAnyH_take (i := 2) (v := .pointer (some ⟨q, 0, none⟩)) rfl (by kernel_rfl) (by kernel_rfl) (by kernel_rfl) (fun _ _ _ h => h) (Or.inl ⟨by rfl, fun w' hw => by go_simp⟩) hc ?_
  refine wpAnyH_take (i := 3) (v := .pointer (some ⟨p, 0, none⟩)) rfl (by kernel_rfl) (by kernel_rfl) (by kernel_rfl) (fun _ _ _ h => h) (Or.inl ⟨by rfl, fun w' hw => by go_simp⟩) hc ?_
  simp only [Act.put]
  try simp only [List.setIfInBounds_toArray]
  refine wpAnyH_take (i := 5) (v := .pointer (some ⟨q, 0, none⟩)) rfl (by kernel_rfl) (by kernel_rfl) (by kernel_rfl) (fun _ _ _ h => h) (Or.inl ⟨by rfl, fun w' hw => by go_simp⟩) hc ?_
  refine wpAnyH_take (i := 6) (v := .pointer (some ⟨q, 0, none⟩)) rfl (by kernel_rfl) (by kernel_rfl) (by kernel_rfl) (fun _ _ _ h => h) (Or.inl ⟨by rfl, fun w' hw => by go_simp⟩) hc ?_
  refine wpAnyH_take (i := 7) (v := .pointer (some ⟨q, 0, none⟩)) rfl (by kernel_rfl) (by kernel_rfl) (by kernel_rfl) (fun _ _ _ h => h) (Or.inl ⟨by rfl, fun w' hw => by go_simp⟩) hc ?_
  refine wpAnyH_take (i := 8) (v := .pointer (some ⟨p, 0, none⟩)) rfl (by kernel_rfl) (by kernel_rfl) (by kernel_rfl) (fun _ _ _ h => h) (Or.inl ⟨by rfl, fun w' hw => by go_simp⟩) hc ?_
  simp only [Act.put]
  try simp only [List.setIfInBounds_toArray]
  refine wpAnyH_ready (rs := [4]) (by kernel_rfl) (by simp) ?_
  refine AllReadyH.cons rfl (fun K hK => ?_) AllReadyH.nil
  rw [if_pos (by rfl)]
  go_simp
  refine (g_int q p _ _ (by exact (Got.rd hA.out).stays (fun _ _ => rfl))).mono ?_
  rintro e0 w1 ⟨n0, y0, rfl, hG⟩
  have hA := Lib.hid (hA.out.trans hwd hG)
  have hc := hA.out.rd.cell
  clear hG hwd
  refine hK.out _ _ hc (fun _ => ?_)
  clear hK K
  refine wpAnyH_ready (rs := [9]) (by kernel_rfl) (by simp) ?_
  refine AllReadyH.cons rfl (fun K hK => ?_) AllReadyH.nil
  rw [if_pos (by rfl)]
  go_simp
  refine (g_int q p _ _ (by exact hA.out.rd)).mono ?_
  rintro e1 w2 ⟨n1, y1, rfl, hG⟩
  have hA := Lib.hid (hA.out.trans (Moved.refl _ []) hG)
  have hc := hA.out.rd.cell
  clear hG
  refine hK.out _ _ hc (fun _ => ?_)
  clear hK K
  refine wpAnyH_take (i := 10) (v := .agg #[.int .i64 n0, .int .i64 n1]) rfl (by kernel_rfl) (by kernel_rfl) (by kernel_rfl) (fun _ _ _ h => h) (Or.inl ⟨by rfl, fun w' hw => by go_simp⟩) hc ?_
  refine wpAnyH_ready (rs := [11]) (by kernel_rfl) (by simp) ?_
  refine AllReadyH.cons rfl (fun K hK => ?_) AllReadyH.nil
  have hng : ∀ k ∈ [p, q], k ≠ w.heap.size := by
    have h1 := HR.out.ltp
    have h2 := HR.out.ltq
    intro k hk
    simp only [List.mem_cons, List.not_mem_nil, or_false] at hk
    omega
  have hat2 : At w2 w.heap.size #[.int .i64 0, .int .i64 0] 101 := (hA.out.moved.block _ (by have := HSZ.out; omega) (fun hm => hng _ hm rfl)).trans HAT.out
  refine step_store_row rfl 101 _ _ rfl w.heap.size #[.int .i64 n0, .int .i64 n1] rfl rfl _ hat2 (by exact HI.out) rfl (by rw [List.all_toArray]; exact data_one hA.out.data) ?_
  obtain ⟨wZ, hw9⟩ : ∃ wZ, wZ = w2.setRow w.heap.size #[.int .i64 n0, .int .i64 n1] := ⟨_, rfl⟩
  have hm9 : Moved w2 wZ [w.heap.size] := by rw [hw9]; exact moved_setRow (Moved.refl _ _) (.inl (by simp)) _
  have hat9 : At wZ w.heap.size #[.int .i64 n0, .int .i64 n1] 101 := by rw [hw9]; exact setRow_heap _ _ _ _ _ _ hat2
  rw [← hw9]
  have hc9 : wZ.cell? ⟨q, 0, none⟩ = some (.pointer (some ⟨p, 0, none⟩)) := by
    rw [World.cell?_of_block (w := w2) (hm9.block q hA.out.rd.ltq (by simpa using hng q (by simp)))]; exact hc
  refine hK.out _ _ hc9 (fun _ => ?_)
  clear hK K hat2 hw9
  refine wpAnyH_done (by kernel_rfl) ?_ _
  have hrl : (loadVar 101 ⟨w.heap.size, 0, none⟩).run Tryz.prog wZ = .ok (.agg #[.int .i64 n0, .int .i64 n1]) wZ := run_loadVar_mid wZ w.heap.size 0 101 [.int .i64 n0, .int .i64 n1] _ hat9.range Tryz.underlying101 rfl (by exact HI.out)
  have HG := Lib.hid (got_done HR.out HM0.out HSZ.out hA.out hm9)
  clear hA hc hc9 hm9 hat9 hng
  go_wp2_with fail
  exact bodyPost_ret (results_cell rfl rfl hrl) rfl ⟨_, _, _, rfl, HG.out⟩
end Wi
end Go.Proofs.YtpghaffjfinpeaaGreat

/-
  CONTRACT of wire.list[hanse/api.Span]. (wip/gen_read.py wrote this.)
-/
namespace Go.Proofs.YtpghaffjfinpeaaGreat
namespace Wi
open Go.RowKit Pk Am
theorem rinfo_span : (Tryz.prog.info? 101).map (fun i => (i.zero, i.size, i.bytes)) = some (some (.agg #[.int .i64 0, .int .i64 0]), 2, 16) := by kernel_rfl
set_option maxRecDepth 100000 in
set_option maxHeartbeats 2000000 in
theorem r_list_span (q p : Nat) (x : Rs) (most : Nat) (M : Int) (w : World) (h : Rd w q p x) (hM : M = (most : Int)) (hm : most ≤ 1024) :
    Calls Tryz.prog 38 #[.pointer (some ⟨q, 0, none⟩), .int .u64 M, .func (.func 39) #[.pointer (some ⟨q, 0, none⟩)] #[]] w fun r w' => ∃ A n c rows y, r = .returned (.slice A n c) ∧ Got q p x w [.list most Kspan] [.slice A n c] [.list most rows] y w' := by
  subst hM
  obtain ⟨i0, hi, hz, hsz, hby⟩ := info_parts rinfo_span
  have hc := h.cell
  have HR := Lib.hid h
  clear h
  go_enter Tryz.func38, Tryz.ntmps38
  go_wp2_with fail
  refine (g_uint q p x _ (by exact HR.out)).mono ?_
  rintro e1 w1 ⟨n, y1, rfl, hn, hR1, hM1, ht1, hb1⟩
  have HS : Hid (p < w.heap.size ∧ q < w.heap.size) := ⟨HR.out.ltp, HR.out.ltq⟩
  have HT1 := Lib.hid ht1
  have HB1 := Lib.hid hb1
  have HM1 := Lib.hid hM1
  have k1 := cell_at hR1.blk 1 (v := .bool y1.t) rfl
  have f1 := free_at hR1.blk 1
  have HR1 := Lib.hid hR1
  clear hc ht1 hb1 hM1 hR1 hn
  by_cases hgt : most < n
  · go_wp2
    go_ret
    exact ⟨none, 0, 0, [], _, rfl, got_long HR1.out HM1.out HS.out⟩
  · have hn1 : n ≤ 1024 := by omega
    clear k1 f1
    go_wp2
    go_loopw [8, 21] (fun l i W => ∃ (k : Nat) (v : Value) (rows : List (List Dat)) (y : Rs), l = v ∧ i = .int .u64 k ∧ k ≤ n ∧ Lst q p w Kspan 101 y1 k v rows y W) (fun _ i _ => n - (intOf i).toNat)
    case atStart => exact ⟨0, _, [], y1, rfl, rfl, Nat.zero_le _, Lst.begin HR1.out HM1.out HS.out⟩
    case round =>
      obtain ⟨k, v, rows, y, rfl, rfl, hk, hL⟩ := hrel
      obtain ⟨cells, hown, hrows⟩ := hL.row
      have HROWS := Lib.hid hrows
      have HL := Lib.hid hL
      have HO := Lib.hid hown
      clear hrows hL hown
      by_cases hlt : k < n
      · go_wp2_with fail
        refine (r_span q p y _ (by exact HL.out.rd)).mono ?_
        rintro e2 w2 ⟨vs, ds, zz, rfl, hG⟩
        obtain ⟨v0, v1, rfl⟩ : ∃ v0 v1, vs = [v0, v1] := list_2 hG.data.len.1
        have hown2 := own_moved' HO.out hG.moved (fun b hb hm => by
          have h1 := (HL.out.mine b hb).1
          have h2 := HS.out
          simp only [List.mem_cons, List.not_mem_nil, or_false] at hm
          omega)
        have HO2 := Lib.hid (own_stays hown2 (fun b hb => Below.heap_alloc w2 (.cells #[v0, v1] 101) b (own_lt hown2 b hb)))
        have H1 := Lib.hid (show ∀ u ∈ ([v0, v1] : List Value), u.oneCell' = true from fun u hu => (List.all_eq_true.1 (data_one hG.data)) u hu)
        have HG := Lib.hid hG
        clear hown2 hG
        go_wp2_with (at_builtin; refine wpList_append_roww rfl _ _ 31 rfl 101 i0 (.agg #[.int .i64 0, .int .i64 0]) 2 16 Tryz.underlying31 hi hz hsz hby rfl (by omega) _ k cells rfl (by exact HO2.out) ⟨w2.heap.size, 0, none⟩ 1 1 [v0, v1] rfl rfl (fun j u hu => by have h := range_new w2 [v0, v1] 101 j u hu; rw [add_none_]; exact h) H1.out (by unfold maxLen; omega) (by omega) ?_)
        intro v' w3 hown3 hst3
        have HL2 := Lib.hid (HL.out.next (ds := ds) HROWS.out HO.out.1 HG.out hown3 hst3)
        clear hown3 hst3
        go_wp2
        go_roundw
        case rel => exact ⟨k + 1, v', _, _, rfl, by go_num, by omega, HL2.out⟩
        case measure => simp [intOf]; omega
      · obtain rfl : k = n := by omega
        obtain ⟨A, c, rfl⟩ := own_shapew HO.out
        go_wp2
        go_ret
        exact ⟨A, k, c, rows, y, rfl, HL.out.done (by omega) hm HT1.out HB1.out⟩
end Wi
end Go.Proofs.YtpghaffjfinpeaaGreat
