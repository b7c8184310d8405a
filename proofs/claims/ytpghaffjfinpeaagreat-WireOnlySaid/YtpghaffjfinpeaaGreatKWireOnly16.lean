/-
  1 texts in one: ReadLpart.
-/
import Derived.Test.YtpghaffjfinpeaaGreatKWireOnly07
import Derived.Test.YtpghaffjfinpeaaGreatKWireOnly04
import Derived.Test.YtpghaffjfinpeaaGreatKWireOnly15

/-
  CONTRACT of wire.list[hanse/api.Part]. (wip/gen_read.py wrote this.)
-/
namespace Go.Proofs.YtpghaffjfinpeaaGreat
namespace Wi
open Go.RowKit Pk Am
theorem rinfo_part : (Tryz.prog.info? 171).map (fun i => (i.zero, i.size, i.bytes)) = some (some (.agg #[.int .i64 0, .int .i64 0, .int .i64 0]), 3, 24) := by kernel_rfl
set_option maxRecDepth 100000 in
set_option maxHeartbeats 2000000 in
theorem r_list_part (q p : Nat) (x : Rs) (most : Nat) (M : Int) (w : World) (h : Rd w q p x) (hM : M = (most : Int)) (hm : most ≤ 1024) :
    Calls Tryz.prog 88 #[.pointer (some ⟨q, 0, none⟩), .int .u64 M, .func (.func 89) #[.pointer (some ⟨q, 0, none⟩)] #[]] w fun r w' => ∃ A n c rows y, r = .returned (.slice A n c) ∧ Got q p x w [.list most Kpart] [.slice A n c] [.list most rows] y w' := by
  subst hM
  obtain ⟨i0, hi, hz, hsz, hby⟩ := info_parts rinfo_part
  have hc := h.cell
  have HR := Lib.hid h
  clear h
  go_enter Tryz.func88, Tryz.ntmps88
  go_wp2_with fail
  refine (g_uint q p x _ (by exact HR.out)).mono ?_
  rintro e1 w1 ⟨n, y1, rfl, hn, hR1, hM1, ht1, hb1⟩
  have HS : Hid (p < w.heap.size ∧ q < w.heap.size) := ⟨HR.out.ltp, HR.out.ltq⟩
  have HT1 := Lib.hid ht1
  have HB1 := Lib.hid hb1
  have HM1 := Lib.hid hM1
  have k1 := cell_at hR1.blk 1 (v := .bool y1.t) rfl
  have f1 := free_at hR1.blk 1
  have HR1 := Lib.hid hR1
  clear hc ht1 hb1 hM1 hR1 hn
  by_cases hgt : most < n
  · go_wp2
    go_ret
    exact ⟨none, 0, 0, [], _, rfl, got_long HR1.out HM1.out HS.out⟩
  · have hn1 : n ≤ 1024 := by omega
    clear k1 f1
    go_wp2
    go_loopw [8, 21] (fun l i W => ∃ (k : Nat) (v : Value) (rows : List (List Dat)) (y : Rs), l = v ∧ i = .int .u64 k ∧ k ≤ n ∧ Lst q p w Kpart 171 y1 k v rows y W) (fun _ i _ => n - (intOf i).toNat)
    case atStart => exact ⟨0, _, [], y1, rfl, rfl, Nat.zero_le _, Lst.begin HR1.out HM1.out HS.out⟩
    case round =>
      obtain ⟨k, v, rows, y, rfl, rfl, hk, hL⟩ := hrel
      obtain ⟨cells, hown, hrows⟩ := hL.row
      have HROWS := Lib.hid hrows
      have HL := Lib.hid hL
      have HO := Lib.hid hown
      clear hrows hL hown
      by_cases hlt : k < n
      · go_wp2_with fail
        refine (r_part q p y _ (by exact HL.out.rd)).mono ?_
        rintro e2 w2 ⟨vs, ds, zz, rfl, hG⟩
        obtain ⟨v0, v1, v2, rfl⟩ : ∃ v0 v1 v2, vs = [v0, v1, v2] := list_3 hG.data.len.1
        have hown2 := own_moved' HO.out hG.moved (fun b hb hm => by
          have h1 := (HL.out.mine b hb).1
          have h2 := HS.out
          simp only [List.mem_cons, List.not_mem_nil, or_false] at hm
          omega)
        have HO2 := Lib.hid (own_stays hown2 (fun b hb => Below.heap_alloc w2 (.cells #[v0, v1, v2] 171) b (own_lt hown2 b hb)))
        have H1 := Lib.hid (show ∀ u ∈ ([v0, v1, v2] : List Value), u.oneCell' = true from fun u hu => (List.all_eq_true.1 (data_one hG.data)) u hu)
        have HG := Lib.hid hG
        clear hown2 hG
        go_wp2_with (at_builtin; refine wpList_append_roww rfl _ _ 124 rfl 171 i0 (.agg #[.int .i64 0, .int .i64 0, .int .i64 0]) 3 24 Tryz.underlying124 hi hz hsz hby rfl (by omega) _ k cells rfl (by exact HO2.out) ⟨w2.heap.size, 0, none⟩ 1 1 [v0, v1, v2] rfl rfl (fun j u hu => by have h := range_new w2 [v0, v1, v2] 171 j u hu; rw [add_none_]; exact h) H1.out (by unfold maxLen; omega) (by omega) ?_)
        intro v' w3 hown3 hst3
        have HL2 := Lib.hid (HL.out.next (ds := ds) HROWS.out HO.out.1 HG.out hown3 hst3)
        clear hown3 hst3
        go_wp2
        go_roundw
        case rel => exact ⟨k + 1, v', _, _, rfl, by go_num, by omega, HL2.out⟩
        case measure => simp [intOf]; omega
      · obtain rfl : k = n := by omega
        obtain ⟨A, c, rfl⟩ := own_shapew HO.out
        go_wp2
        go_ret
        exact ⟨A, k, c, rows, y, rfl, HL.out.done (by omega) hm HT1.out HB1.out⟩
end Wi
end Go.Proofs.YtpghaffjfinpeaaGreat
