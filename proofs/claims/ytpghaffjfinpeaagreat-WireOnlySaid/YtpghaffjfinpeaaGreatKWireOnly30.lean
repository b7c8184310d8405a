/-
  3 texts in one: ReadLmsg, ReadTbundle, WirePid.
-/
import Derived.Test.YtpghaffjfinpeaaGreatKWireOnly07
import Derived.Test.YtpghaffjfinpeaaGreatKWireOnly04
import Derived.Test.YtpghaffjfinpeaaGreatKWireOnly29
import Derived.Test.YtpghaffjfinpeaaGreatKWireOnly06

/-
  CONTRACT of wire.list[hanse/api.Msg]. (wip/gen_read.py wrote this.)
-/
namespace Go.Proofs.YtpghaffjfinpeaaGreat
namespace Wi
open Go.RowKit Pk Am
theorem rinfo_msg : (Tryz.prog.info? 76).map (fun i => (i.zero, i.size, i.bytes)) = some (some (.agg #[.int .i64 0, .int .i64 0, .int .i64 0, .int .i64 0, .int .i64 0, .int .i64 0, .bool false, .int .i64 0, .int .i64 0, .int .i64 0, .complex .f64 0 0, .int .i64 0, .int .i64 0, .int .i64 0, .int .i64 0, .slice none 0 0, .bool false, .slice none 0 0]), 18, 184) := by kernel_rfl
set_option maxRecDepth 100000 in
set_option maxHeartbeats 2000000 in
theorem r_list_msg (q p : Nat) (x : Rs) (most : Nat) (M : Int) (w : World) (h : Rd w q p x) (hM : M = (most : Int)) (hm : most ≤ 1024) :
    Calls Tryz.prog 20 #[.pointer (some ⟨q, 0, none⟩), .int .u64 M, .func (.func 21) #[.pointer (some ⟨q, 0, none⟩)] #[]] w fun r w' => ∃ A n c rows y, r = .returned (.slice A n c) ∧ Got q p x w [.list most Kmsg] [.slice A n c] [.list most rows] y w' := by
  subst hM
  obtain ⟨i0, hi, hz, hsz, hby⟩ := info_parts rinfo_msg
  have hc := h.cell
  have HR := Lib.hid h
  clear h
  go_enter Tryz.func20, Tryz.ntmps20
  go_wp2_with fail
  refine (g_uint q p x _ (by exact HR.out)).mono ?_
  rintro e1 w1 ⟨n, y1, rfl, hn, hR1, hM1, ht1, hb1⟩
  have HS : Hid (p < w.heap.size ∧ q < w.heap.size) := ⟨HR.out.ltp, HR.out.ltq⟩
  have HT1 := Lib.hid ht1
  have HB1 := Lib.hid hb1
  have HM1 := Lib.hid hM1
  have k1 := cell_at hR1.blk 1 (v := .bool y1.t) rfl
  have f1 := free_at hR1.blk 1
  have HR1 := Lib.hid hR1
  clear hc ht1 hb1 hM1 hR1 hn
  by_cases hgt : most < n
  · go_wp2
    go_ret
    exact ⟨none, 0, 0, [], _, rfl, got_long HR1.out HM1.out HS.out⟩
  · have hn1 : n ≤ 1024 := by omega
    clear k1 f1
    go_wp2
    go_loopw [8, 21] (fun l i W => ∃ (k : Nat) (v : Value) (rows : List (List Dat)) (y : Rs), l = v ∧ i = .int .u64 k ∧ k ≤ n ∧ Lst q p w Kmsg 76 y1 k v rows y W) (fun _ i _ => n - (intOf i).toNat)
    case atStart => exact ⟨0, _, [], y1, rfl, rfl, Nat.zero_le _, Lst.begin HR1.out HM1.out HS.out⟩
    case round =>
      obtain ⟨k, v, rows, y, rfl, rfl, hk, hL⟩ := hrel
      obtain ⟨cells, hown, hrows⟩ := hL.row
      have HROWS := Lib.hid hrows
      have HL := Lib.hid hL
      have HO := Lib.hid hown
      clear hrows hL hown
      by_cases hlt : k < n
      · go_wp2_with fail
        refine (r_msg q p y _ (by exact HL.out.rd)).mono ?_
        rintro e2 w2 ⟨vs, ds, zz, rfl, hG⟩
        obtain ⟨v0, v1, v2, v3, v4, v5, v6, v7, v8, v9, v10, v11, v12, v13, v14, v15, v16, v17, rfl⟩ : ∃ v0 v1 v2 v3 v4 v5 v6 v7 v8 v9 v10 v11 v12 v13 v14 v15 v16 v17, vs = [v0, v1, v2, v3, v4, v5, v6, v7, v8, v9, v10, v11, v12, v13, v14, v15, v16, v17] := list_18 hG.data.len.1
        have hown2 := own_moved' HO.out hG.moved (fun b hb hm => by
          have h1 := (HL.out.mine b hb).1
          have h2 := HS.out
          simp only [List.mem_cons, List.not_mem_nil, or_false] at hm
          omega)
        have HO2 := Lib.hid (own_stays hown2 (fun b hb => Below.heap_alloc w2 (.cells #[v0, v1, v2, v3, v4, v5, v6, v7, v8, v9, v10, v11, v12, v13, v14, v15, v16, v17] 76) b (own_lt hown2 b hb)))
        have H1 := Lib.hid (show ∀ u ∈ ([v0, v1, v2, v3, v4, v5, v6, v7, v8, v9, v10, v11, v12, v13, v14, v15, v16, v17] : List Value), u.oneCell' = true from fun u hu => (List.all_eq_true.1 (data_one hG.data)) u hu)
        have HG := Lib.hid hG
        clear hown2 hG
        go_wp2_with (at_builtin; refine wpList_append_roww rfl _ _ 41 rfl 76 i0 (.agg #[.int .i64 0, .int .i64 0, .int .i64 0, .int .i64 0, .int .i64 0, .int .i64 0, .bool false, .int .i64 0, .int .i64 0, .int .i64 0, .complex .f64 0 0, .int .i64 0, .int .i64 0, .int .i64 0, .int .i64 0, .slice none 0 0, .bool false, .slice none 0 0]) 18 184 Tryz.underlying41 hi hz hsz hby rfl (by omega) _ k cells rfl (by exact HO2.out) ⟨w2.heap.size, 0, none⟩ 1 1 [v0, v1, v2, v3, v4, v5, v6, v7, v8, v9, v10, v11, v12, v13, v14, v15, v16, v17] rfl rfl (fun j u hu => by have h := range_new w2 [v0, v1, v2, v3, v4, v5, v6, v7, v8, v9, v10, v11, v12, v13, v14, v15, v16, v17] 76 j u hu; rw [add_none_]; exact h) H1.out (by unfold maxLen; omega) (by omega) ?_)
        intro v' w3 hown3 hst3
        have HL2 := Lib.hid (HL.out.next (ds := ds) HROWS.out HO.out.1 HG.out hown3 hst3)
        clear hown3 hst3
        go_wp2
        go_roundw
        case rel => exact ⟨k + 1, v', _, _, rfl, by go_num, by omega, HL2.out⟩
        case measure => simp [intOf]; omega
      · obtain rfl : k = n := by omega
        obtain ⟨A, c, rfl⟩ := own_shapew HO.out
        go_wp2
        go_ret
        exact ⟨A, k, c, rows, y, rfl, HL.out.done (by omega) hm HT1.out HB1.out⟩
end Wi
end Go.Proofs.YtpghaffjfinpeaaGreat

/-
  CONTRACTS of wire.whole[[]api.Msg] and wire.ReadBundle.
-/
namespace Go.Proofs.YtpghaffjfinpeaaGreat
namespace Wi
open Go.RowKit Pk Am
set_option maxRecDepth 100000 in
set_option maxHeartbeats 2000000 in
theorem whole_bundle (q p : Nat) (y : Rs) (A : Option Addr) (n c : Nat) (w : World) (hR : Rd w q p y) :
    Calls Tryz.prog 19 #[.pointer (some ⟨q, 0, none⟩), .slice A n c] w fun r w' => ∃ A' n' c' e, r = .returned (.tuple #[.slice A' n' c', .int .i64 e]) ∧ (e = 0 → Value.slice A' n' c' = .slice A n c ∧ y.t = false ∧ y.s = .ok []) ∧ Moved w w' [p, q] := by
  have hc0 := hR.cell
  have hc1 := cell_at hR.blk 1 (v := .bool y.t) rfl
  have HR := Lib.hid hR
  clear hR
  cases ht : y.t with
  | true =>
    rw [ht] at hc1
    clear ht
    go_enter Tryz.func19, Tryz.ntmps19
    go_wp2
    go_ret2
    exact ⟨none, 0, 0, 6, rfl, (fun h => by cases h), Moved.refl _ _⟩
  | false =>
    rw [ht] at hc1
    have HT := Lib.hid ht
    clear ht
    go_enter Tryz.func19, Tryz.ntmps19
    go_wp2_with fail
    refine (g_done q p y _ (by exact HR.out)).mono ?_
    rintro e1 w2 ⟨d, rfl, hd0, hmv, -⟩
    have HM := Lib.hid hmv
    clear hmv hc0 hc1
    by_cases hd : d = 0
    · subst hd
      have HD := Lib.hid (hd0 rfl)
      clear hd0
      go_wp2
      go_ret2
      exact ⟨A, n, c, 0, rfl, fun _ => ⟨rfl, by simp, HD.out⟩, HM.out⟩
    · have hdn : (d != 0) = true := by simpa using hd
      clear hd0 hd
      go_wp2
      go_ret2
      exact ⟨none, 0, 0, 6, rfl, (fun h => by cases h), HM.out⟩
set_option maxRecDepth 100000 in
set_option maxHeartbeats 2000000 in
theorem read_bundle (A : Option Addr) (n c : Nat) (xs : List Int) (w : World) (hA : NRow .u8 w A xs) (hn : xs.length = n) (hb : ByteList xs) (hc : A = none → c = 0) (hl : n ≤ 70368744177664) :
    Calls Tryz.prog 7 #[.slice A n c] w fun r w' => ∃ A' n' c' e, r = .returned (.tuple #[.slice A' n' c', .int .i64 e]) ∧ Moved w w' [] ∧
      (e = 0 → ∃ rows, Holds w' w'.heap.size (.list 16 Kmsg) (.slice A' n' c') (.list 16 rows) ∧ RightD (.list 16 rows) ∧ xs = encD (.list 16 rows)) := by
  have HN := Lib.hid (new_reader A n c xs w hA hn hb hc hl)
  have hmf : ∀ (fn : Fn) (first cap : Array Value) (w : World), (Instr.makeFunc fn first cap).run Tryz.prog w = .ok (.func fn first cap) w := fun _ _ _ _ => rfl
  clear hA hn hb hc hl
  go_enter Tryz.func7, Tryz.ntmps7
  go_wp2_with fail
  refine HN.out.mono ?_
  rintro e1 w1 ⟨q, p, rfl, hR1, hM1, hq1, hp1⟩
  have HR1 := Lib.hid hR1
  have HM1 := Lib.hid hM1
  have HQ := Lib.hid hq1
  have HP := Lib.hid hp1
  clear hR1 hM1 hq1 hp1
  go_wp2_with fail
  refine (r_list_msg q p _ 16 _ _ (by exact HR1.out) (by rfl) (by omega)).mono ?_
  rintro e2 w2 ⟨A2, n2, c2, rows, y, rfl, hG⟩
  have HG := Lib.hid hG
  clear hG
  go_wp2_with fail
  refine (whole_bundle q p y A2 n2 c2 _ (by exact HG.out.rd)).mono ?_
  rintro e3 w3 ⟨A3, n3, c3, d, rfl, hud, hM3⟩
  have h1 := HM1.out.size
  have h2 := HG.out.moved.size
  have h3 := hM3.size
  have hq := HQ.out
  have hp := HP.out
  have hst := HG.out.start
  have HMV := Lib.hid (show Moved w w3 [] from HM1.out.trans (HG.out.moved.trans hM3 (fun k hk => .inl hk)) (fun k hk => .inr (by simp only [List.mem_cons, List.not_mem_nil, or_false] at hk; omega)))
  have HF := Lib.hid (show d = 0 → ∃ rows, Holds w3 w3.heap.size (.list 16 Kmsg) (.slice A3 n3 c3) (.list 16 rows) ∧ RightD (.list 16 rows) ∧ xs = encD (.list 16 rows) from fun hd => by
    obtain ⟨hv, ht, hs⟩ := hud hd
    rw [hv]
    obtain ⟨b1, b2, b3⟩ := HG.out.back [] hs ht
    have hdat := HoldsDs.to (w' := w3) (E := fun k => k < w3.heap.size) (fun k hk => by
      have hk1 := hk.1
      have hk2 := hk.2
      exact ⟨hM3.block k hk2 (by simp only [List.mem_cons, List.not_mem_nil, or_false]; omega), by omega⟩) _ _ _ HG.out.data
    rw [HoldsDs] at hdat
    obtain ⟨v, vs', d', ds', e1, e2, e3, -⟩ := hdat
    injection e1 with e1 _
    injection e2 with e2 _
    subst e1 e2
    rw [RightDs] at b2
    refine ⟨rows, HoldsD.holds (fun k hk => hk) _ _ _ e3, b2.1, ?_⟩
    rw [enc_one, List.append_nil] at b3
    injection b3)
  clear h1 h2 h3 hq hp hst hud hM3
  go_wp2
  go_ret2
  exact ⟨A3, n3, c3, d, rfl, HMV.out, HF.out⟩
end Wi
end Go.Proofs.YtpghaffjfinpeaaGreat

/-
  CONTRACT of (*wire.writer).id. (wip/gen_wire.py wrote this.)
-/
namespace Go.Proofs.YtpghaffjfinpeaaGreat
namespace Wi
open Go.RowKit Pk Am
set_option maxRecDepth 100000 in
set_option maxHeartbeats 2000000 in
theorem p_id (b p : Nat) (fp : List Nat) (x : Ws) (m : Nat) (vs : List Value) (ds : List Dat) (w : World) (hW : WW b w p fp x m) (hd : HoldsAll w b Kid vs ds) (hm : m + 20 ≤ 35184370000000) :
    Calls Tryz.prog 43 #[.pointer (some ⟨p, 0, none⟩), .agg vs.toArray] w (Puts b p fp (wrs ds x) (m + 20) w) := by
  obtain ⟨n0, _, _, rfl, rfl, i0, hd0⟩ := hd.num
  obtain ⟨n1, _, _, rfl, rfl, i1, hd1⟩ := hd0.num
  obtain ⟨rfl, rfl⟩ := hd1.nil
  have I0 := Lib.hid i0
  have I1 := Lib.hid i1
  clear i0 i1
  show Calls _ _ #[.pointer (some ⟨p, 0, none⟩), .agg #[.int .i64 n0, .int .i64 n1]] w _
  have hB0 := Bx.new hW #[.int .i64 n0, .int .i64 n1] 24
  have hO0 := hW.alloc (.cells #[.int .i64 n0, .int .i64 n1] 24)
  have hS0 : Step w (w.alloc (.cells #[.int .i64 n0, .int .i64 n1] 24)) fp fp := step_alloc _ _ _
  have hmf : ∀ (fn : Fn) (first cap : Array Value) (w : World), (Instr.makeFunc fn first cap).run Tryz.prog w = .ok (.func fn first cap) w := fun _ _ _ _ => rfl
  have c0 := hB0.cell 0 (v := .int .i64 n0) rfl
  have c1 := hB0.cell 1 (v := .int .i64 n1) rfl
  have HW := Lib.hid hW
  have HB0 := Lib.hid hB0
  have HO0 := Lib.hid hO0
  have HS0 := Lib.hid hS0
  clear hW hB0 hO0 hS0
  go_enter Tryz.func43, Tryz.ntmps43
  go_wp2_with fail
  have hg1 : (w.alloc (.cells #[.int .i64 n0, .int .i64 n1] 24)).heap.size = w.heap.size + 1 := by simp
  refine (p_ints b p fp _ m _ 2 _ [n0, n1] _ (by exact HO0.out.alloc _) (nrow_lits hg1 [n0, n1] _ rfl) rfl (by intro z hz; simp only [List.mem_cons, List.not_mem_nil, or_false] at hz; rcases hz with rfl | rfl; exact I0.out; exact I1.out) (rowX_new hg1 HO0.out.obj.lt) (by omega) (by omega)).mono ?_
  clear c0 c1
  rintro e1 w1 ⟨rfl, fq1, hO1, hS1⟩
  have hS1 := (step_alloc _ _ _).trans hS1
  have hB1 := HB0.out.step hS1
  have hT1 := HS0.out.trans hS1
  have HB1 := Lib.hid hB1
  have HO1 := Lib.hid (hO1.more (m' := m + 20) (by omega))
  have HS1 := Lib.hid hT1
  clear hB1 hO1 hS1 hT1
  go_wp2
  go_end0
  exact ⟨rfl, fq1, by first | exact (HO1.out.more (by omega)) | (have h := HO1.out.more (m' := m + 20) (by omega); simpa only [wrs, nums, List.map_cons, List.map_nil] using h), HS1.out⟩
end Wi
end Go.Proofs.YtpghaffjfinpeaaGreat
