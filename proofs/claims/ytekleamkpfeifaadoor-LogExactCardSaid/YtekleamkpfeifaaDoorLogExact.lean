/-
  THE WALK of the statement LogExact, from what it asks of the program's Log.
-/
import Derived.Test.YtekleamkpfeifaaDoorLogMid
import Derived.Test.YtekleamkpfeifaaDoorLogActs
import Derived.Test.YtekleamkpfeifaaDoorLogWakes
namespace Go.Proofs.YtekleamkpfeifaaDoor
namespace Lg
open Go.RowKit Dk Fr
set_option maxRecDepth 100000 in
set_option maxHeartbeats 2000000 in
theorem exact_any {D : World → Nat → List Nat → DSt → Nat → Prop} {G : World → Nat → Nat → List Nat → List Int → List (List Int) → Nat → Prop} (L : LLaws D G) (A : Option Addr) (n c : Nat) (ds : List Deed) (w : World) (hA : Deeds w A ds) (hn : ds.length = n) (hn63 : n ≤ 9223372036854775807) (hld : Ld w) :
    Calls Tryd.prog 3 #[.slice A n c] w fun e w' => e = .returned (.bool true) ∧ Moved w w' [] := by
  have P := L.disk.still
  have O := QStill
  have HA := Lib.hid hA
  have HN := Lib.hid hn
  have HLD := Lib.hid hld
  clear hA hn hld
  go_enter Tryd.func3, Tryd.ntmps3
  go_wp2_with fail
  refine (heavy_any A n c ds w HA.out HN.out hn63).mono ?_
  rintro e w1 ⟨b, rfl, rfl, hl⟩
  have HL := Lib.hid hl
  clear hl
  cases b with
  | true =>
    go_wp2
    go_ret
    exact ⟨rfl, Moved.refl _ _⟩
  | false =>
    have HLI := Lib.hid (HL.out rfl)
    clear HL
    go_wp2_with fail
    refine (At.new_ L.disk w).mono ?_
    rintro e w1 ⟨p, f1, rfl, h1⟩
    have H1 := Lib.hid h1
    have h2 : At2 D QObj w (w1.alloc (.cells #[.slice none 0 0, .int .i64 0, .bool false, .bool false, .int .i64 0] 29)) p f1 ⟨[], 0, false, none⟩ 0 w1.heap.size [w1.heap.size] ⟨[], 0, false, none⟩ 0 :=
      ⟨H1.out.again L.disk _, ⟨qobj_new w1, H1.out.old.alloc _, fun k hk => by simp at hk; subst hk; exact H1.out.old.size⟩, fun k hk hf => by simp at hf; subst hf; have := L.disk.lt H1.out.on _ hk; omega⟩
    have H2 := Lib.hid h2
    clear h1 h2
    go_wp2_with fail
    refine (opened_any L w _ p f1 _ 0 w1.heap.size _ H2.out (by omega) HLD.out).mono ?_
    rintro e w3 ⟨l3, d3, f3, q3, s3, n3, r3, rfl, h3⟩
    have H3 := Lib.hid h3
    clear h3 H1 H2
    obtain ⟨q, hq⟩ : ∃ q, q = w1.heap.size := ⟨_, rfl⟩
    rw [← hq] at H3 ⊢
    clear hq
    go_wp2
    go_loopw [5, 6] (fun l i wr => ∃ (k m l1 : Nat) (s : DSt) (sn : List Int) (rs : List (List Int)) (fd fl fq : List Nat), l = .pointer (some ⟨l1, 0, none⟩) ∧ i = .int .i64 k ∧ k ≤ n ∧ k ≤ 50 ∧ m ≤ k * 262153 ∧ PAt D G w wr p l1 fd fl q fq s sn rs m) (fun _ i _ => 50 - (intOf i).toNat)
    case atStart => exact ⟨0, 0, l3, s3, n3, r3, d3, f3, q3, rfl, rfl, by omega, by omega, by omega, H3.out⟩
    case round =>
      obtain ⟨k, m, l, s, sn, rs, fd, fl, fq, rfl, rfl, hk, hk50, hm, hT⟩ := hrel
      have HT := Lib.hid hT
      clear hT
      by_cases hgo : k < n ∧ k < 50
      · obtain ⟨h1, h2⟩ := hgo
        obtain ⟨a, ha⟩ : ∃ a, ds[k]? = some a := ⟨ds[k]'(by rw [HN.out]; exact h1), List.getElem?_eq_getElem _⟩
        obtain ⟨b, off, B, cb, rfl, hc0, hc1, hc2, hw, hk0, hk1⟩ := HA.out k a ha
        have hyl : a.ys.length ≤ 262144 := HLI.out k a h2 ha
        obtain ⟨d, kk, ys⟩ := a
        dsimp only at hc0 hc1 hc2 hw hk0 hk1 hyl
        obtain ⟨y, hy⟩ : ∃ y, y = ys.length := ⟨_, rfl⟩
        rw [← hy] at hc2 hw hyl
        have HC := Lib.hid (And.intro hc0 (And.intro hc1 hc2))
        have HW := Lib.hid hw
        clear ha hc0 hc1 hc2 hw hy
        go_wp2_with fail
        refine (same_any L w _ p l fd fl q fq s sn rs m HT.out (by omega)).mono ?_
        rintro e w1 ⟨rfl, fl1, hT1⟩
        have d0 := cell_kept ⟨hT1.log.old, fun _ h => .inl h⟩ (by simp) HC.out.1
        have d1 := cell_kept ⟨hT1.log.old, fun _ h => .inl h⟩ (by simp) HC.out.2.1
        have d2 := cell_kept ⟨hT1.log.old, fun _ h => .inl h⟩ (by simp) HC.out.2.2
        have HT1 := Lib.hid hT1
        clear hT1 HT
        -- BOX
        obtain ⟨w0, hw0⟩ : ∃ w0, w0 = w1.alloc (.cells #[.int .i64 d, .int .i64 kk, .slice B y cb] 34) := ⟨_, rfl⟩
        obtain ⟨g, hg⟩ : ∃ g, g = w1.heap.size := ⟨_, rfl⟩
        have hb0 : w0.heap[g]? = some (.cells #[.int .i64 d, .int .i64 kk, .slice B y cb] 34 (0, 0)) := by rw [hw0, hg]; exact heap_alloc_new w1 _
        have hgx : ∀ j ∈ fd ++ fl1, j ≠ g := fun j hj e => by have := HT1.out.log.below L j hj; omega
        have hgy : ∀ j ∈ fq, j ≠ g := fun j hj e => by have := QObj.lt HT1.out.page.on j hj; omega
        have hgW : w.heap.size ≤ g := by rw [hg]; exact HT1.out.log.old.size
        have HB0 := Lib.hid hb0
        have HGX := Lib.hid hgx
        have HGY := Lib.hid hgy
        have HGW := Lib.hid hgW
        have HT0 := Lib.hid (show PAt D G w w0 p l fd fl1 q fq s sn rs m by rw [hw0]; exact HT1.out.on L ((Moved.refl _ _).alloc _))
        have HW0 := Lib.hid hw0
        have HG := Lib.hid hg
        clear hb0 hgx hgy hgW hw0 hg HT1
        clear HN HA HLI H3
        go_wp2_with fail
        clear d0 d1 d2
        rw [← HW0.out, ← HG.out]
        refine (twin_any B y cb ys _ (HW.out.now HT0.out.log.old) HW.out.len HW.out.nil (by omega)).mono ?_
        rintro e w2 ⟨v2, rfl, hO2', hS2⟩
        have hO2 : w2.ownsRow 0 5 1 v2 y (ys.map (Value.int .u8)) := by rw [← HW.out.len]; exact hO2'
        have hv2 : ∀ j ∈ rowOf v2, w0.heap.size ≤ j := fun j hj => (hS2.2 j hj).elim (fun h => by cases h) id
        have hgl : g < w0.heap.size := lt_of_block HB0.out
        obtain ⟨A2, c2, rfl, hA2n, hA2c⟩ := own_shape hO2
        have HKE := Lib.hid (show Kept w2 g #[.int .i64 d, .int .i64 kk, .slice B y cb] 34 (.slice A2 y c2) y ys (fd ++ fl1) fq from
          ⟨(hS2.1.block g hgl (fun h => by cases h)).trans HB0.out, TRow.of_own hO2, fun h => by have := hv2 g h; omega,
           fun j hj hx => by
             rcases List.mem_cons.1 hj with rfl | hj
             · exact HGX.out _ hx rfl
             · have := HT0.out.log.below L j hx; have := hv2 j hj; omega,
           fun j hj hx => by
             rcases List.mem_cons.1 hj with rfl | hj
             · exact HGY.out _ hx rfl
             · have := QObj.lt HT0.out.page.on j hx; have := hv2 j hj; omega⟩)
        have HVW := Lib.hid (fun j hj => by
          rcases List.mem_cons.1 hj with rfl | hj
          · exact HGW.out
          · exact Nat.le_trans HT0.out.log.old.size (hv2 j hj) : ∀ j ∈ g :: rowOf (.slice A2 y c2), w.heap.size ≤ j)
        have HT2 := Lib.hid (HT0.out.on L hS2.1)
        have HLE : Hid (Lent w2 (fd ++ fl1) A2 y c2 ys) := ⟨NRow.of_own hO2, HW.out.len, hA2n, hA2c, HW.out.bytes, fun j hj => HKE.out.left j (by simp [rowX_rowOf hj])⟩
        have a0 := cell_at HKE.out.box 0 (v := .int .i64 d) rfl
        have a1 := cell_at HKE.out.box 1 (v := .int .i64 kk) rfl
        have a2 := cell_at HKE.out.box 2 (v := .slice B y cb) rfl
        obtain ⟨u, hu⟩ := u64_nat' d
        clear hO2 hO2' hS2 hv2 hgl hA2n hA2c HB0 HGX HGY HGW HT0 HW0 HG
        rcases (by omega : u % 8 < 3 ∨ u % 8 = 3 ∨ u % 8 = 4 ∨ u % 8 = 5 ∨ u % 8 = 6 ∨ u % 8 = 7) with hum | hum | hum | hum | hum | hum
        · have e3 : ((u : Int) % 8 == 3) = false := by simp; omega
          have e4 : ((u : Int) % 8 == 4) = false := by simp; omega
          have e5 : ((u : Int) % 8 == 5) = false := by simp; omega
          have e6 : ((u : Int) % 8 == 6) = false := by simp; omega
          have e7 : ((u : Int) % 8 == 7) = false := by simp; omega
          obtain ⟨st, hst⟩ : ∃ st, st = (if 131071 < y then s else s.add (recFrame ys)) := ⟨_, rfl⟩
          have HST := Lib.hid hst
          obtain ⟨e0, he0⟩ : ∃ e0 : Int, e0 = if 131071 < y then 5 else 0 := ⟨_, rfl⟩
          have HE0 := Lib.hid he0
          clear he0
          obtain ⟨r1, hr1⟩ : ∃ r1, r1 = (if 131071 < y then rs else rs ++ [ys]) := ⟨_, rfl⟩
          have hcl := clean_add (n := y) HT2.out.live HT2.out.clean HW.out.len
          rw [← hst, ← hr1] at hcl
          have HR1 := Lib.hid hr1
          have LIVE := Lib.hid hcl.1
          have CLEAN := Lib.hid hcl.2
          clear hst hcl hr1
          go_wp2_with fail
          go_region_held3 (fun w' => w'.cell? ⟨g, 2, none⟩ = some (.slice B y cb)) (go_keep) (first
            | (go_at_call 25; refine ((HT2.out.on L (Moved.refl _ _).drew).append L HLD.out (by exact HLE.out.drew) (by omega)).mono ?_; rintro e w3 hd; rw [← HE0.out, ← HST.out, ← HR1.out] at hd; obtain ⟨rfl, f3, x3, hM3, hS3⟩ := hd; have HK3 := Lib.hid ((HKE.out.on (Moved.refl _ _).drew).stepX hS3); have bc2 := cell_at HK3.out.box 2 (v := .slice B y cb) rfl; have HM3 := Lib.hid hM3; clear hM3 hS3)
            | (go_at_call 26; refine (qadd_any q fq s m B y cb ys _ (by exact HM3.out.page) (by exact (HW.out.lent HM3.out.old HM3.out.newq)) (by omega)).mono ?_; rw [off_live HT2.out.live, ← HE0.out, ← HST.out]; rintro e w4 hd; obtain ⟨rfl, f4, hM4, hS4⟩ := HM3.out.does L hd; have HK4 := Lib.hid (HK3.out.stepY hS4); have bd2 := cell_at HK4.out.box 2 (v := .slice B y cb) rfl; have HM4 := Lib.hid hM4; clear hM4 hS4 hd))
          clear a0 a1 a2 bc2 bd2
          go_wp2_with fail
          refine (tspoil_any _ _ _ _ HK4.out.row (by omega)).mono ?_
          rintro e w5 ⟨rfl, hM5⟩
          have HM5 := Lib.hid (HM4.out.keeps L hM5 (fun j hj => ⟨HVW.out j (List.mem_cons_of_mem _ hj), HK4.out.left j (List.mem_cons_of_mem _ hj), HK4.out.right j (List.mem_cons_of_mem _ hj)⟩))
          have HBX5 := Lib.hid (HK4.out.spoilt hM5)
          have b5 := cell_at HBX5.out 0 (v := .int .i64 d) rfl
          clear hM5
          have q5 := (q_cells HM5.out.page).2
          rw [LIVE.out] at q5
          go_wp2_with fail
          go_region_held3 (fun w' => w'.cell? ⟨q, 2, none⟩ = some (.bool false)) (go_keep) ((go_at_call 28; refine (L.disk.off p f3 st (m + y + 9) _ (by exact (HM5.out.keeps L (Moved.refl _ []).drew (fun _ h => by cases h)).disk)).mono ?_; rw [LIVE.out]; rintro e w6 hd; obtain ⟨rfl, f6, hD6, hS6⟩ := hd; have HS6 := Lib.hid hS6; have HD6 := Lib.hid hD6; have b6 := cell_kept hS6 (by exact fun h => HK4.out.left g (by simp) (List.mem_append.2 (.inl h))) b5; have q6 := (q_cells (QObj.stays HM5.out.page (fun j hj => hS6.1.block j (QObj.lt HM5.out.page j hj) (fun h => HM5.out.far j (List.mem_append.2 (.inl h)) hj)))).2; rw [LIVE.out] at q6; clear hS6 hD6))
          have HP6 := Lib.hid (((((HM5.out.keeps L (Moved.refl _ []).drew (fun _ h => by cases h)).whole trivial LIVE.out CLEAN.out).side L HD6.out HS6.out).1.whole rfl LIVE.out CLEAN.out))
          clear b5 q5
          obtain ⟨zs, hzs⟩ : ∃ zs, zs = (st).bs := ⟨_, rfl⟩
          have HBY : Hid (ByteList zs) := by rw [hzs]; exact L.disk.bytes HP6.out.log.disk
          have HZS := Lib.hid hzs
          clear hzs
          go_wp2_with fail
          clear b6 q6
          refine (L.disk.read p f6 st (m + y + 9) _ HP6.out.log.disk (by omega)).mono ?_
          rw [off_live HP6.out.live, read_live HP6.out.live, ← HZS.out]
          rintro e wa ⟨va, fa, rfl, hTa, hna, hDa, hSa⟩
          obtain ⟨Aa, ca, rfl, -⟩ := t_shape hTa
          have HPa := Lib.hid ((HP6.out.side L hDa hSa).1.whole rfl HP6.out.live HP6.out.clean)
          have HTa := Lib.hid hTa
          clear hTa hna hDa hSa
          go_wp2_with fail
          refine (qread_any q f4 st (m + y + 9) _ HPa.out.page.on (by omega)).mono ?_
          unfold QRead
          rw [off_live HP6.out.live, read_live HP6.out.live, ← HZS.out]
          rintro e wb ⟨vb, rfl, hOb, hSb⟩
          obtain ⟨Ab, cb', rfl, -⟩ := own_shape hOb
          have HPb := Lib.hid (HPa.out.on L hSb.1)
          have HTb := Lib.hid (t_stays HTa.out (fun j hj => hSb.1.block j (t_lt HTa.out j hj) (by simp)))
          have HOb := Lib.hid hOb
          clear hOb hSb
          go_wp2_with fail
          refine (bytes_is _ _ _ _ _ _ zs zs _ (by exact HTb.out.nrow) (by exact NRow.of_own HOb.out) rfl rfl HBY.out HBY.out true (by simp)).mono ?_
          rintro e wc ⟨rfl, rfl⟩
          go_wp2
          go_roundw
          case rel => exact ⟨k + 1, (m + y + 9), l, st, sn, r1, _, x3, f4, rfl, by go_num, by omega, by omega, by omega, HPb.out⟩
          case measure => simp [intOf]; omega
        · have e3 : ((u : Int) % 8 == 3) = true := by simp; omega
          have e4 : ((u : Int) % 8 == 4) = false := by simp; omega
          have e5 : ((u : Int) % 8 == 5) = false := by simp; omega
          have e6 : ((u : Int) % 8 == 6) = false := by simp; omega
          have e7 : ((u : Int) % 8 == 7) = false := by simp; omega
          obtain ⟨st, hst⟩ : ∃ st, st = s.sync.2 := ⟨_, rfl⟩
          have HST := Lib.hid hst
          rcases clean_sync HT2.out.live HT2.out.clean with ⟨g1, l1, k1⟩ | ⟨g1, l1⟩
          · rw [← hst] at l1 k1
            have LIVE := Lib.hid l1
            have CLEAN := Lib.hid k1
            have GOOD := Lib.hid g1
            clear hst l1 k1 g1
            obtain ⟨e0, he0⟩ : ∃ e0 : Int, e0 = s.sync.1 := ⟨_, rfl⟩
            have HE0 := Lib.hid he0
            clear he0
            go_wp2_with fail
            refine (HT2.out.sync L (by omega)).mono ?_
            rintro e w3 hd; rw [← HE0.out, ← HST.out] at hd; obtain ⟨rfl, f3, x3, hM3, hS3⟩ := hd
            have HK3 := Lib.hid (HKE.out.stepX hS3)
            have bc1 := cell_at HK3.out.box 1 (v := .int .i64 kk) rfl
            have HM3 := Lib.hid hM3
            clear hM3 hS3
            go_wp2_with fail
            refine (qsync_any q fq s m _ (by exact HM3.out.page) (by omega)).mono ?_
            rw [← HE0.out, ← HST.out]
            rintro e w4 hd
            obtain ⟨rfl, f4, hM4, hS4⟩ := HM3.out.does L hd
            have HK4 := Lib.hid (HK3.out.stepY hS4)
            have HM4 := Lib.hid hM4
            clear hM4 hS4 hd
            clear a0 a1 a2 bc1
            go_wp2_with fail
            refine (tspoil_any _ _ _ _ HK4.out.row (by omega)).mono ?_
            rintro e w5 ⟨rfl, hM5⟩
            have HM5 := Lib.hid (HM4.out.keeps L hM5 (fun j hj => ⟨HVW.out j (List.mem_cons_of_mem _ hj), HK4.out.left j (List.mem_cons_of_mem _ hj), HK4.out.right j (List.mem_cons_of_mem _ hj)⟩))
            have HBX5 := Lib.hid (HK4.out.spoilt hM5)
            have b5 := cell_at HBX5.out 0 (v := .int .i64 d) rfl
            clear hM5
            have q5 := (q_cells HM5.out.page).2
            rw [LIVE.out] at q5
            go_wp2_with fail
            go_region_held3 (fun w' => w'.cell? ⟨q, 2, none⟩ = some (.bool false)) (go_keep) ((go_at_call 28; refine (L.disk.off p f3 st m _ (by exact (HM5.out.keeps L (Moved.refl _ []).drew (fun _ h => by cases h)).disk)).mono ?_; rw [LIVE.out]; rintro e w6 hd; obtain ⟨rfl, f6, hD6, hS6⟩ := hd; have HS6 := Lib.hid hS6; have HD6 := Lib.hid hD6; have b6 := cell_kept hS6 (by exact fun h => HK4.out.left g (by simp) (List.mem_append.2 (.inl h))) b5; have q6 := (q_cells (QObj.stays HM5.out.page (fun j hj => hS6.1.block j (QObj.lt HM5.out.page j hj) (fun h => HM5.out.far j (List.mem_append.2 (.inl h)) hj)))).2; rw [LIVE.out] at q6; clear hS6 hD6))
            have HP6 := Lib.hid (((((HM5.out.keeps L (Moved.refl _ []).drew (fun _ h => by cases h)).whole (HE0.out.trans GOOD.out) LIVE.out CLEAN.out).side L HD6.out HS6.out).1.whole rfl LIVE.out CLEAN.out))
            clear b5 q5
            obtain ⟨zs, hzs⟩ : ∃ zs, zs = (st).bs := ⟨_, rfl⟩
            have HBY : Hid (ByteList zs) := by rw [hzs]; exact L.disk.bytes HP6.out.log.disk
            have HZS := Lib.hid hzs
            clear hzs
            go_wp2_with fail
            clear b6 q6
            refine (L.disk.read p f6 st m _ HP6.out.log.disk (by omega)).mono ?_
            rw [off_live HP6.out.live, read_live HP6.out.live, ← HZS.out]
            rintro e wa ⟨va, fa, rfl, hTa, hna, hDa, hSa⟩
            obtain ⟨Aa, ca, rfl, -⟩ := t_shape hTa
            have HPa := Lib.hid ((HP6.out.side L hDa hSa).1.whole rfl HP6.out.live HP6.out.clean)
            have HTa := Lib.hid hTa
            clear hTa hna hDa hSa
            go_wp2_with fail
            refine (qread_any q f4 st m _ HPa.out.page.on (by omega)).mono ?_
            unfold QRead
            rw [off_live HP6.out.live, read_live HP6.out.live, ← HZS.out]
            rintro e wb ⟨vb, rfl, hOb, hSb⟩
            obtain ⟨Ab, cb', rfl, -⟩ := own_shape hOb
            have HPb := Lib.hid (HPa.out.on L hSb.1)
            have HTb := Lib.hid (t_stays HTa.out (fun j hj => hSb.1.block j (t_lt HTa.out j hj) (by simp)))
            have HOb := Lib.hid hOb
            clear hOb hSb
            go_wp2_with fail
            refine (bytes_is _ _ _ _ _ _ zs zs _ (by exact HTb.out.nrow) (by exact NRow.of_own HOb.out) rfl rfl HBY.out HBY.out true (by simp)).mono ?_
            rintro e wc ⟨rfl, rfl⟩
            go_wp2
            go_roundw
            case rel => exact ⟨k + 1, m, l, st, sn, rs, _, x3, f4, rfl, by go_num, by omega, by omega, Nat.le_trans hm (Nat.mul_le_mul_right 262153 (Nat.le_succ k)), HPb.out⟩
            case measure => simp [intOf]; omega
          · rw [← hst] at l1
            have LIVE := Lib.hid l1
            clear hst l1 g1
            obtain ⟨e0, he0⟩ : ∃ e0 : Int, e0 = s.sync.1 := ⟨_, rfl⟩
            have HE0 := Lib.hid he0
            clear he0
            go_wp2_with fail
            refine (HT2.out.sync L (by omega)).mono ?_
            rintro e w3 hd; rw [← HE0.out, ← HST.out] at hd; obtain ⟨rfl, f3, x3, hM3, hS3⟩ := hd
            have HK3 := Lib.hid (HKE.out.stepX hS3)
            have bc1 := cell_at HK3.out.box 1 (v := .int .i64 kk) rfl
            have HM3 := Lib.hid hM3
            clear hM3 hS3
            go_wp2_with fail
            refine (qsync_any q fq s m _ (by exact HM3.out.page) (by omega)).mono ?_
            rw [← HE0.out, ← HST.out]
            rintro e w4 hd
            obtain ⟨rfl, f4, hM4, hS4⟩ := HM3.out.does L hd
            have HK4 := Lib.hid (HK3.out.stepY hS4)
            have HM4 := Lib.hid hM4
            clear hM4 hS4 hd
            clear a0 a1 a2 bc1
            go_wp2_with fail
            refine (tspoil_any _ _ _ _ HK4.out.row (by omega)).mono ?_
            rintro e w5 ⟨rfl, hM5⟩
            have HM5 := Lib.hid (HM4.out.keeps L hM5 (fun j hj => ⟨HVW.out j (List.mem_cons_of_mem _ hj), HK4.out.left j (List.mem_cons_of_mem _ hj), HK4.out.right j (List.mem_cons_of_mem _ hj)⟩))
            have HBX5 := Lib.hid (HK4.out.spoilt hM5)
            have b5 := cell_at HBX5.out 0 (v := .int .i64 d) rfl
            clear hM5
            have q5 := (q_cells HM5.out.page).2
            rw [LIVE.out] at q5
            go_wp2_with fail
            go_region_held3 (fun w' => w'.cell? ⟨q, 2, none⟩ = some (.bool true)) (go_keep) ((go_at_call 28; refine (L.disk.off p f3 st m _ (by exact (HM5.out.keeps L (Moved.refl _ []).drew (fun _ h => by cases h)).disk)).mono ?_; rw [LIVE.out]; rintro e w6 hd; obtain ⟨rfl, f6, hD6, hS6⟩ := hd; have HS6 := Lib.hid hS6; have HD6 := Lib.hid hD6; have b6 := cell_kept hS6 (by exact fun h => HK4.out.left g (by simp) (List.mem_append.2 (.inl h))) b5; have q6 := (q_cells (QObj.stays HM5.out.page (fun j hj => hS6.1.block j (QObj.lt HM5.out.page j hj) (fun h => HM5.out.far j (List.mem_append.2 (.inl h)) hj)))).2; rw [LIVE.out] at q6; clear hS6 hD6))
            have HP6 := Lib.hid (HM5.out.at2.apart_from P O (Moved.refl _ []).drew (fun _ h => by cases h))
            have HA6 := Lib.hid (HP6.out.step O HD6.out HS6.out)
            clear b5 q5 HP6
            go_wp2_with fail
            refine (opened_any L w _ p f6 st m q f4 HA6.out (by omega) HLD.out).mono ?_
            rintro e w7 ⟨l7, f7, x7, g7, s7, n7, r7, rfl, hP7⟩
            have HP7 := Lib.hid hP7
            clear hP7 b6 q6 HA6
            obtain ⟨zs, hzs⟩ : ∃ zs, zs = (s7).bs := ⟨_, rfl⟩
            have HBY : Hid (ByteList zs) := by rw [hzs]; exact L.disk.bytes HP7.out.log.disk
            have HZS := Lib.hid hzs
            clear hzs
            go_wp2_with fail
            refine (L.disk.read p f7 s7 m _ HP7.out.log.disk (by omega)).mono ?_
            rw [off_live HP7.out.live, read_live HP7.out.live, ← HZS.out]
            rintro e wa ⟨va, fa, rfl, hTa, hna, hDa, hSa⟩
            obtain ⟨Aa, ca, rfl, -⟩ := t_shape hTa
            have HPa := Lib.hid ((HP7.out.side L hDa hSa).1.whole rfl HP7.out.live HP7.out.clean)
            have HTa := Lib.hid hTa
            clear hTa hna hDa hSa
            go_wp2_with fail
            refine (qread_any q g7 s7 m _ HPa.out.page.on (by omega)).mono ?_
            unfold QRead
            rw [off_live HP7.out.live, read_live HP7.out.live, ← HZS.out]
            rintro e wb ⟨vb, rfl, hOb, hSb⟩
            obtain ⟨Ab, cb', rfl, -⟩ := own_shape hOb
            have HPb := Lib.hid (HPa.out.on L hSb.1)
            have HTb := Lib.hid (t_stays HTa.out (fun j hj => hSb.1.block j (t_lt HTa.out j hj) (by simp)))
            have HOb := Lib.hid hOb
            clear hOb hSb
            go_wp2_with fail
            refine (bytes_is _ _ _ _ _ _ zs zs _ (by exact HTb.out.nrow) (by exact NRow.of_own HOb.out) rfl rfl HBY.out HBY.out true (by simp)).mono ?_
            rintro e wc ⟨rfl, rfl⟩
            go_wp2
            go_roundw
            case rel => exact ⟨k + 1, m, l7, s7, n7, r7, _, x7, g7, rfl, by go_num, by omega, by omega, Nat.le_trans hm (Nat.mul_le_mul_right 262153 (Nat.le_succ k)), HPb.out⟩
            case measure => simp [intOf]; omega
        · have e3 : ((u : Int) % 8 == 3) = false := by simp; omega
          have e4 : ((u : Int) % 8 == 4) = true := by simp; omega
          have e5 : ((u : Int) % 8 == 5) = false := by simp; omega
          have e6 : ((u : Int) % 8 == 6) = false := by simp; omega
          have e7 : ((u : Int) % 8 == 7) = false := by simp; omega
          obtain ⟨st, hst⟩ : ∃ st, st = (if 131071 < y then s else (s.swap (snapFrame ys)).2) := ⟨_, rfl⟩
          have HST := Lib.hid hst
          obtain ⟨n1, hn1⟩ : ∃ n1, n1 = (if 131071 < y then sn else ys) := ⟨_, rfl⟩
          obtain ⟨r1, hr1⟩ : ∃ r1, r1 = (if 131071 < y then rs else []) := ⟨_, rfl⟩
          have hcl := clean_compact (n := y) (ys := ys) HT2.out.live HT2.out.clean HW.out.len
          rw [← hst, ← hn1, ← hr1] at hcl
          have HN1 := Lib.hid hn1
          have HR1 := Lib.hid hr1
          clear hst hn1 hr1
          rcases hcl with ⟨g1, l1, k1⟩ | l1
          · have LIVE := Lib.hid l1
            have CLEAN := Lib.hid k1
            have GOOD := Lib.hid g1
            clear l1 k1 g1
            obtain ⟨e0, he0⟩ : ∃ e0 : Int, e0 = if 131071 < y then 5 else (s.swap (snapFrame ys)).1 := ⟨_, rfl⟩
            have HE0 := Lib.hid he0
            clear he0
            go_wp2_with fail
            go_region_held3 (fun w' => w'.cell? ⟨g, 2, none⟩ = some (.slice B y cb)) (go_keep) (first
              | (go_at_call 17; refine ((HT2.out.on L (Moved.refl _ _).drew).compact L HLD.out (by exact HLE.out.drew) (by omega)).mono ?_; rintro e w3 hd; rw [← HE0.out, ← HST.out, ← HN1.out, ← HR1.out] at hd; obtain ⟨rfl, f3, x3, hM3, hS3⟩ := hd; have HK3 := Lib.hid ((HKE.out.on (Moved.refl _ _).drew).stepX hS3); have bc2 := cell_at HK3.out.box 2 (v := .slice B y cb) rfl; have HM3 := Lib.hid hM3; clear hM3 hS3)
              | (go_at_call 18; refine (qcompact_any q fq s m B y cb ys _ (by exact HM3.out.page) (by exact (HW.out.lent HM3.out.old HM3.out.newq)) (by omega)).mono ?_; rw [← HE0.out, ← HST.out]; rintro e w4 hd; obtain ⟨rfl, f4, hM4, hS4⟩ := HM3.out.does L hd; have HK4 := Lib.hid (HK3.out.stepY hS4); have bd2 := cell_at HK4.out.box 2 (v := .slice B y cb) rfl; have HM4 := Lib.hid hM4; clear hM4 hS4 hd))
            clear a0 a1 a2 bc2 bd2
            go_wp2_with fail
            refine (tspoil_any _ _ _ _ HK4.out.row (by omega)).mono ?_
            rintro e w5 ⟨rfl, hM5⟩
            have HM5 := Lib.hid (HM4.out.keeps L hM5 (fun j hj => ⟨HVW.out j (List.mem_cons_of_mem _ hj), HK4.out.left j (List.mem_cons_of_mem _ hj), HK4.out.right j (List.mem_cons_of_mem _ hj)⟩))
            have HBX5 := Lib.hid (HK4.out.spoilt hM5)
            have b5 := cell_at HBX5.out 0 (v := .int .i64 d) rfl
            clear hM5
            have q5 := (q_cells HM5.out.page).2
            rw [LIVE.out] at q5
            go_wp2_with fail
            go_region_held3 (fun w' => w'.cell? ⟨q, 2, none⟩ = some (.bool false)) (go_keep) ((go_at_call 28; refine (L.disk.off p f3 st (m + y + 9) _ (by exact (HM5.out.keeps L (Moved.refl _ []).drew (fun _ h => by cases h)).disk)).mono ?_; rw [LIVE.out]; rintro e w6 hd; obtain ⟨rfl, f6, hD6, hS6⟩ := hd; have HS6 := Lib.hid hS6; have HD6 := Lib.hid hD6; have b6 := cell_kept hS6 (by exact fun h => HK4.out.left g (by simp) (List.mem_append.2 (.inl h))) b5; have q6 := (q_cells (QObj.stays HM5.out.page (fun j hj => hS6.1.block j (QObj.lt HM5.out.page j hj) (fun h => HM5.out.far j (List.mem_append.2 (.inl h)) hj)))).2; rw [LIVE.out] at q6; clear hS6 hD6))
            have HP6 := Lib.hid (((((HM5.out.keeps L (Moved.refl _ []).drew (fun _ h => by cases h)).whole GOOD.out LIVE.out CLEAN.out).side L HD6.out HS6.out).1.whole rfl LIVE.out CLEAN.out))
            clear b5 q5
            obtain ⟨zs, hzs⟩ : ∃ zs, zs = (st).bs := ⟨_, rfl⟩
            have HBY : Hid (ByteList zs) := by rw [hzs]; exact L.disk.bytes HP6.out.log.disk
            have HZS := Lib.hid hzs
            clear hzs
            go_wp2_with fail
            clear b6 q6
            refine (L.disk.read p f6 st (m + y + 9) _ HP6.out.log.disk (by omega)).mono ?_
            rw [off_live HP6.out.live, read_live HP6.out.live, ← HZS.out]
            rintro e wa ⟨va, fa, rfl, hTa, hna, hDa, hSa⟩
            obtain ⟨Aa, ca, rfl, -⟩ := t_shape hTa
            have HPa := Lib.hid ((HP6.out.side L hDa hSa).1.whole rfl HP6.out.live HP6.out.clean)
            have HTa := Lib.hid hTa
            clear hTa hna hDa hSa
            go_wp2_with fail
            refine (qread_any q f4 st (m + y + 9) _ HPa.out.page.on (by omega)).mono ?_
            unfold QRead
            rw [off_live HP6.out.live, read_live HP6.out.live, ← HZS.out]
            rintro e wb ⟨vb, rfl, hOb, hSb⟩
            obtain ⟨Ab, cb', rfl, -⟩ := own_shape hOb
            have HPb := Lib.hid (HPa.out.on L hSb.1)
            have HTb := Lib.hid (t_stays HTa.out (fun j hj => hSb.1.block j (t_lt HTa.out j hj) (by simp)))
            have HOb := Lib.hid hOb
            clear hOb hSb
            go_wp2_with fail
            refine (bytes_is _ _ _ _ _ _ zs zs _ (by exact HTb.out.nrow) (by exact NRow.of_own HOb.out) rfl rfl HBY.out HBY.out true (by simp)).mono ?_
            rintro e wc ⟨rfl, rfl⟩
            go_wp2
            go_roundw
            case rel => exact ⟨k + 1, (m + y + 9), l, st, n1, r1, _, x3, f4, rfl, by go_num, by omega, by omega, by omega, HPb.out⟩
            case measure => simp [intOf]; omega
          · have LIVE := Lib.hid l1
            clear l1
            obtain ⟨e0, he0⟩ : ∃ e0 : Int, e0 = if 131071 < y then 5 else (s.swap (snapFrame ys)).1 := ⟨_, rfl⟩
            have HE0 := Lib.hid he0
            clear he0
            go_wp2_with fail
            go_region_held3 (fun w' => w'.cell? ⟨g, 2, none⟩ = some (.slice B y cb)) (go_keep) (first
              | (go_at_call 17; refine ((HT2.out.on L (Moved.refl _ _).drew).compact L HLD.out (by exact HLE.out.drew) (by omega)).mono ?_; rintro e w3 hd; rw [← HE0.out, ← HST.out, ← HN1.out, ← HR1.out] at hd; obtain ⟨rfl, f3, x3, hM3, hS3⟩ := hd; have HK3 := Lib.hid ((HKE.out.on (Moved.refl _ _).drew).stepX hS3); have bc2 := cell_at HK3.out.box 2 (v := .slice B y cb) rfl; have HM3 := Lib.hid hM3; clear hM3 hS3)
              | (go_at_call 18; refine (qcompact_any q fq s m B y cb ys _ (by exact HM3.out.page) (by exact (HW.out.lent HM3.out.old HM3.out.newq)) (by omega)).mono ?_; rw [← HE0.out, ← HST.out]; rintro e w4 hd; obtain ⟨rfl, f4, hM4, hS4⟩ := HM3.out.does L hd; have HK4 := Lib.hid (HK3.out.stepY hS4); have bd2 := cell_at HK4.out.box 2 (v := .slice B y cb) rfl; have HM4 := Lib.hid hM4; clear hM4 hS4 hd))
            clear a0 a1 a2 bc2 bd2
            go_wp2_with fail
            refine (tspoil_any _ _ _ _ HK4.out.row (by omega)).mono ?_
            rintro e w5 ⟨rfl, hM5⟩
            have HM5 := Lib.hid (HM4.out.keeps L hM5 (fun j hj => ⟨HVW.out j (List.mem_cons_of_mem _ hj), HK4.out.left j (List.mem_cons_of_mem _ hj), HK4.out.right j (List.mem_cons_of_mem _ hj)⟩))
            have HBX5 := Lib.hid (HK4.out.spoilt hM5)
            have b5 := cell_at HBX5.out 0 (v := .int .i64 d) rfl
            clear hM5
            have q5 := (q_cells HM5.out.page).2
            rw [LIVE.out] at q5
            go_wp2_with fail
            go_region_held3 (fun w' => w'.cell? ⟨q, 2, none⟩ = some (.bool true)) (go_keep) ((go_at_call 28; refine (L.disk.off p f3 st (m + y + 9) _ (by exact (HM5.out.keeps L (Moved.refl _ []).drew (fun _ h => by cases h)).disk)).mono ?_; rw [LIVE.out]; rintro e w6 hd; obtain ⟨rfl, f6, hD6, hS6⟩ := hd; have HS6 := Lib.hid hS6; have HD6 := Lib.hid hD6; have b6 := cell_kept hS6 (by exact fun h => HK4.out.left g (by simp) (List.mem_append.2 (.inl h))) b5; have q6 := (q_cells (QObj.stays HM5.out.page (fun j hj => hS6.1.block j (QObj.lt HM5.out.page j hj) (fun h => HM5.out.far j (List.mem_append.2 (.inl h)) hj)))).2; rw [LIVE.out] at q6; clear hS6 hD6))
            have HP6 := Lib.hid (HM5.out.at2.apart_from P O (Moved.refl _ []).drew (fun _ h => by cases h))
            have HA6 := Lib.hid (HP6.out.step O HD6.out HS6.out)
            clear b5 q5 HP6
            go_wp2_with fail
            refine (opened_any L w _ p f6 st (m + y + 9) q f4 HA6.out (by omega) HLD.out).mono ?_
            rintro e w7 ⟨l7, f7, x7, g7, s7, n7, r7, rfl, hP7⟩
            have HP7 := Lib.hid hP7
            clear hP7 b6 q6 HA6
            obtain ⟨zs, hzs⟩ : ∃ zs, zs = (s7).bs := ⟨_, rfl⟩
            have HBY : Hid (ByteList zs) := by rw [hzs]; exact L.disk.bytes HP7.out.log.disk
            have HZS := Lib.hid hzs
            clear hzs
            go_wp2_with fail
            refine (L.disk.read p f7 s7 (m + y + 9) _ HP7.out.log.disk (by omega)).mono ?_
            rw [off_live HP7.out.live, read_live HP7.out.live, ← HZS.out]
            rintro e wa ⟨va, fa, rfl, hTa, hna, hDa, hSa⟩
            obtain ⟨Aa, ca, rfl, -⟩ := t_shape hTa
            have HPa := Lib.hid ((HP7.out.side L hDa hSa).1.whole rfl HP7.out.live HP7.out.clean)
            have HTa := Lib.hid hTa
            clear hTa hna hDa hSa
            go_wp2_with fail
            refine (qread_any q g7 s7 (m + y + 9) _ HPa.out.page.on (by omega)).mono ?_
            unfold QRead
            rw [off_live HP7.out.live, read_live HP7.out.live, ← HZS.out]
            rintro e wb ⟨vb, rfl, hOb, hSb⟩
            obtain ⟨Ab, cb', rfl, -⟩ := own_shape hOb
            have HPb := Lib.hid (HPa.out.on L hSb.1)
            have HTb := Lib.hid (t_stays HTa.out (fun j hj => hSb.1.block j (t_lt HTa.out j hj) (by simp)))
            have HOb := Lib.hid hOb
            clear hOb hSb
            go_wp2_with fail
            refine (bytes_is _ _ _ _ _ _ zs zs _ (by exact HTb.out.nrow) (by exact NRow.of_own HOb.out) rfl rfl HBY.out HBY.out true (by simp)).mono ?_
            rintro e wc ⟨rfl, rfl⟩
            go_wp2
            go_roundw
            case rel => exact ⟨k + 1, (m + y + 9), l7, s7, n7, r7, _, x7, g7, rfl, by go_num, by omega, by omega, by omega, HPb.out⟩
            case measure => simp [intOf]; omega
        · have e3 : ((u : Int) % 8 == 3) = false := by simp; omega
          have e4 : ((u : Int) % 8 == 4) = false := by simp; omega
          have e5 : ((u : Int) % 8 == 5) = true := by simp; omega
          have e6 : ((u : Int) % 8 == 6) = false := by simp; omega
          have e7 : ((u : Int) % 8 == 7) = false := by simp; omega
          obtain ⟨st, hst⟩ : ∃ st, st = s.arm kk := ⟨_, rfl⟩
          have HST := Lib.hid hst
          have hcl := clean_arm kk HT2.out.live HT2.out.clean
          rw [← hst] at hcl
          have LIVE := Lib.hid hcl.1
          have CLEAN := Lib.hid hcl.2
          clear hst hcl
          go_wp2_with fail
          refine (L.disk.trip p fd s m kk _ HT2.out.log.disk hk0 hk1).mono ?_
          rintro e w3 hd; rw [← HST.out] at hd; obtain ⟨rfl, f3, hM3, hS3⟩ := HT2.out.sideDoes L hd
          have HK3 := Lib.hid (HKE.out.stepX hS3)
          have bc1 := cell_at HK3.out.box 1 (v := .int .i64 kk) rfl
          have HM3 := Lib.hid hM3
          clear hM3 hS3
          go_wp2_with fail
          refine (qtrip_any q fq s m kk _ (by exact HM3.out.page) hk0 hk1).mono ?_
          rw [← HST.out]
          rintro e w4 hd
          obtain ⟨rfl, f4, hM4, hS4⟩ := HM3.out.does L hd
          have HK4 := Lib.hid (HK3.out.stepY hS4)
          have HM4 := Lib.hid hM4
          clear hM4 hS4 hd
          clear a0 a1 a2 bc1
          go_wp2_with fail
          refine (tspoil_any _ _ _ _ HK4.out.row (by omega)).mono ?_
          rintro e w5 ⟨rfl, hM5⟩
          have HM5 := Lib.hid (HM4.out.keeps L hM5 (fun j hj => ⟨HVW.out j (List.mem_cons_of_mem _ hj), HK4.out.left j (List.mem_cons_of_mem _ hj), HK4.out.right j (List.mem_cons_of_mem _ hj)⟩))
          have HBX5 := Lib.hid (HK4.out.spoilt hM5)
          have b5 := cell_at HBX5.out 0 (v := .int .i64 d) rfl
          clear hM5
          have q5 := (q_cells HM5.out.page).2
          rw [LIVE.out] at q5
          go_wp2_with fail
          go_region_held3 (fun w' => w'.cell? ⟨q, 2, none⟩ = some (.bool false)) (go_keep) ((go_at_call 28; refine (L.disk.off p f3 st m _ (by exact (HM5.out.keeps L (Moved.refl _ []).drew (fun _ h => by cases h)).disk)).mono ?_; rw [LIVE.out]; rintro e w6 hd; obtain ⟨rfl, f6, hD6, hS6⟩ := hd; have HS6 := Lib.hid hS6; have HD6 := Lib.hid hD6; have b6 := cell_kept hS6 (by exact fun h => HK4.out.left g (by simp) (List.mem_append.2 (.inl h))) b5; have q6 := (q_cells (QObj.stays HM5.out.page (fun j hj => hS6.1.block j (QObj.lt HM5.out.page j hj) (fun h => HM5.out.far j (List.mem_append.2 (.inl h)) hj)))).2; rw [LIVE.out] at q6; clear hS6 hD6))
          have HP6 := Lib.hid (((((HM5.out.keeps L (Moved.refl _ []).drew (fun _ h => by cases h)).whole (by trivial) LIVE.out CLEAN.out).side L HD6.out HS6.out).1.whole rfl LIVE.out CLEAN.out))
          clear b5 q5
          obtain ⟨zs, hzs⟩ : ∃ zs, zs = (st).bs := ⟨_, rfl⟩
          have HBY : Hid (ByteList zs) := by rw [hzs]; exact L.disk.bytes HP6.out.log.disk
          have HZS := Lib.hid hzs
          clear hzs
          go_wp2_with fail
          clear b6 q6
          refine (L.disk.read p f6 st m _ HP6.out.log.disk (by omega)).mono ?_
          rw [off_live HP6.out.live, read_live HP6.out.live, ← HZS.out]
          rintro e wa ⟨va, fa, rfl, hTa, hna, hDa, hSa⟩
          obtain ⟨Aa, ca, rfl, -⟩ := t_shape hTa
          have HPa := Lib.hid ((HP6.out.side L hDa hSa).1.whole rfl HP6.out.live HP6.out.clean)
          have HTa := Lib.hid hTa
          clear hTa hna hDa hSa
          go_wp2_with fail
          refine (qread_any q f4 st m _ HPa.out.page.on (by omega)).mono ?_
          unfold QRead
          rw [off_live HP6.out.live, read_live HP6.out.live, ← HZS.out]
          rintro e wb ⟨vb, rfl, hOb, hSb⟩
          obtain ⟨Ab, cb', rfl, -⟩ := own_shape hOb
          have HPb := Lib.hid (HPa.out.on L hSb.1)
          have HTb := Lib.hid (t_stays HTa.out (fun j hj => hSb.1.block j (t_lt HTa.out j hj) (by simp)))
          have HOb := Lib.hid hOb
          clear hOb hSb
          go_wp2_with fail
          refine (bytes_is _ _ _ _ _ _ zs zs _ (by exact HTb.out.nrow) (by exact NRow.of_own HOb.out) rfl rfl HBY.out HBY.out true (by simp)).mono ?_
          rintro e wc ⟨rfl, rfl⟩
          go_wp2
          go_roundw
          case rel => exact ⟨k + 1, m, l, st, sn, rs, _, fl1, f4, rfl, by go_num, by omega, by omega, Nat.le_trans hm (Nat.mul_le_mul_right 262153 (Nat.le_succ k)), HPb.out⟩
          case measure => simp [intOf]; omega
        · have e3 : ((u : Int) % 8 == 3) = false := by simp; omega
          have e4 : ((u : Int) % 8 == 4) = false := by simp; omega
          have e5 : ((u : Int) % 8 == 5) = false := by simp; omega
          have e6 : ((u : Int) % 8 == 6) = true := by simp; omega
          have e7 : ((u : Int) % 8 == 7) = false := by simp; omega
          obtain ⟨st, hst⟩ : ∃ st, st = s.crash kk := ⟨_, rfl⟩
          have HST := Lib.hid hst
          have LIVE := Lib.hid (show st.dead = true by rw [hst]; exact crash_dead kk HT2.out.live)
          clear hst
          go_wp2_with fail
          refine (L.disk.crash p fd s m kk _ HT2.out.log.disk (by omega) hk0 hk1).mono ?_
          rintro e w3 hd; rw [← HST.out] at hd; obtain ⟨rfl, f3, hM3, hS3⟩ := HT2.out.sideDoes L hd
          have HK3 := Lib.hid (HKE.out.stepX hS3)
          have bc1 := cell_at HK3.out.box 1 (v := .int .i64 kk) rfl
          have HM3 := Lib.hid hM3
          clear hM3 hS3
          go_wp2_with fail
          refine (qcrash_any q fq s m kk _ (by exact HM3.out.page) (by omega)).mono ?_
          rw [← HST.out]
          rintro e w4 hd
          obtain ⟨rfl, f4, hM4, hS4⟩ := HM3.out.does L hd
          have HK4 := Lib.hid (HK3.out.stepY hS4)
          have HM4 := Lib.hid hM4
          clear hM4 hS4 hd
          clear a0 a1 a2 bc1
          go_wp2_with fail
          refine (tspoil_any _ _ _ _ HK4.out.row (by omega)).mono ?_
          rintro e w5 ⟨rfl, hM5⟩
          have HM5 := Lib.hid (HM4.out.keeps L hM5 (fun j hj => ⟨HVW.out j (List.mem_cons_of_mem _ hj), HK4.out.left j (List.mem_cons_of_mem _ hj), HK4.out.right j (List.mem_cons_of_mem _ hj)⟩))
          have HBX5 := Lib.hid (HK4.out.spoilt hM5)
          have b5 := cell_at HBX5.out 0 (v := .int .i64 d) rfl
          clear hM5
          have q5 := (q_cells HM5.out.page).2
          rw [LIVE.out] at q5
          go_wp2_with fail
          go_region_held3 (fun w' => w'.cell? ⟨q, 2, none⟩ = some (.bool true)) (go_keep) ((go_at_call 28; refine (L.disk.off p f3 st m _ (by exact (HM5.out.keeps L (Moved.refl _ []).drew (fun _ h => by cases h)).disk)).mono ?_; rw [LIVE.out]; rintro e w6 hd; obtain ⟨rfl, f6, hD6, hS6⟩ := hd; have HS6 := Lib.hid hS6; have HD6 := Lib.hid hD6; have b6 := cell_kept hS6 (by exact fun h => HK4.out.left g (by simp) (List.mem_append.2 (.inl h))) b5; have q6 := (q_cells (QObj.stays HM5.out.page (fun j hj => hS6.1.block j (QObj.lt HM5.out.page j hj) (fun h => HM5.out.far j (List.mem_append.2 (.inl h)) hj)))).2; rw [LIVE.out] at q6; clear hS6 hD6))
          have HP6 := Lib.hid (HM5.out.at2.apart_from P O (Moved.refl _ []).drew (fun _ h => by cases h))
          have HA6 := Lib.hid (HP6.out.step O HD6.out HS6.out)
          clear b5 q5 HP6
          go_wp2_with fail
          refine (opened_any L w _ p f6 st m q f4 HA6.out (by omega) HLD.out).mono ?_
          rintro e w7 ⟨l7, f7, x7, g7, s7, n7, r7, rfl, hP7⟩
          have HP7 := Lib.hid hP7
          clear hP7 b6 q6 HA6
          obtain ⟨zs, hzs⟩ : ∃ zs, zs = (s7).bs := ⟨_, rfl⟩
          have HBY : Hid (ByteList zs) := by rw [hzs]; exact L.disk.bytes HP7.out.log.disk
          have HZS := Lib.hid hzs
          clear hzs
          go_wp2_with fail
          refine (L.disk.read p f7 s7 m _ HP7.out.log.disk (by omega)).mono ?_
          rw [off_live HP7.out.live, read_live HP7.out.live, ← HZS.out]
          rintro e wa ⟨va, fa, rfl, hTa, hna, hDa, hSa⟩
          obtain ⟨Aa, ca, rfl, -⟩ := t_shape hTa
          have HPa := Lib.hid ((HP7.out.side L hDa hSa).1.whole rfl HP7.out.live HP7.out.clean)
          have HTa := Lib.hid hTa
          clear hTa hna hDa hSa
          go_wp2_with fail
          refine (qread_any q g7 s7 m _ HPa.out.page.on (by omega)).mono ?_
          unfold QRead
          rw [off_live HP7.out.live, read_live HP7.out.live, ← HZS.out]
          rintro e wb ⟨vb, rfl, hOb, hSb⟩
          obtain ⟨Ab, cb', rfl, -⟩ := own_shape hOb
          have HPb := Lib.hid (HPa.out.on L hSb.1)
          have HTb := Lib.hid (t_stays HTa.out (fun j hj => hSb.1.block j (t_lt HTa.out j hj) (by simp)))
          have HOb := Lib.hid hOb
          clear hOb hSb
          go_wp2_with fail
          refine (bytes_is _ _ _ _ _ _ zs zs _ (by exact HTb.out.nrow) (by exact NRow.of_own HOb.out) rfl rfl HBY.out HBY.out true (by simp)).mono ?_
          rintro e wc ⟨rfl, rfl⟩
          go_wp2
          go_roundw
          case rel => exact ⟨k + 1, m, l7, s7, n7, r7, _, x7, g7, rfl, by go_num, by omega, by omega, Nat.le_trans hm (Nat.mul_le_mul_right 262153 (Nat.le_succ k)), HPb.out⟩
          case measure => simp [intOf]; omega
        · have e3 : ((u : Int) % 8 == 3) = false := by simp; omega
          have e4 : ((u : Int) % 8 == 4) = false := by simp; omega
          have e5 : ((u : Int) % 8 == 5) = false := by simp; omega
          have e6 : ((u : Int) % 8 == 6) = false := by simp; omega
          have e7 : ((u : Int) % 8 == 7) = true := by simp; omega
          obtain ⟨st, hst⟩ : ∃ st, st = s.add ys := ⟨_, rfl⟩
          have HST := Lib.hid hst
          have LIVE := Lib.hid (show st.dead = false by rw [hst]; exact add_live HT2.out.live)
          clear hst
          go_wp2_with fail
          go_region_held3 (fun w' => w'.cell? ⟨g, 2, none⟩ = some (.slice B y cb)) (go_keep) (first
            | (go_at_call 23; refine (L.disk.append p fd s m A2 y c2 ys _ (by exact (HT2.out.on L (Moved.refl _ _).drew).log.disk) (by exact HLE.out.drew.less (fun _ h => List.mem_append.2 (.inl h))) (by omega)).mono ?_; rintro e w3 hd; rw [off_live HT2.out.live, ← HST.out] at hd; obtain ⟨rfl, f3, hM3, hS3⟩ := (HT2.out.on L (Moved.refl _ _).drew).sideDoes L hd; have HK3 := Lib.hid ((HKE.out.on (Moved.refl _ _).drew).stepX hS3); have bc2 := cell_at HK3.out.box 2 (v := .slice B y cb) rfl; have HM3 := Lib.hid hM3; clear hM3 hS3)
            | (go_at_call 24; refine (qappend_any q fq s m B y cb ys _ (by exact HM3.out.page) (by exact (HW.out.lent HM3.out.old HM3.out.newq)) (by omega)).mono ?_; rw [off_live HT2.out.live, ← HST.out]; rintro e w4 hd; obtain ⟨rfl, f4, hM4, hS4⟩ := HM3.out.does L hd; have HK4 := Lib.hid (HK3.out.stepY hS4); have bd2 := cell_at HK4.out.box 2 (v := .slice B y cb) rfl; have HM4 := Lib.hid hM4; clear hM4 hS4 hd))
          clear a0 a1 a2 bc2 bd2
          go_wp2_with fail
          refine (tspoil_any _ _ _ _ HK4.out.row (by omega)).mono ?_
          rintro e w5 ⟨rfl, hM5⟩
          have HM5 := Lib.hid (HM4.out.keeps L hM5 (fun j hj => ⟨HVW.out j (List.mem_cons_of_mem _ hj), HK4.out.left j (List.mem_cons_of_mem _ hj), HK4.out.right j (List.mem_cons_of_mem _ hj)⟩))
          have HBX5 := Lib.hid (HK4.out.spoilt hM5)
          have b5 := cell_at HBX5.out 0 (v := .int .i64 d) rfl
          clear hM5
          have q5 := (q_cells HM5.out.page).2
          rw [LIVE.out] at q5
          go_wp2_with fail
          go_region_held3 (fun w' => w'.cell? ⟨q, 2, none⟩ = some (.bool false)) (go_keep) ((go_at_call 28; refine (L.disk.off p f3 st (m + y) _ (by exact (HM5.out.keeps L (Moved.refl _ []).drew (fun _ h => by cases h)).disk)).mono ?_; rw [LIVE.out]; rintro e w6 hd; obtain ⟨rfl, f6, hD6, hS6⟩ := hd; have HS6 := Lib.hid hS6; have HD6 := Lib.hid hD6; have b6 := cell_kept hS6 (by exact fun h => HK4.out.left g (by simp) (List.mem_append.2 (.inl h))) b5; have q6 := (q_cells (QObj.stays HM5.out.page (fun j hj => hS6.1.block j (QObj.lt HM5.out.page j hj) (fun h => HM5.out.far j (List.mem_append.2 (.inl h)) hj)))).2; rw [LIVE.out] at q6; clear hS6 hD6))
          have HP6 := Lib.hid (HM5.out.at2.apart_from P O (Moved.refl _ []).drew (fun _ h => by cases h))
          have HA6 := Lib.hid (HP6.out.step O HD6.out HS6.out)
          clear b5 q5 HP6
          go_wp2_with fail
          refine (opened_any L w _ p f6 st (m + y) q f4 HA6.out (by omega) HLD.out).mono ?_
          rintro e w7 ⟨l7, f7, x7, g7, s7, n7, r7, rfl, hP7⟩
          have HP7 := Lib.hid hP7
          clear hP7 b6 q6 HA6
          obtain ⟨zs, hzs⟩ : ∃ zs, zs = (s7).bs := ⟨_, rfl⟩
          have HBY : Hid (ByteList zs) := by rw [hzs]; exact L.disk.bytes HP7.out.log.disk
          have HZS := Lib.hid hzs
          clear hzs
          go_wp2_with fail
          refine (L.disk.read p f7 s7 (m + y) _ HP7.out.log.disk (by omega)).mono ?_
          rw [off_live HP7.out.live, read_live HP7.out.live, ← HZS.out]
          rintro e wa ⟨va, fa, rfl, hTa, hna, hDa, hSa⟩
          obtain ⟨Aa, ca, rfl, -⟩ := t_shape hTa
          have HPa := Lib.hid ((HP7.out.side L hDa hSa).1.whole rfl HP7.out.live HP7.out.clean)
          have HTa := Lib.hid hTa
          clear hTa hna hDa hSa
          go_wp2_with fail
          refine (qread_any q g7 s7 (m + y) _ HPa.out.page.on (by omega)).mono ?_
          unfold QRead
          rw [off_live HP7.out.live, read_live HP7.out.live, ← HZS.out]
          rintro e wb ⟨vb, rfl, hOb, hSb⟩
          obtain ⟨Ab, cb', rfl, -⟩ := own_shape hOb
          have HPb := Lib.hid (HPa.out.on L hSb.1)
          have HTb := Lib.hid (t_stays HTa.out (fun j hj => hSb.1.block j (t_lt HTa.out j hj) (by simp)))
          have HOb := Lib.hid hOb
          clear hOb hSb
          go_wp2_with fail
          refine (bytes_is _ _ _ _ _ _ zs zs _ (by exact HTb.out.nrow) (by exact NRow.of_own HOb.out) rfl rfl HBY.out HBY.out true (by simp)).mono ?_
          rintro e wc ⟨rfl, rfl⟩
          go_wp2
          go_roundw
          case rel => exact ⟨k + 1, (m + y), l7, s7, n7, r7, _, x7, g7, rfl, by go_num, by omega, by omega, by omega, HPb.out⟩
          case measure => simp [intOf]; omega
      · by_cases h1 : k < n
        · have hd2 : decide (k < 50) = false := by simp; omega
          go_wp2_with (first
            | (go_at_call 13; refine (same_any L w _ p l fd fl q fq s sn rs m HT.out (by omega)).mono ?_; rintro e w6 ⟨rfl, x6, h6⟩; have H6 := Lib.hid h6; clear h6)
            | (go_at_call 32; refine (wakes_any L _ (by exact HLD.out.moved H6.out.log.old)).mono ?_; rintro e w7 ⟨rfl, hM7⟩; have HM7 := Lib.hid (H6.out.log.old.trans hM7 (fun _ h => by cases h)); clear hM7))
          go_ret
          exact ⟨rfl, HM7.out⟩
        · go_wp2_with (first
            | (go_at_call 13; refine (same_any L w _ p l fd fl q fq s sn rs m HT.out (by omega)).mono ?_; rintro e w6 ⟨rfl, x6, h6⟩; have H6 := Lib.hid h6; clear h6)
            | (go_at_call 32; refine (wakes_any L _ (by exact HLD.out.moved H6.out.log.old)).mono ?_; rintro e w7 ⟨rfl, hM7⟩; have HM7 := Lib.hid (H6.out.log.old.trans hM7 (fun _ h => by cases h)); clear hM7))
          go_ret
          exact ⟨rfl, HM7.out⟩
end Lg
end Go.Proofs.YtekleamkpfeifaaDoor
