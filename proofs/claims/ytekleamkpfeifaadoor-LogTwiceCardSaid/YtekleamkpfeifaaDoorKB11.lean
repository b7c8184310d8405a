/-
  1 texts in one: LogSealed.
-/
import Derived.Test.YtekleamkpfeifaaDoorKB05
import Derived.Test.YtekleamkpfeifaaDoorKB06
import Derived.Test.YtekleamkpfeifaaDoorKB10

/-
  CONTRACTS of package journal's sealed, Append, Sync, Compact.
-/
namespace Go.Proofs.YtekleamkpfeifaaDoor
namespace Lg
open Go.RowKit Dk Fr
set_option maxRecDepth 100000 in
set_option maxHeartbeats 1000000 in
theorem sealed_any (x : Int) (A : Option Addr) (n c : Nat) (ys : List Int) (w : World) (hx : 0 ≤ x ∧ x ≤ 255) (hA : NRow .u8 w A ys) (hn : ys.length = n) (hb : ByteList ys) (hnil : A = none → c = 0) (hc : n ≤ c) (hc2 : c ≤ 9223372036854775807) (hlen : n ≤ 1073741824) (hld : Ld w) :
    Calls Tryd.prog 46 #[.int .u8 x, .slice A n c] w (ToldB (sealOut (x :: ys)) (sealErr (x :: ys)) w) := by
  subst hn
  have HB1 := Lib.hid (bites_lit w [x] #[.int .u8 x] 5 (0, 0) rfl (by simp))
  have HX1 := Lib.hid (bites_alloc (show Bites w (.slice A ys.length c) ys from ⟨A, c, rfl, hA, hnil, hc, hc2⟩) (.cells #[.int .u8 x] 5))
  have hBR := brows_two 27 HB1.out HX1.out
  rw [show (w.alloc (.cells #[.int .u8 x] 5)).heap.size = w.heap.size + 1 by simp] at hBR
  have HBR := Lib.hid hBR
  have HL := Lib.hid ((hld.alloc (.cells #[.int .u8 x] 5)).alloc (.cells #[.slice (some ⟨w.heap.size, 0, none⟩) 1 1, .slice A ys.length c] 27))
  have HM := Lib.hid (((Moved.refl w []).alloc (.cells #[.int .u8 x] 5)).alloc (.cells #[.slice (some ⟨w.heap.size, 0, none⟩) 1 1, .slice A ys.length c] 27))
  have HB := Lib.hid (show ByteList (x :: ys) from fun y hy => (List.mem_cons.1 hy).elim (fun h => by rw [h]; exact hx) (hb y))
  clear hA hb hnil hld hBR
  go_enter Tryd.func46, Tryd.ntmps46
  go_wp2_with fail
  refine (concat_any _ 2 2 _ [[x], ys] _ (by exact HBR.out) rfl (by omega) (by simp; omega)).mono ?_
  rw [show ([[x], ys] : List (List Int)).flatten = x :: ys by simp]
  rintro e w1 ⟨v1, rfl, hO1, hS1⟩
  obtain ⟨A1, c1, rfl, hn1, hc1⟩ := own_shape hO1
  have HO1 := Lib.hid hO1
  have HM1 := Lib.hid (HM.out.trans hS1.1 (fun _ h => by cases h))
  have HL1 := Lib.hid (HL.out.moved hS1.1)
  have HN1 := Lib.hid hn1
  have HC1 := Lib.hid hc1
  have HX : Hid ((x :: ys).length ≤ 1099511627776) := by show _ ≤ _; rw [List.length_cons]; omega
  clear hO1 hS1 hn1 hc1
  go_wp2_with fail
  refine (seal_any A1 _ c1 (x :: ys) w1 (NRow.of_own HO1.out) rfl HB.out HN1.out HC1.out.1 HC1.out.2 HX.out HL1.out).mono ?_
  rintro e w2 ⟨v2, rfl, hO2, hS2⟩
  have HO2 := Lib.hid hO2
  have HS2 := Lib.hid (show Step w w2 [] (rowOf v2) from ⟨HM1.out.trans hS2.1 (fun _ h => by cases h), fun b hb => .inr (Nat.le_trans HM1.out.size (Step.new hS2 b hb))⟩)
  clear hO2 hS2
  go_wp2
  go_ret2
  exact ⟨_, rfl, HO2.out, HS2.out⟩
/-- What sealed lays, lent to a Disk. -/
theorem lent_new {w w1 : World} {fd : List Nat} {A : Option Addr} {c : Nat} {fo : List Int} (hfd : ∀ k ∈ fd, k < w.heap.size) (hO : w1.ownsRow 0 5 1 (.slice A fo.length c) fo.length (fo.map (Value.int .u8))) (hS : Step w w1 [] (rowOf (.slice A fo.length c))) (hn : A = none → c = 0) (hc : fo.length ≤ c ∧ c ≤ 9223372036854775807) (hb : ByteList fo) : Lent w1 fd A fo.length c fo :=
  ⟨NRow.of_own hO, rfl, hn, hc, hb, fun b hb hf => by have := hfd b hf; have := Step.new hS b (rowX_rowOf hb); omega⟩
theorem lent_moved {w w1 : World} {fd : List Nat} {A : Option Addr} {n c : Nat} {ys : List Int} (h : Lent w fd A n c ys) {S T : List Nat} (hM : Moved w w1 S) (hS : ∀ k ∈ rowX A ys, k ∉ S) (hT : ∀ k ∈ rowX A ys, k ∉ T) : Lent w1 T A n c ys :=
  ⟨nrowx_moved h.row hM hS, h.len, h.nil, h.room, h.bytes, hT⟩
/-- Behind a stroke of the Disk a record is laid. -/
theorem add_end {w w1 w2 w3 : World} {l p b m2 : Nat} {fd fd2 : List Nat} {S : ByteArray} {R : List Rc} {t : ByteArray} {s2 : DSt} (hlt : ∀ k ∈ l :: rblks R, k < w.heap.size) (hap : ∀ k ∈ l :: rblks R, k ∉ fd) (hM1 : Moved w w1 []) (hS2 : Step w1 w2 fd fd2) (hD2 : DObj w2 p fd2 s2 m2) (hb : w2.heap.size ≤ b) (hG3 : GRaw w3 l p S (⟨b, t⟩ :: R)) (hM3 : Moved w2 w3 [l]) :
    Step w w3 (fd ++ (l :: rblks R)) (fd2 ++ (l :: rblks (⟨b, t⟩ :: R))) ∧ (∀ k ∈ l :: rblks (⟨b, t⟩ :: R), k ∉ fd2) ∧ DObj w3 p fd2 s2 m2 := by
  have h12 : w.heap.size ≤ w1.heap.size := hM1.size
  have h23 : w1.heap.size ≤ w2.heap.size := hS2.1.size
  have hold : ∀ k ∈ l :: rblks R, k ∉ fd2 := fun k hk hf => (hS2.2 k hf).elim (hap k hk) (fun h => by have := hlt k hk; omega)
  refine ⟨⟨((hM1.mono (fun _ h => by cases h)).trans hS2.1 (fun k hk => .inl (List.mem_append.2 (.inl hk)))).trans hM3 (fun k hk => .inl (by simp at hk; simp [hk])), fun k hk => ?_⟩, fun k hk => ?_, hD2.stays (fun k hk => hM3.block k (hD2.lt k hk) (fun h => by simp at h; subst h; exact hold _ (by simp) hk))⟩
  · rcases List.mem_append.1 hk with hk | hk
    · exact (hS2.2 k hk).imp (fun h => List.mem_append.2 (.inl h)) (fun h => by omega)
    · rcases List.mem_cons.1 hk with rfl | hk
      · exact .inl (by simp)
      · rcases List.mem_cons.1 hk with rfl | hk
        · exact .inr (Nat.le_trans (Nat.le_trans h12 h23) hb)
        · exact .inl (by simp [hk])
  · rcases List.mem_cons.1 hk with rfl | hk
    · exact hold _ (by simp)
    · rcases List.mem_cons.1 hk with rfl | hk
      · exact fun hf => Nat.lt_irrefl _ (Nat.lt_of_lt_of_le (hD2.lt _ hf) hb)
      · exact hold _ (by simp [hk])
set_option maxRecDepth 100000 in
set_option maxHeartbeats 1000000 in
theorem gappend_any (l p : Nat) (fd fl : List Nat) (s : DSt) (sn : List Int) (rs : List (List Int)) (m : Nat) (A : Option Addr) (n c : Nat) (ys : List Int) (w : World) (hD : DObj w p fd s m) (hG : GObj w l p fl sn rs m) (hap : ∀ k ∈ fl, k ∉ fd) (hY : Lent w (fd ++ fl) A n c ys) (hd : s.dead = false) (hm : m + n + 9 ≤ 1073741824) (hld : Ld w) :
    Calls Tryd.prog 25 #[.pointer (some ⟨l, 0, none⟩), .slice A n c] w fun r w' => ∃ fd' fl', Step w w' (fd ++ fl) (fd' ++ fl') ∧ (∀ k ∈ fl', k ∉ fd') ∧
      if 131071 < n then r = .returned (.int .i64 5) ∧ DObj w' p fd' s (m + n + 9) ∧ GObj w' l p fl' sn rs (m + n + 9)
      else r = .returned (.int .i64 0) ∧ DObj w' p fd' (s.add (recFrame ys)) (m + n + 9) ∧ GObj w' l p fl' sn (rs ++ [ys]) (m + n + 9) := by
  have HD := Lib.hid hD
  have HG := Lib.hid hG
  have HY := Lib.hid hY
  have HAP := Lib.hid hap
  have HLD := Lib.hid hld
  have HYL := Lib.hid (show (82 :: ys).length = 1 + n by rw [List.length_cons, hY.len]; omega)
  have hoff : s.off = 0 := by unfold DSt.off; rw [hd]; rfl
  clear hD hY hap hld
  by_cases hbig : 131071 < n
  · have hso := seal_big (p := 82 :: ys) (by rw [HYL.out]; omega)
    clear hG
    go_enter Tryd.func25, Tryd.ntmps25
    go_wp2_with fail
    refine (sealed_any 82 A n c ys w (by omega) HY.out.row HY.out.len HY.out.bytes HY.out.nil HY.out.room.1 HY.out.room.2 (by omega) HLD.out).mono ?_
    rw [hso.1, hso.2]
    rintro e w1 ⟨v1, rfl, hO1, hS1⟩
    obtain ⟨A1, c1, rfl, -⟩ := own_shape hO1
    have HM1 := Lib.hid hS1.1
    clear hO1 hS1 hso
    go_wp2
    go_ret
    exact ⟨fd, fl, ⟨HM1.out.mono (fun _ h => by cases h), fun _ h => .inl h⟩, HAP.out, rfl, (HD.out.stays (fun b hb => HM1.out.block b (HD.out.lt b hb) (fun h => by cases h))).more (by omega), (HG.out.stays (fun b hb => HM1.out.block b (HG.out.lt b hb) (fun h => by cases h))).more (by omega)⟩
  · have hso := seal_fits (p := 82 :: ys) (by rw [HYL.out]; omega)
    obtain ⟨fo, hfo⟩ : ∃ fo, fo = frameOf (82 :: ys) := ⟨_, rfl⟩
    rw [← hfo] at hso
    have hfl : fo.length = 9 + n := by rw [hfo, frameOf_len, HYL.out]; omega
    have HFB := Lib.hid (show ByteList fo by rw [hfo]; exact logged_bytes (by omega) HY.out.bytes (by rw [HY.out.len]; omega))
    have HFO := Lib.hid hfo
    have HFL := Lib.hid hfl
    obtain ⟨S, R, hfl2, hr, hsn, hrs, hbd⟩ := hG
    have HR := Lib.hid hr
    have c0 := cell_at hr.at_ 0 (v := .pointer (some ⟨p, 0, none⟩)) rfl
    clear hfo hfl hr
    go_enter Tryd.func25, Tryd.ntmps25
    go_wp2_with fail
    refine (sealed_any 82 A n c ys w (by omega) HY.out.row HY.out.len HY.out.bytes HY.out.nil HY.out.room.1 HY.out.room.2 (by omega) HLD.out).mono ?_
    rw [hso.1, hso.2]
    rintro e w1 ⟨v1, rfl, hO1, hS1⟩
    obtain ⟨A1, c1, rfl, hn1, hc1⟩ := own_shape hO1
    have HY1 := Lib.hid (lent_new HD.out.lt hO1 hS1 hn1 hc1 HFB.out)
    have HM1 := Lib.hid hS1.1
    have hr1 := HR.out.still hS1.1
    have d0 := cell_at hr1.at_ 0 (v := .pointer (some ⟨p, 0, none⟩)) rfl
    have HD1 := Lib.hid (HD.out.stays (fun b hb => hS1.1.block b (HD.out.lt b hb) (fun h => by cases h)))
    clear hO1 hS1 hso hn1 hc1 hr1 c0
    go_wp2_with fail
    refine (dappend_any p fd s m A1 fo.length c1 fo w1 HD1.out HY1.out (by rw [HFL.out]; omega)).mono ?_
    rw [hoff]
    rintro e w2 ⟨rfl, f2, h2, hS2⟩
    have hAP2 : ∀ k ∈ l :: rblks R, k ∉ fd := by rw [← hfl2]; exact HAP.out
    have hr2 : GRaw w2 l p S R := (HR.out.still HM1.out).stays (fun k hk => hS2.1.block k (Nat.lt_of_lt_of_le (HR.out.lt k hk) HM1.out.size) (hAP2 k hk))
    have HR2 := Lib.hid hr2
    have HY2 := Lib.hid (nrowx_moved (nrowx_moved HY.out.row HM1.out (fun _ _ h => by cases h)) hS2.1 (fun k hk h => HY.out.far k hk (by simp [h])))
    have H2 := Lib.hid (show DObj w2 p f2 (s.add (recFrame ys)) (m + n + 9) by rw [HFO.out] at h2; exact h2.more (by rw [← HFO.out, HFL.out]; omega))
    have HS2 := Lib.hid hS2
    have HAP2 := Lib.hid hAP2
    clear h2 hS2 hr2 hAP2
    go_wp2_with fail
    refine (add_any l p S R A n c ys w2 HR2.out HY2.out HY.out.len).mono ?_
    rintro e w3 ⟨rfl, b, hb3, hG3, hM3⟩
    have HE := Lib.hid (add_end HR.out.lt HAP2.out HM1.out HS2.out H2.out hb3 hG3 hM3)
    have HG3 := Lib.hid hG3
    clear hb3 hG3 hM3
    go_wp2
    go_ret
    subst hfl2
    exact ⟨f2, _, HE.out.1, HE.out.2.1, rfl, HE.out.2.2, S, _, rfl, HG3.out, hsn, by rw [rtexts, hrs, Pk.nums_str HY.out.bytes], by have := HY.out.len; simp at hbd ⊢; omega⟩
set_option maxRecDepth 100000 in
set_option maxHeartbeats 1000000 in
theorem gsync_any (l p : Nat) (fd fl : List Nat) (s : DSt) (sn : List Int) (rs : List (List Int)) (m : Nat) (w : World) (hD : DObj w p fd s m) (hG : GObj w l p fl sn rs m) (hap : ∀ k ∈ fl, k ∉ fd) (hm : m ≤ 1073741824) :
    Calls Tryd.prog 15 #[.pointer (some ⟨l, 0, none⟩)] w fun r w' => ∃ fd' fl', Step w w' (fd ++ fl) (fd' ++ fl') ∧ (∀ k ∈ fl', k ∉ fd') ∧
      r = .returned (.int .i64 s.sync.1) ∧ DObj w' p fd' s.sync.2 m ∧ (s.sync.1 = 0 → GObj w' l p fl' sn rs m) := by
  have HG := Lib.hid hG
  obtain ⟨S, R, hfl2, hr, hsn, hrs, hbd⟩ := hG
  have c0 := cell_at hr.at_ 0 (v := .pointer (some ⟨p, 0, none⟩)) rfl
  have HD := Lib.hid hD
  have HAP := Lib.hid hap
  clear hD hap hr hsn hrs hfl2
  go_enter Tryd.func15, Tryd.ntmps15
  go_wp2_with fail
  refine (dsync_any p fd s m w HD.out (by omega)).mono ?_
  rintro e w2 ⟨rfl, f2, h2, hS2⟩
  have H2 := Lib.hid h2
  have HS2 := Lib.hid hS2
  clear h2 hS2
  go_wp2
  go_ret
  refine ⟨f2, fl, ⟨HS2.out.1.mono (fun k hk => by simp [hk]), fun k hk => ?_⟩, fun k hk hf => ?_, rfl, H2.out, fun _ => HG.out.stays (fun k hk => HS2.out.1.block k (HG.out.lt k hk) (HAP.out k hk))⟩
  · rcases List.mem_append.1 hk with hk | hk
    · exact (HS2.out.2 k hk).imp (fun h => List.mem_append.2 (.inl h)) id
    · exact .inl (List.mem_append.2 (.inr hk))
  · exact (HS2.out.2 k hf).elim (HAP.out k hk) (fun h => by have := HG.out.lt k hk; omega)
theorem swap_off {s : DSt} {ys : List Int} {k : Int} (hd : s.dead = false) (ht : s.trip = some k) : s.swap ys = (7, s.crash k) := by
  unfold DSt.swap DSt.stroke
  rw [hd, ht]
  rfl
theorem swap_on {s : DSt} {ys : List Int} (hd : s.dead = false) (ht : s.trip = none) : s.swap ys = (0, { s with bs := ys, safe := ys.length }) := by
  unfold DSt.swap DSt.stroke
  rw [hd, ht]
  rfl
set_option maxRecDepth 100000 in
set_option maxHeartbeats 1000000 in
theorem gcompact_any (l p : Nat) (fd fl : List Nat) (s : DSt) (sn : List Int) (rs : List (List Int)) (m : Nat) (A : Option Addr) (n c : Nat) (ys : List Int) (w : World) (hD : DObj w p fd s m) (hG : GObj w l p fl sn rs m) (hap : ∀ k ∈ fl, k ∉ fd) (hY : Lent w (fd ++ fl) A n c ys) (hd : s.dead = false) (hm : m + n + 9 ≤ 1073741824) (hld : Ld w) :
    Calls Tryd.prog 17 #[.pointer (some ⟨l, 0, none⟩), .slice A n c] w fun r w' => ∃ fd' fl', Step w w' (fd ++ fl) (fd' ++ fl') ∧ (∀ k ∈ fl', k ∉ fd') ∧
      if 131071 < n then r = .returned (.int .i64 5) ∧ DObj w' p fd' s (m + n + 9) ∧ GObj w' l p fl' sn rs (m + n + 9)
      else r = .returned (.int .i64 (s.swap (snapFrame ys)).1) ∧ DObj w' p fd' (s.swap (snapFrame ys)).2 (m + n + 9) ∧ ((s.swap (snapFrame ys)).1 = 0 → GObj w' l p fl' ys [] (m + n + 9)) := by
  have HD := Lib.hid hD
  have HG := Lib.hid hG
  have HY := Lib.hid hY
  have HAP := Lib.hid hap
  have HLD := Lib.hid hld
  have HYL := Lib.hid (show (83 :: ys).length = 1 + n by rw [List.length_cons, hY.len]; omega)
  clear hD hY hap hld
  by_cases hbig : 131071 < n
  · have hso := seal_big (p := 83 :: ys) (by rw [HYL.out]; omega)
    clear hG
    go_enter Tryd.func17, Tryd.ntmps17
    go_wp2_with fail
    refine (sealed_any 83 A n c ys w (by omega) HY.out.row HY.out.len HY.out.bytes HY.out.nil HY.out.room.1 HY.out.room.2 (by omega) HLD.out).mono ?_
    rw [hso.1, hso.2]
    rintro e w1 ⟨v1, rfl, hO1, hS1⟩
    obtain ⟨A1, c1, rfl, -⟩ := own_shape hO1
    have HM1 := Lib.hid hS1.1
    clear hO1 hS1 hso
    go_wp2
    go_ret
    exact ⟨fd, fl, ⟨HM1.out.mono (fun _ h => by cases h), fun _ h => .inl h⟩, HAP.out, rfl, (HD.out.stays (fun b hb => HM1.out.block b (HD.out.lt b hb) (fun h => by cases h))).more (by omega), (HG.out.stays (fun b hb => HM1.out.block b (HG.out.lt b hb) (fun h => by cases h))).more (by omega)⟩
  · have hso := seal_fits (p := 83 :: ys) (by rw [HYL.out]; omega)
    obtain ⟨fo, hfo⟩ : ∃ fo, fo = frameOf (83 :: ys) := ⟨_, rfl⟩
    rw [← hfo] at hso
    have hfl : fo.length = 9 + n := by rw [hfo, frameOf_len, HYL.out]; omega
    have HFB := Lib.hid (show ByteList fo by rw [hfo]; exact logged_bytes (by omega) HY.out.bytes (by rw [HY.out.len]; omega))
    have HFO := Lib.hid hfo
    have HFL := Lib.hid hfl
    have HSF := Lib.hid (show snapFrame ys = fo from hfo.symm)
    rw [HSF.out]
    obtain ⟨S, R, hfl2, hr, hsn, hrs, hbd⟩ := hG
    have HR := Lib.hid hr
    have hAP2 : ∀ k ∈ l :: rblks R, k ∉ fd := by rw [← hfl2]; exact HAP.out
    have HAP2 := Lib.hid hAP2
    have HFL2 := Lib.hid hfl2
    have c0 := cell_at hr.at_ 0 (v := .pointer (some ⟨p, 0, none⟩)) rfl
    clear hfo hfl hr hAP2 hfl2
    cases ht : s.trip with
    | some k =>
      have hsw := swap_off (ys := fo) hd ht
      rw [hsw]
      have HSW := Lib.hid hsw
      clear ht hsw
      go_enter Tryd.func17, Tryd.ntmps17
      go_wp2_with fail
      refine (sealed_any 83 A n c ys w (by omega) HY.out.row HY.out.len HY.out.bytes HY.out.nil HY.out.room.1 HY.out.room.2 (by omega) HLD.out).mono ?_
      rw [hso.1, hso.2]
      rintro e w1 ⟨v1, rfl, hO1, hS1⟩
      obtain ⟨A1, c1, rfl, hn1, hc1⟩ := own_shape hO1
      have HY1 := Lib.hid (lent_new HD.out.lt hO1 hS1 hn1 hc1 HFB.out)
      have HM1 := Lib.hid hS1.1
      have hr1 := HR.out.still hS1.1
      have d0 := cell_at hr1.at_ 0 (v := .pointer (some ⟨p, 0, none⟩)) rfl
      have HD1 := Lib.hid (HD.out.stays (fun b hb => hS1.1.block b (HD.out.lt b hb) (fun h => by cases h)))
      clear hO1 hS1 hso hn1 hc1 hr1 c0
      go_wp2_with fail
      refine (dswap_any p fd s m A1 fo.length c1 fo w1 HD1.out HY1.out (by rw [HFL.out]; omega)).mono ?_
      rw [HSW.out]
      rintro e w2 ⟨rfl, f2, h2, hS2⟩
      have H2 := Lib.hid (show DObj w2 p f2 (s.crash k) (m + n + 9) from h2.more (by rw [HFL.out]; omega))
      have HS2 := Lib.hid hS2
      clear h2 hS2
      go_wp2
      go_ret
      refine ⟨f2, fl, ⟨(HM1.out.mono (fun _ h => by cases h)).trans HS2.out.1 (fun k hk => .inl (by simp [hk])), fun k hk => ?_⟩, fun k hk hf => ?_, rfl, H2.out⟩
      · rcases List.mem_append.1 hk with hk | hk
        · exact (HS2.out.2 k hk).imp (fun h => List.mem_append.2 (.inl h)) (Nat.le_trans HM1.out.size)
        · exact .inl (List.mem_append.2 (.inr hk))
      · exact (HS2.out.2 k hf).elim (HAP.out k hk) (fun h => by have := HG.out.lt k hk; have := HM1.out.size; omega)
    | none =>
      obtain ⟨s2, hs2⟩ : ∃ s2, s2 = { s with bs := fo, safe := fo.length } := ⟨_, rfl⟩
      have hsw := swap_on (ys := fo) hd ht
      rw [← hs2] at hsw
      rw [hsw]
      clear hs2
      have HSW := Lib.hid hsw
      clear ht hsw
      go_enter Tryd.func17, Tryd.ntmps17
      go_wp2_with fail
      refine (sealed_any 83 A n c ys w (by omega) HY.out.row HY.out.len HY.out.bytes HY.out.nil HY.out.room.1 HY.out.room.2 (by omega) HLD.out).mono ?_
      rw [hso.1, hso.2]
      rintro e w1 ⟨v1, rfl, hO1, hS1⟩
      obtain ⟨A1, c1, rfl, hn1, hc1⟩ := own_shape hO1
      have HY1 := Lib.hid (lent_new HD.out.lt hO1 hS1 hn1 hc1 HFB.out)
      have HM1 := Lib.hid hS1.1
      have hr1 := HR.out.still hS1.1
      have d0 := cell_at hr1.at_ 0 (v := .pointer (some ⟨p, 0, none⟩)) rfl
      have HD1 := Lib.hid (HD.out.stays (fun b hb => hS1.1.block b (HD.out.lt b hb) (fun h => by cases h)))
      clear hO1 hS1 hso hn1 hc1 hr1 c0
      go_wp2_with fail
      refine (dswap_any p fd s m A1 fo.length c1 fo w1 HD1.out HY1.out (by rw [HFL.out]; omega)).mono ?_
      rw [HSW.out]
      rintro e w2 ⟨rfl, f2, h2, hS2⟩
      have hr2 : GRaw w2 l p S R := (HR.out.still HM1.out).stays (fun k hk => hS2.1.block k (Nat.lt_of_lt_of_le (HR.out.lt k hk) HM1.out.size) (HAP2.out k hk))
      obtain ⟨a, ha⟩ := rptr_is R
      have e1 := cell_at hr2.at_ 1 (v := .string S) rfl
      have e2 := cell_at hr2.at_ 2 (v := .pointer a) (by rw [← ha]; rfl)
      have g1 := free_at hr2.at_ 1
      have g2 := free_at hr2.at_ 2
      have hcv := run_convert_nrow (P := Tryd.prog) w2 27 9 5 Tryd.underlying27 Tryd.underlying5 Tryd.underlying9 A n c ys (nrowx_moved (nrowx_moved HY.out.row HM1.out (fun _ _ h => by cases h)) hS2.1 (fun k hk h => HY.out.far k hk (by simp [h]))) HY.out.len
      have HR2 := Lib.hid hr2
      have H2 := Lib.hid (show DObj w2 p f2 s2 (m + n + 9) from h2.more (by rw [HFL.out]; omega))
      have HS2 := Lib.hid hS2
      have HA := Lib.hid ha
      clear h2 hS2 hr2 ha d0
      go_wp2
      go_ret
      have hgo : GRaw ((w2.setCell ⟨l, 1, none⟩ (.string (strOfNums ys))).setCell ⟨l, 2, none⟩ (.pointer none)) l p (strOfNums ys) [] := (HR2.out.set1 _).set2 (T := []) trivial (by simp [rblks])
      have hold : l ∉ f2 := fun hf => (HS2.out.2 l hf).elim (HAP2.out l (by simp)) (fun h => by have := HR.out.lt l (by simp); have := HM1.out.size; omega)
      have hM3 : Moved w2 ((w2.setCell ⟨l, 1, none⟩ (.string (strOfNums ys))).setCell ⟨l, 2, none⟩ (.pointer none)) [l] := ((Moved.refl w2 [l]).setCell (.inl (by simp)) _).setCell (.inl (by simp)) _
      refine ⟨f2, [l], ⟨((HM1.out.mono (fun _ h => by cases h)).trans HS2.out.1 (fun k hk => .inl (by simp [hk]))).trans hM3 (fun k hk => .inl (by rw [HFL2.out]; simp at hk; simp [hk])), fun k hk => ?_⟩, fun k hk hf => ?_, rfl, H2.out.stays (fun k hk => hM3.block k (H2.out.lt k hk) (fun h => by simp at h; subst h; exact hold hk)), strOfNums ys, [], rfl, hgo, Pk.nums_str HY.out.bytes, rfl, by have := HY.out.len; simp; omega⟩
      · rcases List.mem_append.1 hk with hk | hk
        · exact (HS2.out.2 k hk).imp (fun h => List.mem_append.2 (.inl h)) (Nat.le_trans HM1.out.size)
        · exact .inl (by rw [HFL2.out]; simp at hk; simp [hk])
      · simp at hk; subst hk; exact hold hf
end Lg
end Go.Proofs.YtekleamkpfeifaaDoor
