/-
  1 texts in one: DiskHave.
-/
import Derived.Test.YtekleamkpfeifaaDoorKB09

/-
  CONTRACTS of the program's Disk: Sync, Cut, Swap; all that the statements' walks ask of it.
-/
namespace Go.Proofs.YtekleamkpfeifaaDoor
namespace Dk
open Go.RowKit
set_option maxRecDepth 100000 in
set_option maxHeartbeats 1000000 in
theorem dsync_any (q : Nat) (fq : List Nat) (s : DSt) (m : Nat) (w : World) (hQ : DObj w q fq s m) (hm : m ≤ 35184372088832) :
    Calls Tryd.prog 44 #[.pointer (some ⟨q, 0, none⟩)] w (Does DObj q fq s.sync.2 m (.int .i64 s.sync.1) w) := by
  have HQ := Lib.hid hQ
  obtain ⟨bs, safe, dead, trip⟩ := s
  obtain ⟨L, ar, kp, hfq, hr, hf⟩ := hQ
  have c2 := cell_at hr.at_ 2 (v := .bool dead) rfl
  cases dead
  · cases trip with
    | some kk =>
      clear hr hf
      go_enter Tryd.func44, Tryd.ntmps44
      go_wp2_with (go_at_call 58; refine (dtrips_yes q _ bs safe kk m _ HQ.out hm).mono ?_; rintro e w1 ⟨rfl, f1, h1, hS1⟩; have H1 := Lib.hid h1; have HS1 := Lib.hid hS1; clear h1 hS1)
      go_ret
      exact ⟨rfl, f1, H1.out, HS1.out⟩
    | none =>
      have c0 := cell_at hr.at_ 0 (v := ptr L) rfl
      have c1 := cell_at hr.at_ 1 (v := .int .i64 safe) rfl
      have f1 := free_at hr.at_ 1
      have HR := Lib.hid hr
      have HF := Lib.hid hf
      obtain ⟨e, he⟩ : ∃ e, bs.length = e := ⟨_, rfl⟩
      have HE := Lib.hid he
      have HC : Hid (Calls Tryd.prog 50 #[ptr L] w fun r w' => r = .returned (.int .i64 e) ∧ ∃ k, w' = w.drewN k) := by
        have h := pend_any L _ hr.pcs (by rw [hf.bs]; have := hf.len; exact Nat.le_trans this hm)
        rw [show (pcBytes L).length = e by rw [hf.bs]; exact he] at h
        exact h
      subst hfq
      clear hr hf he
      go_enter Tryd.func44, Tryd.ntmps44
      go_wp2_with (first
        | (go_at_call 58; refine (dtrips_no q _ bs safe false m _ HQ.out).mono ?_; rintro x w1 ⟨rfl, rfl⟩)
        | (go_at_call 50; refine HC.out.mono ?_; rintro x w1 ⟨rfl, k1, rfl⟩))
      go_ret
      refine ⟨rfl, _, ⟨L, ar, kp, rfl, ?_, ⟨HF.out.bs, HF.out.trip, HF.out.len, HF.out.bytes, ⟨Nat.le_refl _, fun h => (by cases h)⟩, HF.out.kp⟩⟩, ?_⟩
      · show DRaw _ q L ((bs.length : Nat) : Int) false ar kp
        rw [HE.out]
        exact (HR.out.drewN k1).set1 _
      · exact (ddrew _ k1 _).trans (dstep _ q 1 _ _)
  · clear hr hf
    go_enter Tryd.func44, Tryd.ntmps44
    go_wp2
    go_ret
    exact ⟨rfl, _, HQ.out, Step.refl _ _⟩
set_option maxRecDepth 100000 in
set_option maxHeartbeats 1000000 in
theorem dswap_any (q : Nat) (fq : List Nat) (s : DSt) (m : Nat) (A : Option Addr) (n c : Nat) (ys : List Int) (w : World) (hQ : DObj w q fq s m) (hY : Lent w fq A n c ys) (hm : m + n ≤ 35184372088832) :
    Calls Tryd.prog 47 #[.pointer (some ⟨q, 0, none⟩), .slice A n c] w (Does DObj q fq (s.swap ys).2 (m + n) (.int .i64 (s.swap ys).1) w) := by
  have HQ := Lib.hid hQ
  have HY := Lib.hid hY
  clear hY
  obtain ⟨bs, safe, dead, trip⟩ := s
  obtain ⟨L, ar, kp, hfq, hr, hf⟩ := hQ
  have c2 := cell_at hr.at_ 2 (v := .bool dead) rfl
  cases dead
  · cases trip with
    | some kk =>
      clear hr hf
      go_enter Tryd.func47, Tryd.ntmps47
      go_wp2_with (go_at_call 58; refine (dtrips_yes q _ bs safe kk m _ HQ.out (by omega)).mono ?_; rintro e w1 ⟨rfl, f1, h1, hS1⟩; have H1 := Lib.hid h1; have HS1 := Lib.hid hS1; clear h1 hS1)
      go_ret
      exact ⟨rfl, f1, H1.out.more (by omega), HS1.out⟩
    | none =>
      have HR := Lib.hid hr
      have HF := Lib.hid hf
      have HC : Hid (Calls Tryd.prog 52 #[.pointer none, .slice A n c] w (Told ys [] w)) := pwith_any [] A n c ys w trivial HY.out.row HY.out.len HY.out.nil HY.out.room.1 HY.out.room.2 (by show 0 + n ≤ _; omega)
      subst hfq
      clear hr hf
      go_enter Tryd.func47, Tryd.ntmps47
      go_wp2_with (go_at_call 58; refine (dtrips_no q _ bs safe false m _ HQ.out).mono ?_; rintro x w1 ⟨rfl, rfl⟩)
      refine HC.out.mono ?_
      rintro r w4 ⟨L4, rfl, hP4, hB4, hM4, hK4⟩
      have hp4 := (HR.out.still hM4).at_
      have d0 := cell_at hp4 0 (v := ptr L) rfl
      have d1 := cell_at hp4 1 (v := .int .i64 safe) rfl
      have g0 := free_at hp4 0
      have g1 := free_at hp4 1
      have HP4 := Lib.hid hP4
      have HB4 := Lib.hid hB4
      have HM4 := Lib.hid hM4
      have HK4 := Lib.hid hK4
      have HA4 := Lib.hid hp4
      clear hp4 hP4 hB4 hM4 hK4
      obtain ⟨a4, ha4⟩ := ptr_is L4
      rw [ha4]
      have HPT := Lib.hid ha4
      clear ha4
      go_wp2
      go_ret
      refine ⟨rfl, _, ⟨L4, ar, kp, rfl, ?_, ⟨HB4.out, HF.out.trip, by show ys.length ≤ _; rw [HY.out.len]; omega, HY.out.bytes, ⟨Nat.le_refl _, fun h => (by cases h)⟩, HF.out.kp⟩⟩, ?_⟩
      · show DRaw _ q L4 ((ys.length : Nat) : Int) false ar kp
        rw [HY.out.len]
        exact (DRaw.put HA4.out HPT.out HP4.out (HR.out.new_ne (S := []) (fun _ h => by cases h) HK4.out)).set1 _
      · exact (dput (T := []) HM4.out (fun _ h => by cases h) HK4.out q 0 _).trans (dstep _ q 1 _ _)
  · clear hr hf
    go_enter Tryd.func47, Tryd.ntmps47
    go_wp2
    go_ret
    exact ⟨rfl, _, HQ.out.more (by omega), Step.refl _ _⟩
set_option maxRecDepth 100000 in
set_option maxHeartbeats 1000000 in
theorem dcut_any (q : Nat) (fq : List Nat) (s : DSt) (m : Nat) (n : Int) (w : World) (hQ : DObj w q fq s m) (hm : m ≤ 35184372088832) (h0 : -9223372036854775808 ≤ n) (h1 : n ≤ 9223372036854775807) :
    Calls Tryd.prog 38 #[.pointer (some ⟨q, 0, none⟩), .int .i64 n] w (Does DObj q fq (s.cut n).2 m (.int .i64 (s.cut n).1) w) := by
  have HQ := Lib.hid hQ
  obtain ⟨bs, safe, dead, trip⟩ := s
  obtain ⟨L, ar, kp, hfq, hr, hf⟩ := hQ
  have HFQ := Lib.hid hfq
  clear hfq
  have c0 := cell_at hr.at_ 0 (v := ptr L) rfl
  have c2 := cell_at hr.at_ 2 (v := .bool dead) rfl
  cases dead
  · by_cases hn : n < 0
    · have HC : Hid (DSt.cut n ⟨bs, safe, false, trip⟩ = (9, ⟨bs, safe, false, trip⟩)) := by show _ = _; simp [DSt.cut, hn]
      clear hr hf
      go_enter Tryd.func38, Tryd.ntmps38
      go_wp2
      go_ret
      exact ⟨by rw [HC.out]; rfl, _, by rw [HC.out]; exact HQ.out, Step.refl _ _⟩
    obtain ⟨j, rfl⟩ : ∃ j : Nat, n = j := ⟨n.toNat, by omega⟩
    obtain ⟨e, he⟩ : ∃ e, bs.length = e := ⟨_, rfl⟩
    have HE := Lib.hid he
    have hem : e ≤ 35184372088832 := by rw [← he]; exact Nat.le_trans hf.len hm
    have HEND : Hid (Calls Tryd.prog 50 #[ptr L] w fun r w' => r = .returned (.int .i64 e) ∧ ∃ k, w' = w.drewN k) := by
      have h := pend_any L _ hr.pcs (by rw [hf.bs]; have := hf.len; exact Nat.le_trans this hm)
      rw [show (pcBytes L).length = e by rw [hf.bs]; exact he] at h
      exact h
    by_cases hn2 : e < j
    · have HC : Hid (DSt.cut j ⟨bs, safe, false, trip⟩ = (9, ⟨bs, safe, false, trip⟩)) := by show _ = _; simp [DSt.cut]; omega
      clear hr hf he
      go_enter Tryd.func38, Tryd.ntmps38
      go_wp2_with fail
      refine HEND.out.mono ?_
      rintro x w1 ⟨rfl, k1, rfl⟩
      go_wp2
      go_ret
      exact ⟨by rw [HC.out]; rfl, _, by rw [HC.out]; exact HQ.out.drewN k1, ddrew _ k1 _⟩
    cases trip with
    | some kk =>
      have HC : Hid (DSt.cut j ⟨bs, safe, false, some kk⟩ = (7, ⟨left bs safe kk, safe, true, none⟩)) := by show _ = _; simp [DSt.cut, DSt.stroke, DSt.crash]; omega
      clear hr hf he
      go_enter Tryd.func38, Tryd.ntmps38
      go_wp2_with fail
      refine HEND.out.mono ?_
      rintro x w1 ⟨rfl, k1, rfl⟩
      go_wp2_with fail
      refine (dtrips_yes q _ bs safe kk m _ (HQ.out.drewN k1) (by omega)).mono ?_
      rintro x w1 ⟨rfl, f1, h1, hS1⟩
      have H1 := Lib.hid h1
      have HS1 := Lib.hid hS1
      clear h1 hS1
      go_wp2
      go_ret
      exact ⟨by rw [HC.out]; rfl, f1, by rw [HC.out]; exact H1.out, (ddrew _ k1 _).trans HS1.out⟩
    | none =>
      have HC : Hid (DSt.cut j ⟨bs, safe, false, none⟩ = (0, ⟨bs.take j, j, false, none⟩)) := by show _ = _; simp [DSt.cut, DSt.stroke]; omega
      have HLN : Hid ((bs.take j).length = j) := by show _ = _; rw [List.length_take]; omega
      have HFIRST : Hid (∀ i, Calls Tryd.prog 51 #[ptr L, .int .i64 j] (w.drewN i) (Told (bs.take j) (pcBlks L) w)) := by
        intro i
        have h := pfirst_any L j (w.drewN i) (hr.pcs.drewN i) (by rw [hf.bs]; show j ≤ bs.length; omega) (by rw [hf.bs]; show bs.length ≤ _; omega)
        rw [hf.bs] at h
        exact h.mono fun q w' ⟨L', h1, h2, h3, h4, h5⟩ => ⟨L', h1, h2, h3, ⟨h4.os, h4.tape, h4.output, h4.size, h4.block⟩, h5⟩
      have HR := Lib.hid hr
      have HF := Lib.hid hf
      obtain rfl := HFQ.out
      clear hr hf he
      go_enter Tryd.func38, Tryd.ntmps38
      go_wp2_with fail
      refine HEND.out.mono ?_
      rintro x w1 ⟨rfl, k1, rfl⟩
      go_wp2_with fail
      refine (dtrips_no q _ bs safe false m _ (HQ.out.drewN k1)).mono ?_
      rintro x w1 ⟨rfl, rfl⟩
      go_wp2_with fail
      refine (HFIRST.out _).mono ?_
      rintro r w4 ⟨L4, rfl, hP4, hB4, hM4, hK4⟩
      have hp4 := (HR.out.still hM4).at_
      have d0 := cell_at hp4 0 (v := ptr L) rfl
      have d1 := cell_at hp4 1 (v := .int .i64 safe) rfl
      have g0 := free_at hp4 0
      have g1 := free_at hp4 1
      have HP4 := Lib.hid hP4
      have HB4 := Lib.hid hB4
      have HM4 := Lib.hid hM4
      have HK4 := Lib.hid hK4
      have HA4 := Lib.hid hp4
      clear hp4 hP4 hB4 hM4 hK4
      obtain ⟨a4, ha4⟩ := ptr_is L4
      rw [ha4]
      have HPT := Lib.hid ha4
      clear ha4
      go_wp2
      go_ret
      rw [HC.out]
      exact ⟨rfl, _, ⟨L4, ar, kp, rfl, (DRaw.put HA4.out HPT.out HP4.out (HR.out.new_ne (fun _ h => h) HK4.out)).set1 _, ⟨HB4.out, HF.out.trip, by show (bs.take j).length ≤ m; have := HF.out.len; rw [List.length_take]; exact Nat.le_trans (Nat.min_le_right _ _) this, HF.out.bytes.take _, ⟨by show j ≤ (bs.take j).length; rw [HLN.out]; exact Nat.le_refl _, fun h => (by cases h)⟩, HF.out.kp⟩⟩, (dput HM4.out (fun _ h => h) HK4.out q 0 _).trans (dstep _ q 1 _ _)⟩
  · clear hr hf
    go_enter Tryd.func38, Tryd.ntmps38
    go_wp2
    go_ret
    exact ⟨rfl, _, HQ.out, Step.refl _ _⟩
theorem dlaws : DLaws DObj where
  stays := DObj.stays
  lt := DObj.lt
  fits := fun ⟨_, _, _, _, _, h⟩ => h.len
  bytes := fun ⟨_, _, _, _, _, h⟩ => h.bytes
  ok := fun ⟨_, _, _, _, _, h⟩ => h.ok
  new := dnew_any
  append := dappend_any
  sync := dsync_any
  cut := dcut_any
  swap := dswap_any
  read := dread_any
  synced := dsynced_any
  off := doff_any
  trip := dtrip_any
  crash := fun q fq s m k w h hm _ _ => dcrash_any q fq s m k w h hm
  start := dstart_any
end Dk
end Go.Proofs.YtekleamkpfeifaaDoor
