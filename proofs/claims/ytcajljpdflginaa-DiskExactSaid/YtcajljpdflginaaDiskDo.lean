/-
  CONTRACT of the statements' helper do: an act on the program's Disk and on the page's.
-/
import Derived.Test.YtcajljpdflginaaDiskSame
namespace Go.Proofs.Ytcajljpdflginaa
namespace Dk
open Go.RowKit
/-- What an act makes of a disk; u tells which of the eight acts it is. -/
def act (u : Nat) (k : Int) (ys : List Int) (s : DSt) : DSt :=
  if u = 0 ∨ u = 1 then s.add ys else if u = 2 then s.sync.2 else if u = 3 then (s.cut k).2 else if u = 4 then (s.swap ys).2 else if u = 5 then s.arm k else if u = 6 then s.crash k else s.start
def DoNow (D : World → Nat → List Nat → DSt → Nat → Prop) (W : World) (p : Nat) (s : DSt) (m q : Nat) (r : Ending) (w' : World) : Prop :=
  r = .returned (.bool true) ∧ ∃ fp fq k, k ≤ m ∧ At2 D QObj W w' p fp s k q fq s k
section
variable {D E : World → Nat → List Nat → DSt → Nat → Prop} {W w w1 : World} {p : Nat} {fp : List Nat} {s : DSt} {m : Nat} {q : Nat} {fq : List Nat} {t : DSt} {km : Nat}
theorem At2.moreQ (h : At2 D QObj W w p fp s m q fq t km) {k' : Nat} (hk : km ≤ k') : At2 D QObj W w p fp s m q fq t k' := ⟨h.a, ⟨h.b.on.more hk, h.b.old, h.b.new⟩, h.apart⟩
end
set_option maxRecDepth 100000 in
set_option maxHeartbeats 4000000 in
theorem do_any {D : World → Nat → List Nat → DSt → Nat → Prop} (L : DLaws D) (W w : World) (p : Nat) (fp : List Nat) (s : DSt) (m q : Nat) (fq : List Nat) (h : At2 D QObj W w p fp s m q fq s m) (d k : Int) (B : Option Addr) (n c : Nat) (ys : List Int) (hY : Was W B n c ys)
    (hm : m + n ≤ 35184372088832) (hk0 : -9223372036854775808 ≤ k) (hk1 : k ≤ 9223372036854775807) :
    Calls Try.prog 12 #[.pointer (some ⟨p, 0, none⟩), .pointer (some ⟨q, 0, none⟩), .agg #[.int .i64 d, .int .i64 k, .slice B n c]] w
      (DoNow D W p (act ((IntKind.u64.wrap d).toNat % 8) k ys s) (m + n) q) := by
  have P := L.still
  have O := QStill
  obtain ⟨u, hu⟩ := u64_nat' d
  rw [hu, Int.toNat_natCast]
  obtain ⟨st, hst⟩ : ∃ st, st = act (u % 8) k ys s := ⟨_, rfl⟩
  rw [← hst]
  have hn1 : n ≤ 70368744177664 := by omega
  have HY := Lib.hid hY
  -- the act in its box
  obtain ⟨w0, hw0⟩ : ∃ w0, w0 = w.alloc (.cells #[.int .i64 d, .int .i64 k, .slice B n c] 33) := ⟨_, rfl⟩
  have hb0 : w0.heap[w.heap.size]? = some (.cells #[.int .i64 d, .int .i64 k, .slice B n c] 33 (0, 0)) := by rw [hw0]; exact heap_alloc_new w _
  have hgp : w.heap.size ∉ fp := fun hf => by have := L.lt h.a.on _ hf; omega
  have hgq : w.heap.size ∉ fq := fun hf => by have := QObj.lt h.b.on _ hf; omega
  have hgl : w.heap.size < w0.heap.size := lt_of_block hb0
  have hgW : W.heap.size ≤ w.heap.size := h.a.old.size
  have H0 := Lib.hid (show At2 D QObj W w0 p fp s m q fq s m by rw [hw0]; exact h.again P O _)
  have a0 := cell_at hb0 0 (v := .int .i64 d) rfl
  have a1 := cell_at hb0 1 (v := .int .i64 k) rfl
  have a2 := cell_at hb0 2 (v := .slice B n c) rfl
  have HW0 := Lib.hid hw0
  have HST := Lib.hid hst
  clear h hY hb0 hw0 hst
  go_enter Try.func12, Try.ntmps12
  go_wp2_with fail
  rw [← HW0.out]
  refine (twin_any B n c ys _ (HY.out.now H0.out.a.old) HY.out.len HY.out.nil hn1).mono ?_
  rintro e w1 ⟨v1, rfl, hO1', hS1⟩
  have hO1 : w1.ownsRow 0 5 1 v1 n (ys.map (Value.int .u8)) := by rw [← HY.out.len]; exact hO1'
  clear hO1'
  have H1 := Lib.hid (H0.out.apart_from P O hS1.1 (fun j hj => by cases hj))
  have hv1 : ∀ j ∈ rowOf v1, w0.heap.size ≤ j := fun j hj => (hS1.2 j hj).elim (fun h => by cases h) id
  have hv1p : ∀ j ∈ rowOf v1, j ∉ fp ∧ j ∉ fq ∧ W.heap.size ≤ j := fun j hj => ⟨fun hf => by have := hv1 j hj; have := L.lt H0.out.a.on j hf; omega, fun hf => by have := hv1 j hj; have := QObj.lt H0.out.b.on j hf; omega, Nat.le_trans H0.out.a.old.size (hv1 j hj)⟩
  have hg1 : ∀ j ∈ rowOf v1, j ≠ w.heap.size := fun j hj e => by have := hv1 j hj; omega
  have b0 := cell_kept hS1 (by simp) a0
  have b1 := cell_kept hS1 (by simp) a1
  have b2 := cell_kept hS1 (by simp) a2
  obtain ⟨A1, c1, rfl, hA1n, hA1c⟩ := own_shape hO1
  have HO1 := Lib.hid hO1
  have HL1 : Hid (Lent w1 fp A1 n c1 ys) := ⟨NRow.of_own hO1, HY.out.len, hA1n, hA1c, HY.out.bytes, fun j hj hf => (hv1p j (rowX_rowOf hj)).1 hf⟩
  have HV1 := Lib.hid hv1p
  have HGL : Hid (w.heap.size < w1.heap.size) := Nat.lt_of_lt_of_le hgl hS1.1.size
  clear hO1 hS1 hv1 hv1p a0 a1 a2 hA1n hA1c
  have HTR := Lib.hid (show TRow w1 (.slice A1 n c1) n ys from TRow.of_own (by exact HO1.out))
  rcases (by omega : u % 8 = 0 ∨ u % 8 = 1 ∨ u % 8 = 2 ∨ u % 8 = 3 ∨ u % 8 = 4 ∨ u % 8 = 5 ∨ u % 8 = 6 ∨ u % 8 = 7) with hum | hum | hum | hum | hum | hum | hum | hum
  · have e0 : ((u : Int) % 8 == 0) = true := by simp; omega
    have e1 : ((u : Int) % 8 == 1) = false := by simp; omega
    have e2 : ((u : Int) % 8 == 2) = false := by simp; omega
    have e3 : ((u : Int) % 8 == 3) = false := by simp; omega
    have e4 : ((u : Int) % 8 == 4) = false := by simp; omega
    have e5 : ((u : Int) % 8 == 5) = false := by simp; omega
    have e6 : ((u : Int) % 8 == 6) = false := by simp; omega
    have HA : Hid (st = s.add ys) := by show _ = _; rw [HST.out, hum]; rfl
    go_wp2_with fail
    go_region_held3 (fun w' => w'.cell? ⟨w.heap.size, 2, none⟩ = some (.slice B n c)) (go_keep) (first
      | (go_at_call 14; refine (L.append p fp s m A1 n c1 ys _ (by exact (H1.out.drew P O).a.on) (by exact HL1.out.drew) hm).mono ?_; rintro e w2 hd; obtain ⟨rfl, f2, h2, hS2⟩ := (H1.out.drew P O).does1 O hd; have bc1 := cell_kept hS2 (by exact hgp) b1; have bc2 := cell_kept hS2 (by exact hgp) b2; have H2 := Lib.hid h2; have HR2 := Lib.hid (kept_row (w := w1.drew) (t_stays HTR.out (fun _ _ => rfl)) hS2 (fun j hj => (HV1.out j hj).1)); clear h2 hS2 hd)
      | (go_at_call 28; refine (qappend_any q fq s m B n c ys _ (by exact H2.out.b.on) (by exact (HY.out.lent H2.out.b.old H2.out.b.new)) hm).mono ?_; rintro e w3 hd; obtain ⟨rfl, f3, h3, hS3⟩ := H2.out.does2 P hd; have bd1 := cell_kept hS3 (by exact hgq) bc1; have bd2 := cell_kept hS3 (by exact hgq) bc2; have H3 := Lib.hid h3; have HR3 := Lib.hid (kept_row HR2.out.1 hS3 (fun j hj => (HV1.out j hj).2.1)); clear h3 hS3 hd))
    go_wp2_with fail
    refine (tspoil_any _ _ _ _ HR3.out.1 hn1).mono ?_
    rintro e w4 ⟨rfl, hM4⟩
    have HM4 := Lib.hid hM4
    clear hM4
    go_wp2
    go_ret
    have HV3 : ∀ j ∈ rowOf (.slice A1 n c1), W.heap.size ≤ j ∧ j ∉ f2 ∧ j ∉ f3 := fun j hj => ⟨(HV1.out j hj).2.2, HR2.out.2 j hj, HR3.out.2 j hj⟩
    exact ⟨rfl, f2, f3, m + n, by omega, by rw [HA.out]; exact H3.out.apart_from P O HM4.out HV3⟩
  · have e0 : ((u : Int) % 8 == 0) = false := by simp; omega
    have e1 : ((u : Int) % 8 == 1) = true := by simp; omega
    have e2 : ((u : Int) % 8 == 2) = false := by simp; omega
    have e3 : ((u : Int) % 8 == 3) = false := by simp; omega
    have e4 : ((u : Int) % 8 == 4) = false := by simp; omega
    have e5 : ((u : Int) % 8 == 5) = false := by simp; omega
    have e6 : ((u : Int) % 8 == 6) = false := by simp; omega
    have HA : Hid (st = s.add ys) := by show _ = _; rw [HST.out, hum]; rfl
    go_wp2_with fail
    go_region_held3 (fun w' => w'.cell? ⟨w.heap.size, 2, none⟩ = some (.slice B n c)) (go_keep) (first
      | (go_at_call 14; refine (L.append p fp s m A1 n c1 ys _ (by exact (H1.out.drew P O).a.on) (by exact HL1.out.drew) hm).mono ?_; rintro e w2 hd; obtain ⟨rfl, f2, h2, hS2⟩ := (H1.out.drew P O).does1 O hd; have bc1 := cell_kept hS2 (by exact hgp) b1; have bc2 := cell_kept hS2 (by exact hgp) b2; have H2 := Lib.hid h2; have HR2 := Lib.hid (kept_row (w := w1.drew) (t_stays HTR.out (fun _ _ => rfl)) hS2 (fun j hj => (HV1.out j hj).1)); clear h2 hS2 hd)
      | (go_at_call 28; refine (qappend_any q fq s m B n c ys _ (by exact H2.out.b.on) (by exact (HY.out.lent H2.out.b.old H2.out.b.new)) hm).mono ?_; rintro e w3 hd; obtain ⟨rfl, f3, h3, hS3⟩ := H2.out.does2 P hd; have bd1 := cell_kept hS3 (by exact hgq) bc1; have bd2 := cell_kept hS3 (by exact hgq) bc2; have H3 := Lib.hid h3; have HR3 := Lib.hid (kept_row HR2.out.1 hS3 (fun j hj => (HV1.out j hj).2.1)); clear h3 hS3 hd))
    go_wp2_with fail
    refine (tspoil_any _ _ _ _ HR3.out.1 hn1).mono ?_
    rintro e w4 ⟨rfl, hM4⟩
    have HM4 := Lib.hid hM4
    clear hM4
    go_wp2
    go_ret
    have HV3 : ∀ j ∈ rowOf (.slice A1 n c1), W.heap.size ≤ j ∧ j ∉ f2 ∧ j ∉ f3 := fun j hj => ⟨(HV1.out j hj).2.2, HR2.out.2 j hj, HR3.out.2 j hj⟩
    exact ⟨rfl, f2, f3, m + n, by omega, by rw [HA.out]; exact H3.out.apart_from P O HM4.out HV3⟩
  · have e0 : ((u : Int) % 8 == 0) = false := by simp; omega
    have e1 : ((u : Int) % 8 == 1) = false := by simp; omega
    have e2 : ((u : Int) % 8 == 2) = true := by simp; omega
    have e3 : ((u : Int) % 8 == 3) = false := by simp; omega
    have e4 : ((u : Int) % 8 == 4) = false := by simp; omega
    have e5 : ((u : Int) % 8 == 5) = false := by simp; omega
    have e6 : ((u : Int) % 8 == 6) = false := by simp; omega
    have HA : Hid (st = s.sync.2) := by show _ = _; rw [HST.out, hum]; rfl
    go_wp2_with fail
    refine (L.sync p fp s m _ (by exact H1.out.a.on) (by omega)).mono ?_; rintro e w2 hd; obtain ⟨rfl, f2, h2, hS2⟩ := H1.out.does1 O hd; have bc1 := cell_kept hS2 (by exact hgp) b1; have bc2 := cell_kept hS2 (by exact hgp) b2; have H2 := Lib.hid h2; have HR2 := Lib.hid (kept_row (w := w1) (t_stays HTR.out (fun _ _ => rfl)) hS2 (fun j hj => (HV1.out j hj).1)); clear h2 hS2 hd
    go_wp2_with fail
    refine (qsync_any q fq s m _ (by exact H2.out.b.on) (by omega)).mono ?_; rintro e w3 hd; obtain ⟨rfl, f3, h3, hS3⟩ := H2.out.does2 P hd; have bd1 := cell_kept hS3 (by exact hgq) bc1; have bd2 := cell_kept hS3 (by exact hgq) bc2; have H3 := Lib.hid h3; have HR3 := Lib.hid (kept_row HR2.out.1 hS3 (fun j hj => (HV1.out j hj).2.1)); clear h3 hS3 hd
    go_wp2_with fail
    refine (tspoil_any _ _ _ _ HR3.out.1 hn1).mono ?_
    rintro e w4 ⟨rfl, hM4⟩
    have HM4 := Lib.hid hM4
    clear hM4
    go_wp2
    go_ret
    have HV3 : ∀ j ∈ rowOf (.slice A1 n c1), W.heap.size ≤ j ∧ j ∉ f2 ∧ j ∉ f3 := fun j hj => ⟨(HV1.out j hj).2.2, HR2.out.2 j hj, HR3.out.2 j hj⟩
    exact ⟨rfl, f2, f3, m, by omega, by rw [HA.out]; exact H3.out.apart_from P O HM4.out HV3⟩
  · have e0 : ((u : Int) % 8 == 0) = false := by simp; omega
    have e1 : ((u : Int) % 8 == 1) = false := by simp; omega
    have e2 : ((u : Int) % 8 == 2) = false := by simp; omega
    have e3 : ((u : Int) % 8 == 3) = true := by simp; omega
    have e4 : ((u : Int) % 8 == 4) = false := by simp; omega
    have e5 : ((u : Int) % 8 == 5) = false := by simp; omega
    have e6 : ((u : Int) % 8 == 6) = false := by simp; omega
    have HA : Hid (st = (s.cut k).2) := by show _ = _; rw [HST.out, hum]; rfl
    go_wp2_with fail
    go_region_held3 (fun w' => w'.cell? ⟨w.heap.size, 1, none⟩ = some (.int .i64 k)) (go_keep) (first
      | (go_at_call 20; refine (L.cut p fp s m k _ (by exact (H1.out.drew P O).a.on) (by omega) hk0 hk1).mono ?_; rintro e w2 hd; obtain ⟨rfl, f2, h2, hS2⟩ := (H1.out.drew P O).does1 O hd; have bc1 := cell_kept hS2 (by exact hgp) b1; have bc2 := cell_kept hS2 (by exact hgp) b2; have H2 := Lib.hid h2; have HR2 := Lib.hid (kept_row (w := w1.drew) (t_stays HTR.out (fun _ _ => rfl)) hS2 (fun j hj => (HV1.out j hj).1)); clear h2 hS2 hd)
      | (go_at_call 30; refine (qcut_any q fq s m k _ (by exact H2.out.b.on) (by omega) hk0 hk1).mono ?_; rintro e w3 hd; obtain ⟨rfl, f3, h3, hS3⟩ := H2.out.does2 P hd; have bd1 := cell_kept hS3 (by exact hgq) bc1; have bd2 := cell_kept hS3 (by exact hgq) bc2; have H3 := Lib.hid h3; have HR3 := Lib.hid (kept_row HR2.out.1 hS3 (fun j hj => (HV1.out j hj).2.1)); clear h3 hS3 hd))
    go_wp2_with fail
    refine (tspoil_any _ _ _ _ HR3.out.1 hn1).mono ?_
    rintro e w4 ⟨rfl, hM4⟩
    have HM4 := Lib.hid hM4
    clear hM4
    go_wp2
    go_ret
    have HV3 : ∀ j ∈ rowOf (.slice A1 n c1), W.heap.size ≤ j ∧ j ∉ f2 ∧ j ∉ f3 := fun j hj => ⟨(HV1.out j hj).2.2, HR2.out.2 j hj, HR3.out.2 j hj⟩
    exact ⟨rfl, f2, f3, m, by omega, by rw [HA.out]; exact H3.out.apart_from P O HM4.out HV3⟩
  · have e0 : ((u : Int) % 8 == 0) = false := by simp; omega
    have e1 : ((u : Int) % 8 == 1) = false := by simp; omega
    have e2 : ((u : Int) % 8 == 2) = false := by simp; omega
    have e3 : ((u : Int) % 8 == 3) = false := by simp; omega
    have e4 : ((u : Int) % 8 == 4) = true := by simp; omega
    have e5 : ((u : Int) % 8 == 5) = false := by simp; omega
    have e6 : ((u : Int) % 8 == 6) = false := by simp; omega
    have HA : Hid (st = (s.swap ys).2) := by show _ = _; rw [HST.out, hum]; rfl
    go_wp2_with fail
    go_region_held3 (fun w' => w'.cell? ⟨w.heap.size, 2, none⟩ = some (.slice B n c)) (go_keep) (first
      | (go_at_call 19; refine (L.swap p fp s m A1 n c1 ys _ (by exact (H1.out.drew P O).a.on) (by exact HL1.out.drew) hm).mono ?_; rintro e w2 hd; obtain ⟨rfl, f2, h2, hS2⟩ := (H1.out.drew P O).does1 O hd; have bc1 := cell_kept hS2 (by exact hgp) b1; have bc2 := cell_kept hS2 (by exact hgp) b2; have H2 := Lib.hid h2; have HR2 := Lib.hid (kept_row (w := w1.drew) (t_stays HTR.out (fun _ _ => rfl)) hS2 (fun j hj => (HV1.out j hj).1)); clear h2 hS2 hd)
      | (go_at_call 31; refine (qswap_any q fq s m B n c ys _ (by exact H2.out.b.on) (by exact (HY.out.lent H2.out.b.old H2.out.b.new)) hm).mono ?_; rintro e w3 hd; obtain ⟨rfl, f3, h3, hS3⟩ := H2.out.does2 P hd; have bd1 := cell_kept hS3 (by exact hgq) bc1; have bd2 := cell_kept hS3 (by exact hgq) bc2; have H3 := Lib.hid h3; have HR3 := Lib.hid (kept_row HR2.out.1 hS3 (fun j hj => (HV1.out j hj).2.1)); clear h3 hS3 hd))
    go_wp2_with fail
    refine (tspoil_any _ _ _ _ HR3.out.1 hn1).mono ?_
    rintro e w4 ⟨rfl, hM4⟩
    have HM4 := Lib.hid hM4
    clear hM4
    go_wp2
    go_ret
    have HV3 : ∀ j ∈ rowOf (.slice A1 n c1), W.heap.size ≤ j ∧ j ∉ f2 ∧ j ∉ f3 := fun j hj => ⟨(HV1.out j hj).2.2, HR2.out.2 j hj, HR3.out.2 j hj⟩
    exact ⟨rfl, f2, f3, m + n, by omega, by rw [HA.out]; exact H3.out.apart_from P O HM4.out HV3⟩
  · have e0 : ((u : Int) % 8 == 0) = false := by simp; omega
    have e1 : ((u : Int) % 8 == 1) = false := by simp; omega
    have e2 : ((u : Int) % 8 == 2) = false := by simp; omega
    have e3 : ((u : Int) % 8 == 3) = false := by simp; omega
    have e4 : ((u : Int) % 8 == 4) = false := by simp; omega
    have e5 : ((u : Int) % 8 == 5) = true := by simp; omega
    have e6 : ((u : Int) % 8 == 6) = false := by simp; omega
    have HA : Hid (st = s.arm k) := by show _ = _; rw [HST.out, hum]; rfl
    go_wp2_with fail
    refine (L.trip p fp s m k _ (by exact H1.out.a.on) hk0 hk1).mono ?_; rintro e w2 hd; obtain ⟨rfl, f2, h2, hS2⟩ := H1.out.does1 O hd; have bc1 := cell_kept hS2 (by exact hgp) b1; have bc2 := cell_kept hS2 (by exact hgp) b2; have H2 := Lib.hid h2; have HR2 := Lib.hid (kept_row (w := w1) (t_stays HTR.out (fun _ _ => rfl)) hS2 (fun j hj => (HV1.out j hj).1)); clear h2 hS2 hd
    go_wp2_with fail
    refine (qtrip_any q fq s m k _ (by exact H2.out.b.on) hk0 hk1).mono ?_; rintro e w3 hd; obtain ⟨rfl, f3, h3, hS3⟩ := H2.out.does2 P hd; have bd1 := cell_kept hS3 (by exact hgq) bc1; have bd2 := cell_kept hS3 (by exact hgq) bc2; have H3 := Lib.hid h3; have HR3 := Lib.hid (kept_row HR2.out.1 hS3 (fun j hj => (HV1.out j hj).2.1)); clear h3 hS3 hd
    go_wp2_with fail
    refine (tspoil_any _ _ _ _ HR3.out.1 hn1).mono ?_
    rintro e w4 ⟨rfl, hM4⟩
    have HM4 := Lib.hid hM4
    clear hM4
    go_wp2
    go_ret
    have HV3 : ∀ j ∈ rowOf (.slice A1 n c1), W.heap.size ≤ j ∧ j ∉ f2 ∧ j ∉ f3 := fun j hj => ⟨(HV1.out j hj).2.2, HR2.out.2 j hj, HR3.out.2 j hj⟩
    exact ⟨rfl, f2, f3, m, by omega, by rw [HA.out]; exact H3.out.apart_from P O HM4.out HV3⟩
  · have e0 : ((u : Int) % 8 == 0) = false := by simp; omega
    have e1 : ((u : Int) % 8 == 1) = false := by simp; omega
    have e2 : ((u : Int) % 8 == 2) = false := by simp; omega
    have e3 : ((u : Int) % 8 == 3) = false := by simp; omega
    have e4 : ((u : Int) % 8 == 4) = false := by simp; omega
    have e5 : ((u : Int) % 8 == 5) = false := by simp; omega
    have e6 : ((u : Int) % 8 == 6) = true := by simp; omega
    have HA : Hid (st = s.crash k) := by show _ = _; rw [HST.out, hum]; rfl
    go_wp2_with fail
    refine (L.crash p fp s m k _ (by exact H1.out.a.on) (by omega) hk0 hk1).mono ?_; rintro e w2 hd; obtain ⟨rfl, f2, h2, hS2⟩ := H1.out.does1 O hd; have bc1 := cell_kept hS2 (by exact hgp) b1; have bc2 := cell_kept hS2 (by exact hgp) b2; have H2 := Lib.hid h2; have HR2 := Lib.hid (kept_row (w := w1) (t_stays HTR.out (fun _ _ => rfl)) hS2 (fun j hj => (HV1.out j hj).1)); clear h2 hS2 hd
    go_wp2_with fail
    refine (qcrash_any q fq s m k _ (by exact H2.out.b.on) (by omega)).mono ?_; rintro e w3 hd; obtain ⟨rfl, f3, h3, hS3⟩ := H2.out.does2 P hd; have bd1 := cell_kept hS3 (by exact hgq) bc1; have bd2 := cell_kept hS3 (by exact hgq) bc2; have H3 := Lib.hid h3; have HR3 := Lib.hid (kept_row HR2.out.1 hS3 (fun j hj => (HV1.out j hj).2.1)); clear h3 hS3 hd
    go_wp2_with fail
    refine (tspoil_any _ _ _ _ HR3.out.1 hn1).mono ?_
    rintro e w4 ⟨rfl, hM4⟩
    have HM4 := Lib.hid hM4
    clear hM4
    go_wp2
    go_ret
    have HV3 : ∀ j ∈ rowOf (.slice A1 n c1), W.heap.size ≤ j ∧ j ∉ f2 ∧ j ∉ f3 := fun j hj => ⟨(HV1.out j hj).2.2, HR2.out.2 j hj, HR3.out.2 j hj⟩
    exact ⟨rfl, f2, f3, m, by omega, by rw [HA.out]; exact H3.out.apart_from P O HM4.out HV3⟩
  · have e0 : ((u : Int) % 8 == 0) = false := by simp; omega
    have e1 : ((u : Int) % 8 == 1) = false := by simp; omega
    have e2 : ((u : Int) % 8 == 2) = false := by simp; omega
    have e3 : ((u : Int) % 8 == 3) = false := by simp; omega
    have e4 : ((u : Int) % 8 == 4) = false := by simp; omega
    have e5 : ((u : Int) % 8 == 5) = false := by simp; omega
    have e6 : ((u : Int) % 8 == 6) = false := by simp; omega
    have HA : Hid (st = s.start) := by show _ = _; rw [HST.out, hum]; rfl
    go_wp2_with fail
    refine (L.start p fp s m _ (by exact H1.out.a.on) (by omega)).mono ?_; rintro e w2 hd; obtain ⟨rfl, f2, h2, hS2⟩ := H1.out.does1 O hd; have bc1 := cell_kept hS2 (by exact hgp) b1; have bc2 := cell_kept hS2 (by exact hgp) b2; have H2 := Lib.hid h2; have HR2 := Lib.hid (kept_row (w := w1) (t_stays HTR.out (fun _ _ => rfl)) hS2 (fun j hj => (HV1.out j hj).1)); clear h2 hS2 hd
    go_wp2_with fail
    refine (qstart_any q fq s m _ (by exact H2.out.b.on) (by omega)).mono ?_; rintro e w3 hd; obtain ⟨rfl, f3, h3, hS3⟩ := H2.out.does2 P hd; have bd1 := cell_kept hS3 (by exact hgq) bc1; have bd2 := cell_kept hS3 (by exact hgq) bc2; have H3 := Lib.hid h3; have HR3 := Lib.hid (kept_row HR2.out.1 hS3 (fun j hj => (HV1.out j hj).2.1)); clear h3 hS3 hd
    go_wp2_with fail
    refine (tspoil_any _ _ _ _ HR3.out.1 hn1).mono ?_
    rintro e w4 ⟨rfl, hM4⟩
    have HM4 := Lib.hid hM4
    clear hM4
    go_wp2
    go_ret
    have HV3 : ∀ j ∈ rowOf (.slice A1 n c1), W.heap.size ≤ j ∧ j ∉ f2 ∧ j ∉ f3 := fun j hj => ⟨(HV1.out j hj).2.2, HR2.out.2 j hj, HR3.out.2 j hj⟩
    exact ⟨rfl, f2, f3, m, by omega, by rw [HA.out]; exact H3.out.apart_from P O HM4.out HV3⟩
end Dk
end Go.Proofs.Ytcajljpdflginaa
