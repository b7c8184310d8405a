/-
  The program's Disk in memory; CONTRACTS of New, Append (the others: DiskOwn1, DiskOwn2, DiskHave).
-/
import Derived.Test.YtekleamkpfeifaaDoorDiskFirst
namespace Go.Proofs.YtekleamkpfeifaaDoor
namespace Dk
open Go.RowKit
/-- The Disk at block q, cell by cell. -/
structure DRaw (w : World) (q : Nat) (L : List Pc) (sf : Int) (dd ar : Bool) (kp : Int) : Prop where
  at_ : w.heap[q]? = some (.cells #[ptr L, .int .i64 sf, .bool dd, .bool ar, .int .i64 kp] 63 (0, 0))
  pcs : PcAt w L
  ne : q ∉ pcBlks L
structure DSt.Fit (s : DSt) (L : List Pc) (ar : Bool) (kp : Int) (m : Nat) : Prop where
  bs : pcBytes L = s.bs
  trip : s.trip = (if ar then some kp else none)
  len : s.bs.length ≤ m
  bytes : ByteList s.bs
  ok : s.Ok
  kp : -9223372036854775808 ≤ kp ∧ kp ≤ 9223372036854775807
def DObj (w : World) (q : Nat) (fq : List Nat) (s : DSt) (m : Nat) : Prop :=
  ∃ L ar kp, fq = q :: pcBlks L ∧ DRaw w q L s.safe s.dead ar kp ∧ s.Fit L ar kp m
theorem ptr_is (L : List Pc) : ∃ a, ptr L = .pointer a := by cases L <;> exact ⟨_, rfl⟩
section
variable {w : World} {q : Nat} {L : List Pc} {sf kp : Int} {dd ar : Bool}
theorem pcs_set (h : PcAt w L) (hne : q ∉ pcBlks L) (i : Nat) (x : Value) : PcAt (w.setCell ⟨q, i, none⟩ x) L :=
  h.stays fun k hk => Below.heap_setCell w ⟨q, i, none⟩ x k (fun e => by subst e; exact hne hk)
theorem DRaw.put (h : w.heap[q]? = some (.cells #[ptr L, .int .i64 sf, .bool dd, .bool ar, .int .i64 kp] 63 (0, 0))) {L' : List Pc} {x : Value} (hx : ptr L' = x) (hP : PcAt w L') (hne : q ∉ pcBlks L') : DRaw (w.setCell ⟨q, 0, none⟩ x) q L' sf dd ar kp := by
  subst hx
  exact ⟨by rw [heap_setCell_same w q 0 _ _ _ h]; rfl, pcs_set hP hne _ _, hne⟩
theorem DRaw.set1 (h : DRaw w q L sf dd ar kp) (x : Int) : DRaw (w.setCell ⟨q, 1, none⟩ (.int .i64 x)) q L x dd ar kp :=
  ⟨by rw [heap_setCell_same w q 1 _ _ _ h.at_]; rfl, pcs_set h.pcs h.ne _ _, h.ne⟩
theorem DRaw.set2 (h : DRaw w q L sf dd ar kp) (x : Bool) : DRaw (w.setCell ⟨q, 2, none⟩ (.bool x)) q L sf x ar kp :=
  ⟨by rw [heap_setCell_same w q 2 _ _ _ h.at_]; rfl, pcs_set h.pcs h.ne _ _, h.ne⟩
theorem DRaw.set3 (h : DRaw w q L sf dd ar kp) (x : Bool) : DRaw (w.setCell ⟨q, 3, none⟩ (.bool x)) q L sf dd x kp :=
  ⟨by rw [heap_setCell_same w q 3 _ _ _ h.at_]; rfl, pcs_set h.pcs h.ne _ _, h.ne⟩
theorem DRaw.set4 (h : DRaw w q L sf dd ar kp) (x : Int) : DRaw (w.setCell ⟨q, 4, none⟩ (.int .i64 x)) q L sf dd ar x :=
  ⟨by rw [heap_setCell_same w q 4 _ _ _ h.at_]; rfl, pcs_set h.pcs h.ne _ _, h.ne⟩
theorem DRaw.drewN (h : DRaw w q L sf dd ar kp) (n : Nat) : DRaw (w.drewN n) q L sf dd ar kp := ⟨h.at_, h.pcs.drewN n, h.ne⟩
theorem DRaw.still (h : DRaw w q L sf dd ar kp) {w' : World} (hM : Moved w w' []) : DRaw w' q L sf dd ar kp :=
  ⟨by rw [hM.block q (lt_of_block h.at_) (fun h => by cases h)]; exact h.at_, h.pcs.still hM, h.ne⟩
/-- New pieces: none of them is the Disk's own block. -/
theorem DRaw.new_ne (h : DRaw w q L sf dd ar kp) {L' : List Pc} {S : List Nat} (hS : ∀ k ∈ S, k ∈ pcBlks L) (hk : ∀ k ∈ pcBlks L', k ∈ S ∨ w.heap.size ≤ k) : q ∉ pcBlks L' := fun hq => by
  rcases hk q hq with h1 | h1
  · exact h.ne (hS q h1)
  · have := lt_of_block h.at_; omega
end
theorem dstep (w : World) (q i : Nat) (x : Value) (S : List Nat) : Step w (w.setCell ⟨q, i, none⟩ x) (q :: S) (q :: S) := ⟨Moved.setCell (Moved.refl _ _) (.inl (by simp)) _, fun _ h => .inl h⟩
theorem dput {w w1 : World} {S S' T : List Nat} (hM : Moved w w1 []) (hT : ∀ k ∈ T, k ∈ S) (hk : ∀ k ∈ S', k ∈ T ∨ w.heap.size ≤ k) (q i : Nat) (x : Value) : Step w (w1.setCell ⟨q, i, none⟩ x) (q :: S) (q :: S') :=
  ⟨Moved.setCell (hM.mono (fun _ h => by cases h)) (.inl (by simp)) _, fun k hk2 => by
    rcases List.mem_cons.1 hk2 with rfl | h
    · exact .inl (by simp)
    · rcases hk k h with h | h
      · exact .inl (by simp [hT k h])
      · exact .inr h⟩
theorem ddrew (w : World) (n : Nat) (S : List Nat) : Step w (w.drewN n) S S := ⟨(Moved.refl _ _).drewN n, fun _ h => .inl h⟩
theorem DObj.stays {w w' : World} {q : Nat} {fq : List Nat} {s : DSt} {m : Nat} (h : DObj w q fq s m) (hk : ∀ k ∈ fq, w'.heap[k]? = w.heap[k]?) : DObj w' q fq s m := by
  obtain ⟨L, ar, kp, rfl, hr, r⟩ := h
  exact ⟨L, ar, kp, rfl, ⟨by rw [hk q (by simp)]; exact hr.at_, hr.pcs.stays (fun k hm => hk k (by simp [hm])), hr.ne⟩, r⟩
theorem DObj.lt {w : World} {q : Nat} {fq : List Nat} {s : DSt} {m : Nat} (h : DObj w q fq s m) : ∀ k ∈ fq, k < w.heap.size := by
  obtain ⟨L, ar, kp, rfl, hr, r⟩ := h
  intro k hk
  rcases List.mem_cons.1 hk with rfl | hk
  · exact lt_of_block hr.at_
  · exact hr.pcs.lt k hk
theorem DObj.more {w : World} {q : Nat} {fq : List Nat} {s : DSt} {m m' : Nat} (h : DObj w q fq s m) (hm : m ≤ m') : DObj w q fq s m' := by
  obtain ⟨L, ar, kp, h1, h2, h3⟩ := h
  exact ⟨L, ar, kp, h1, h2, ⟨h3.bs, h3.trip, Nat.le_trans h3.len hm, h3.bytes, h3.ok, h3.kp⟩⟩
theorem DObj.drewN {w : World} {q : Nat} {fq : List Nat} {s : DSt} {m : Nat} (h : DObj w q fq s m) (n : Nat) : DObj (w.drewN n) q fq s m := h.stays fun _ _ => rfl
def NewD (w : World) (r : Ending) (w' : World) : Prop := ∃ p fp, r = .returned (.pointer (some ⟨p, 0, none⟩)) ∧ DObj w' p fp ⟨[], 0, false, none⟩ 0 ∧ Step w w' [] fp
theorem dnew_any (w : World) : Calls Tryd.prog 11 #[] w (NewD w) := by
  go_enter Tryd.func11, Tryd.ntmps11
  go_wp2
  go_ret
  exact ⟨w.heap.size, [w.heap.size], rfl, ⟨[], false, 0, rfl, ⟨heap_alloc_new w _, trivial, by simp [pcBlks]⟩, rfl, rfl, Nat.le_refl _, ByteList.nil, ⟨Nat.le_refl _, fun _ => rfl⟩, by omega, by omega⟩, (Moved.refl w []).alloc _, fun k hk => .inr (by simp at hk; omega)⟩
set_option maxRecDepth 100000 in
set_option maxHeartbeats 1000000 in
theorem dappend_any (q : Nat) (fq : List Nat) (s : DSt) (m : Nat) (A : Option Addr) (n c : Nat) (ys : List Int) (w : World) (hQ : DObj w q fq s m) (hY : Lent w fq A n c ys) (hm : m + n ≤ 35184372088832) :
    Calls Tryd.prog 23 #[.pointer (some ⟨q, 0, none⟩), .slice A n c] w (Does DObj q fq (s.add ys) (m + n) (.int .i64 s.off) w) := by
  have HQ := Lib.hid hQ
  have HY := Lib.hid hY
  clear hY
  obtain ⟨L, ar, kp, rfl, hr, hf⟩ := hQ
  obtain ⟨bs, safe, dead, trip⟩ := s
  have hlen : (pcBytes L).length ≤ m := by rw [hf.bs]; exact hf.len
  have c2 := cell_at hr.at_ 2 (v := .bool dead) rfl
  have HR := Lib.hid hr
  have HF := Lib.hid hf
  cases dead
  · have c0 := cell_at hr.at_ 0 (v := ptr L) rfl
    have HC : Hid (Calls Tryd.prog 52 #[ptr L, .slice A n c] w (Told (pcBytes L ++ ys) (pcBlks L) w)) := pwith_any L A n c ys w hr.pcs HY.out.row HY.out.len HY.out.nil HY.out.room.1 HY.out.room.2 (by omega)
    clear hr hf
    go_enter Tryd.func23, Tryd.ntmps23
    go_wp2_with fail
    refine HC.out.mono ?_
    rintro r w4 ⟨L4, rfl, hP4, hB4, hM4, hK4⟩
    have hp4 := (HR.out.still hM4).at_
    have d0 := cell_at hp4 0 (v := ptr L) rfl
    have g0 := free_at hp4 0
    have HP4 := Lib.hid hP4
    have HB4 := Lib.hid hB4
    have HM4 := Lib.hid hM4
    have HK4 := Lib.hid hK4
    have HA4 := Lib.hid hp4
    clear hp4 hP4 hB4 hM4 hK4
    obtain ⟨a4, ha4⟩ := ptr_is L4
    rw [ha4]
    have HPT := Lib.hid ha4
    clear ha4
    go_wp2
    go_ret
    exact ⟨rfl, _, ⟨L4, ar, kp, rfl, DRaw.put HA4.out HPT.out HP4.out (HR.out.new_ne (fun _ h => h) HK4.out), ⟨by rw [HB4.out, HF.out.bs]; rfl, HF.out.trip, by show (bs ++ ys).length ≤ _; rw [List.length_append, HY.out.len]; exact Nat.add_le_add_right HF.out.len _, HF.out.bytes.append HY.out.bytes, ⟨by have := HF.out.ok.safe; show safe ≤ (bs ++ ys).length; rw [List.length_append]; exact Nat.le_trans this (Nat.le_add_right _ _), fun h => (by cases h)⟩, HF.out.kp⟩⟩, dput HM4.out (fun _ h => h) HK4.out q 0 _⟩
  · clear hr hf
    go_enter Tryd.func23, Tryd.ntmps23
    go_wp2
    go_ret
    exact ⟨rfl, _, HQ.out.more (by omega), Step.refl _ _⟩
end Dk
end Go.Proofs.YtekleamkpfeifaaDoor
