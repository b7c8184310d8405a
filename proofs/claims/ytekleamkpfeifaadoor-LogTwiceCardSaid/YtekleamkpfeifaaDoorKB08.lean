/-
  3 texts in one: DiskFirst, DiskOwn, DiskOwn1.
-/
import Derived.Test.YtekleamkpfeifaaDoorKB07
import Derived.Deep.RegionHeld3

/-
  CONTRACT of (*disk.piece).first.
-/
namespace Go.Proofs.YtekleamkpfeifaaDoor
namespace Dk
open Go.RowKit
theorem cell_moved {w w1 : World} {a : Addr} {v : Value} (hM : Moved w w1 []) (h : w.cell? a = some v) : w1.cell? a = some v := by
  rw [World.cell?_of_block (w := w) (hM.block _ (World.block_lt_of_cell? w a h) (fun h => by cases h))]; exact h
theorem Told.from_tail {bs : List Int} {D T : List Pc} {w w0 w' : World} {r : Ending} (h : Told bs (pcBlks T) w r w') (hM : Moved w0 w []) : Told bs (pcBlks (D ++ T)) w0 r w' := by
  obtain ⟨L, h1, h2, h3, h4, h5⟩ := h
  exact ⟨L, h1, h2, h3, hM.trans h4 (fun _ h => by cases h), fun k hk => (h5 k hk).imp (fun h => by rw [pcBlks_append]; exact List.mem_append.2 (.inr h)) (fun h => Nat.le_trans hM.size h)⟩
set_option maxRecDepth 100000 in
set_option maxHeartbeats 1000000 in
theorem pfirst_any (L : List Pc) (n : Nat) (w : World) (hP : PcAt w L) (hn : n ≤ (pcBytes L).length) (hm : (pcBytes L).length ≤ 35184372088832) :
    Calls Tryd.prog 51 #[ptr L, .int .i64 n] w (Told ((pcBytes L).take n) (pcBlks L) w) := by
  obtain ⟨e, he⟩ : ∃ e, e = (pcBytes L).length := ⟨_, rfl⟩
  have hn63 : n ≤ 35184372088832 := by omega
  rw [← he] at hm
  have HN := Lib.hid hn
  have HE := Lib.hid he
  have HP := Lib.hid hP
  clear he hP hn
  go_enter Tryd.func51, Tryd.ntmps51
  go_wp2
  go_loop [0] (fun p => ∃ D T : List Pc, Hid (L = D ++ T) ∧ p = ptr T ∧ Hid (n ≤ (pcBytes T).length ∧ (pcBytes T).take n = (pcBytes L).take n)) (fun p => ptrRank p)
  case atStart => exact ⟨[], L, rfl, rfl, HN.out, rfl⟩
  case round =>
    obtain ⟨D, T, HD, rfl, HT⟩ := hrel
    rcases T with _ | ⟨x, r⟩
    · obtain rfl : n = 0 := by have := HT.out.1; simpa [pcBytes] using this
      rw [show ptr [] = .pointer none from rfl]
      go_wp2_with fail
      refine (pend_nil _).mono ?_
      rintro x1 w3 ⟨rfl, k3, rfl⟩
      go_wp2
      go_ret
      exact ⟨[], rfl, trivial, by simp [pcBytes], (Moved.refl _ _).drewN _, fun _ h => by cases h⟩
    · have hpx := PcAt.tail (a := D) (b := x :: r) (by rw [← HD.out]; exact HP.out)
      have HPX := Lib.hid hpx
      obtain ⟨hat, hrow, -, hxpos, hlow, hrest⟩ := hpx
      obtain ⟨a, ha⟩ : ∃ a, a = (pcBytes r).length := ⟨_, rfl⟩
      obtain ⟨m, hm2⟩ : ∃ m, m = x.ys.length := ⟨_, rfl⟩
      have hlen : a + m ≤ e := by
        have h1 := congrArg (fun l => (pcBytes l).length) HD.out
        simp only [pcBytes_append, pcBytes, List.length_append] at h1
        rw [← HE.out, ← ha, ← hm2] at h1
        omega
      obtain ⟨u, hu⟩ : ∃ u, u = a + m := ⟨_, rfl⟩
      have HU := Lib.hid (show (pcBytes (x :: r)).length = u by rw [pcBytes, List.length_append, ← ha, ← hm2, hu])
      have hnu : n ≤ u := by rw [← HU.out]; exact HT.out.1
      have c0 := cell_at hat 0 (v := ptr r) rfl
      have c1 := cell_at hat 1 (v := .int .i64 a) (by rw [ha]; rfl)
      have c2 := cell_at hat 2 (v := .slice (some ⟨x.g, 0, none⟩) m m) (by rw [hm2]; rfl)
      have HLOW := Lib.hid hlow
      have HA := Lib.hid ha
      have HM := Lib.hid hm2
      have HROW := Lib.hid hrow
      have HREST := Lib.hid hrest
      have b3 : u ≤ e := by omega
      have HEND : Hid (∀ j, Calls Tryd.prog 50 #[.pointer (some ⟨x.p, 0, none⟩)] (w.drewN j) fun e w' => e = .returned (.int .i64 u) ∧ ∃ i, w' = (w.drewN j).drewN i) := by
        intro j
        have h9 := pend_any (x :: r) _ (HPX.out.drewN j) (by rw [HU.out]; omega)
        rw [HU.out] at h9
        exact h9
      rw [show ptr (x :: r) = .pointer (some ⟨x.p, 0, none⟩) from rfl]
      by_cases hge : n ≤ a
      · have HT2 : Hid (n ≤ (pcBytes r).length ∧ (pcBytes r).take n = (pcBytes L).take n) := by
          refine ⟨by rw [← ha]; exact hge, ?_⟩
          rw [← HT.out.2, pcBytes, List.take_append_of_le_length (by rw [← ha]; exact hge)]
        clear hat hrow hxpos hlow hrest ha hm2 hu hlen
        go_wp2
        go_round
        case rel => exact ⟨D ++ [x], r, by rw [HD.out, List.append_assoc]; rfl, rfl, HT2.out⟩
        case measure => exact rank_lt HLOW.out
      · have hgt : a < n := by omega
        have HAU := Lib.hid hu
        clear hge hat hrow hxpos hlow hrest ha hm2 hlen
        by_cases hun : u ≤ n
        · clear hu
          go_wp2_with fail
          refine (HEND.out 0).mono ?_
          rintro x1 w3 ⟨rfl, k3, rfl⟩
          go_wp2
          go_ret
          refine ⟨x :: r, rfl, HPX.out.drewN _, ?_, (Moved.refl _ _).drewN _, fun k hk => .inl (by rw [HD.out, pcBlks_append]; exact List.mem_append.2 (.inr hk))⟩
          rw [← HT.out.2, List.take_of_length_le (by rw [HU.out]; exact hun)]
        · have hun2 : n < u := by omega
          obtain ⟨v, hv⟩ : ∃ v, v = n - a := ⟨_, rfl⟩
          have e3 : IntKind.i64.wrap ((n : Int) - (a : Int)) = (v : Int) := by rw [IntWalk.i64_in _ (by omega)]; omega
          have b4 : (0 : Int) ≤ (v : Int) := by omega
          have b5 : (v : Int) ≤ (m : Int) := by omega
          have HV := Lib.hid hv
          have HTOLD : Hid (∀ j, Calls Tryd.prog 52 #[ptr r, .slice (some ⟨x.g, 0, none⟩) v m] ((w.drewN j).drew) (Told ((pcBytes L).take n) (pcBlks r) w)) := by
            intro j
            have h := pwith_any r (some ⟨x.g, 0, none⟩) v m (x.ys.take v) ((w.drewN j).drew) (HREST.out.stays (fun _ _ => rfl)) (NRow.drew ((HROW.out.drewN j).take v)) (by rw [List.length_take, ← HM.out]; omega) (fun h => by cases h) (by omega) (by omega) (by rw [← HA.out]; omega)
            rw [show pcBytes r ++ x.ys.take v = (pcBytes L).take n by
              rw [← HT.out.2, pcBytes, List.take_append, ← HA.out, ← HV.out, List.take_of_length_le (l := pcBytes r) (by rw [← HA.out]; omega)]] at h
            exact h.mono fun q w' ⟨L', h1, h2, h3, h4, h5⟩ => ⟨L', h1, h2, h3, ⟨h4.os, h4.tape, h4.output, h4.size, h4.block⟩, h5⟩
          clear hun hu hv
          go_wp2_with fail
          refine (HEND.out 0).mono ?_
          rintro x1 w3 ⟨rfl, k3, rfl⟩
          go_wp2
          go_region_held3 (fun w' => w'.cell? ⟨x.p, 0, none⟩ = some (ptr r) ∧ w'.cell? ⟨x.p, 1, none⟩ = some (.int .i64 a) ∧ w'.cell? ⟨x.p, 2, none⟩ = some (.slice (some ⟨x.g, 0, none⟩) m m)) (first | go_keep | exact ⟨cell_moved HM4.out c0, cell_moved HM4.out c1, cell_moved HM4.out c2⟩) ((go_at_call 52; refine (HTOLD.out _).mono ?_; rintro q w4 ⟨L4, rfl, hP4, hB4, hM4, hK4⟩; have HP4 := Lib.hid hP4; have HB4 := Lib.hid hB4; have HM4 := Lib.hid hM4; have HK4 := Lib.hid hK4; clear hP4 hB4 hM4 hK4))
          go_wp2
          go_ret
          exact ⟨L4, rfl, HP4.out, HB4.out, HM4.out, fun k hk => (HK4.out k hk).imp (fun h => by rw [HD.out, pcBlks_append]; simp [pcBlks, h]) id⟩
end Dk
end Go.Proofs.YtekleamkpfeifaaDoor

/-
  The program's Disk in memory; CONTRACTS of New, Append (the others: DiskOwn1, DiskOwn2, DiskHave).
-/
namespace Go.Proofs.YtekleamkpfeifaaDoor
namespace Dk
open Go.RowKit
/-- The Disk at block q, cell by cell. -/
structure DRaw (w : World) (q : Nat) (L : List Pc) (sf : Int) (dd ar : Bool) (kp : Int) : Prop where
  at_ : w.heap[q]? = some (.cells #[ptr L, .int .i64 sf, .bool dd, .bool ar, .int .i64 kp] 63 (0, 0))
  pcs : PcAt w L
  ne : q ∉ pcBlks L
structure DSt.Fit (s : DSt) (L : List Pc) (ar : Bool) (kp : Int) (m : Nat) : Prop where
  bs : pcBytes L = s.bs
  trip : s.trip = (if ar then some kp else none)
  len : s.bs.length ≤ m
  bytes : ByteList s.bs
  ok : s.Ok
  kp : -9223372036854775808 ≤ kp ∧ kp ≤ 9223372036854775807
def DObj (w : World) (q : Nat) (fq : List Nat) (s : DSt) (m : Nat) : Prop :=
  ∃ L ar kp, fq = q :: pcBlks L ∧ DRaw w q L s.safe s.dead ar kp ∧ s.Fit L ar kp m
theorem ptr_is (L : List Pc) : ∃ a, ptr L = .pointer a := by cases L <;> exact ⟨_, rfl⟩
section
variable {w : World} {q : Nat} {L : List Pc} {sf kp : Int} {dd ar : Bool}
theorem pcs_set (h : PcAt w L) (hne : q ∉ pcBlks L) (i : Nat) (x : Value) : PcAt (w.setCell ⟨q, i, none⟩ x) L :=
  h.stays fun k hk => Below.heap_setCell w ⟨q, i, none⟩ x k (fun e => by subst e; exact hne hk)
theorem DRaw.put (h : w.heap[q]? = some (.cells #[ptr L, .int .i64 sf, .bool dd, .bool ar, .int .i64 kp] 63 (0, 0))) {L' : List Pc} {x : Value} (hx : ptr L' = x) (hP : PcAt w L') (hne : q ∉ pcBlks L') : DRaw (w.setCell ⟨q, 0, none⟩ x) q L' sf dd ar kp := by
  subst hx
  exact ⟨by rw [heap_setCell_same w q 0 _ _ _ h]; rfl, pcs_set hP hne _ _, hne⟩
theorem DRaw.set1 (h : DRaw w q L sf dd ar kp) (x : Int) : DRaw (w.setCell ⟨q, 1, none⟩ (.int .i64 x)) q L x dd ar kp :=
  ⟨by rw [heap_setCell_same w q 1 _ _ _ h.at_]; rfl, pcs_set h.pcs h.ne _ _, h.ne⟩
theorem DRaw.set2 (h : DRaw w q L sf dd ar kp) (x : Bool) : DRaw (w.setCell ⟨q, 2, none⟩ (.bool x)) q L sf x ar kp :=
  ⟨by rw [heap_setCell_same w q 2 _ _ _ h.at_]; rfl, pcs_set h.pcs h.ne _ _, h.ne⟩
theorem DRaw.set3 (h : DRaw w q L sf dd ar kp) (x : Bool) : DRaw (w.setCell ⟨q, 3, none⟩ (.bool x)) q L sf dd x kp :=
  ⟨by rw [heap_setCell_same w q 3 _ _ _ h.at_]; rfl, pcs_set h.pcs h.ne _ _, h.ne⟩
theorem DRaw.set4 (h : DRaw w q L sf dd ar kp) (x : Int) : DRaw (w.setCell ⟨q, 4, none⟩ (.int .i64 x)) q L sf dd ar x :=
  ⟨by rw [heap_setCell_same w q 4 _ _ _ h.at_]; rfl, pcs_set h.pcs h.ne _ _, h.ne⟩
theorem DRaw.drewN (h : DRaw w q L sf dd ar kp) (n : Nat) : DRaw (w.drewN n) q L sf dd ar kp := ⟨h.at_, h.pcs.drewN n, h.ne⟩
theorem DRaw.still (h : DRaw w q L sf dd ar kp) {w' : World} (hM : Moved w w' []) : DRaw w' q L sf dd ar kp :=
  ⟨by rw [hM.block q (lt_of_block h.at_) (fun h => by cases h)]; exact h.at_, h.pcs.still hM, h.ne⟩
/-- New pieces: none of them is the Disk's own block. -/
theorem DRaw.new_ne (h : DRaw w q L sf dd ar kp) {L' : List Pc} {S : List Nat} (hS : ∀ k ∈ S, k ∈ pcBlks L) (hk : ∀ k ∈ pcBlks L', k ∈ S ∨ w.heap.size ≤ k) : q ∉ pcBlks L' := fun hq => by
  rcases hk q hq with h1 | h1
  · exact h.ne (hS q h1)
  · have := lt_of_block h.at_; omega
end
theorem dstep (w : World) (q i : Nat) (x : Value) (S : List Nat) : Step w (w.setCell ⟨q, i, none⟩ x) (q :: S) (q :: S) := ⟨Moved.setCell (Moved.refl _ _) (.inl (by simp)) _, fun _ h => .inl h⟩
theorem dput {w w1 : World} {S S' T : List Nat} (hM : Moved w w1 []) (hT : ∀ k ∈ T, k ∈ S) (hk : ∀ k ∈ S', k ∈ T ∨ w.heap.size ≤ k) (q i : Nat) (x : Value) : Step w (w1.setCell ⟨q, i, none⟩ x) (q :: S) (q :: S') :=
  ⟨Moved.setCell (hM.mono (fun _ h => by cases h)) (.inl (by simp)) _, fun k hk2 => by
    rcases List.mem_cons.1 hk2 with rfl | h
    · exact .inl (by simp)
    · rcases hk k h with h | h
      · exact .inl (by simp [hT k h])
      · exact .inr h⟩
theorem ddrew (w : World) (n : Nat) (S : List Nat) : Step w (w.drewN n) S S := ⟨(Moved.refl _ _).drewN n, fun _ h => .inl h⟩
theorem DObj.stays {w w' : World} {q : Nat} {fq : List Nat} {s : DSt} {m : Nat} (h : DObj w q fq s m) (hk : ∀ k ∈ fq, w'.heap[k]? = w.heap[k]?) : DObj w' q fq s m := by
  obtain ⟨L, ar, kp, rfl, hr, r⟩ := h
  exact ⟨L, ar, kp, rfl, ⟨by rw [hk q (by simp)]; exact hr.at_, hr.pcs.stays (fun k hm => hk k (by simp [hm])), hr.ne⟩, r⟩
theorem DObj.lt {w : World} {q : Nat} {fq : List Nat} {s : DSt} {m : Nat} (h : DObj w q fq s m) : ∀ k ∈ fq, k < w.heap.size := by
  obtain ⟨L, ar, kp, rfl, hr, r⟩ := h
  intro k hk
  rcases List.mem_cons.1 hk with rfl | hk
  · exact lt_of_block hr.at_
  · exact hr.pcs.lt k hk
theorem DObj.more {w : World} {q : Nat} {fq : List Nat} {s : DSt} {m m' : Nat} (h : DObj w q fq s m) (hm : m ≤ m') : DObj w q fq s m' := by
  obtain ⟨L, ar, kp, h1, h2, h3⟩ := h
  exact ⟨L, ar, kp, h1, h2, ⟨h3.bs, h3.trip, Nat.le_trans h3.len hm, h3.bytes, h3.ok, h3.kp⟩⟩
theorem DObj.drewN {w : World} {q : Nat} {fq : List Nat} {s : DSt} {m : Nat} (h : DObj w q fq s m) (n : Nat) : DObj (w.drewN n) q fq s m := h.stays fun _ _ => rfl
def NewD (w : World) (r : Ending) (w' : World) : Prop := ∃ p fp, r = .returned (.pointer (some ⟨p, 0, none⟩)) ∧ DObj w' p fp ⟨[], 0, false, none⟩ 0 ∧ Step w w' [] fp
theorem dnew_any (w : World) : Calls Tryd.prog 11 #[] w (NewD w) := by
  go_enter Tryd.func11, Tryd.ntmps11
  go_wp2
  go_ret
  exact ⟨w.heap.size, [w.heap.size], rfl, ⟨[], false, 0, rfl, ⟨heap_alloc_new w _, trivial, by simp [pcBlks]⟩, rfl, rfl, Nat.le_refl _, ByteList.nil, ⟨Nat.le_refl _, fun _ => rfl⟩, by omega, by omega⟩, (Moved.refl w []).alloc _, fun k hk => .inr (by simp at hk; omega)⟩
set_option maxRecDepth 100000 in
set_option maxHeartbeats 1000000 in
theorem dappend_any (q : Nat) (fq : List Nat) (s : DSt) (m : Nat) (A : Option Addr) (n c : Nat) (ys : List Int) (w : World) (hQ : DObj w q fq s m) (hY : Lent w fq A n c ys) (hm : m + n ≤ 35184372088832) :
    Calls Tryd.prog 23 #[.pointer (some ⟨q, 0, none⟩), .slice A n c] w (Does DObj q fq (s.add ys) (m + n) (.int .i64 s.off) w) := by
  have HQ := Lib.hid hQ
  have HY := Lib.hid hY
  clear hY
  obtain ⟨L, ar, kp, rfl, hr, hf⟩ := hQ
  obtain ⟨bs, safe, dead, trip⟩ := s
  have hlen : (pcBytes L).length ≤ m := by rw [hf.bs]; exact hf.len
  have c2 := cell_at hr.at_ 2 (v := .bool dead) rfl
  have HR := Lib.hid hr
  have HF := Lib.hid hf
  cases dead
  · have c0 := cell_at hr.at_ 0 (v := ptr L) rfl
    have HC : Hid (Calls Tryd.prog 52 #[ptr L, .slice A n c] w (Told (pcBytes L ++ ys) (pcBlks L) w)) := pwith_any L A n c ys w hr.pcs HY.out.row HY.out.len HY.out.nil HY.out.room.1 HY.out.room.2 (by omega)
    clear hr hf
    go_enter Tryd.func23, Tryd.ntmps23
    go_wp2_with fail
    refine HC.out.mono ?_
    rintro r w4 ⟨L4, rfl, hP4, hB4, hM4, hK4⟩
    have hp4 := (HR.out.still hM4).at_
    have d0 := cell_at hp4 0 (v := ptr L) rfl
    have g0 := free_at hp4 0
    have HP4 := Lib.hid hP4
    have HB4 := Lib.hid hB4
    have HM4 := Lib.hid hM4
    have HK4 := Lib.hid hK4
    have HA4 := Lib.hid hp4
    clear hp4 hP4 hB4 hM4 hK4
    obtain ⟨a4, ha4⟩ := ptr_is L4
    rw [ha4]
    have HPT := Lib.hid ha4
    clear ha4
    go_wp2
    go_ret
    exact ⟨rfl, _, ⟨L4, ar, kp, rfl, DRaw.put HA4.out HPT.out HP4.out (HR.out.new_ne (fun _ h => h) HK4.out), ⟨by rw [HB4.out, HF.out.bs]; rfl, HF.out.trip, by show (bs ++ ys).length ≤ _; rw [List.length_append, HY.out.len]; exact Nat.add_le_add_right HF.out.len _, HF.out.bytes.append HY.out.bytes, ⟨by have := HF.out.ok.safe; show safe ≤ (bs ++ ys).length; rw [List.length_append]; exact Nat.le_trans this (Nat.le_add_right _ _), fun h => (by cases h)⟩, HF.out.kp⟩⟩, dput HM4.out (fun _ h => h) HK4.out q 0 _⟩
  · clear hr hf
    go_enter Tryd.func23, Tryd.ntmps23
    go_wp2
    go_ret
    exact ⟨rfl, _, HQ.out.more (by omega), Step.refl _ _⟩
end Dk
end Go.Proofs.YtekleamkpfeifaaDoor

/-
  CONTRACTS of the program's Disk: Read, Synced, Off, Trip, Start.
-/
namespace Go.Proofs.YtekleamkpfeifaaDoor
namespace Dk
open Go.RowKit
def DRead (D : World → Nat → List Nat → DSt → Nat → Prop) (p : Nat) (fp : List Nat) (s : DSt) (m : Nat) (w : World) (r : Ending) (w' : World) : Prop :=
  ∃ v fp', r = .returned (.tuple #[v, .int .i64 s.off]) ∧ TRow w' v s.read.length s.read ∧ (∀ k ∈ rowOf v, w.heap.size ≤ k ∧ k ∉ fp') ∧ D w' p fp' s m ∧ Step w w' fp fp'
theorem trow_of {w : World} {g : Nat} {xs : List Int} (h : w.heap[g]? = some (.cells (xs.map (Value.int .u8)).toArray 5 (0, 0))) (hm : xs.length ≤ 9223372036854775807) : TRow w (.slice (some ⟨g, 0, none⟩) xs.length xs.length) xs.length xs :=
  ⟨rfl, .inr ⟨g, _, _, _, rfl, h, fun j _ => by simp, Nat.le_refl _, by unfold maxLen; omega, by simp, by rw [List.take_of_length_le (by simp)]⟩⟩
set_option maxRecDepth 100000 in
set_option maxHeartbeats 1000000 in
theorem dread_any (q : Nat) (fq : List Nat) (s : DSt) (m : Nat) (w : World) (hQ : DObj w q fq s m) (hm : m ≤ 35184372088832) :
    Calls Tryd.prog 29 #[.pointer (some ⟨q, 0, none⟩)] w (DRead DObj q fq s m w) := by
  have HQ := Lib.hid hQ
  obtain ⟨L, ar, kp, rfl, hr, hf⟩ := hQ
  obtain ⟨bs, safe, dead, trip⟩ := s
  have hlen : (pcBytes L).length ≤ m := by rw [hf.bs]; exact hf.len
  have c2 := cell_at hr.at_ 2 (v := .bool dead) rfl
  have HR := Lib.hid hr
  cases dead
  · have c0 := cell_at hr.at_ 0 (v := ptr L) rfl
    have HB := Lib.hid (show pcBytes L = bs from hf.bs)
    have HLB : Hid (bs.length ≤ 9223372036854775807) := by show bs.length ≤ _; have := hf.len; simp at this; omega
    obtain ⟨M, hM⟩ : ∃ M, bs.length = M := ⟨_, rfl⟩
    have HM2 := Lib.hid hM
    have HC : Hid (Calls Tryd.prog 55 #[ptr L, .int .i64 0, .slice none 0 0] w (FreshN M bs w)) := by
      have h := pjoin_any L [] none 0 0 [] w (by rw [List.append_nil]; exact hr.pcs) (NRow.none_ _ _ _) rfl (fun _ => rfl) (Nat.le_refl _) (by omega) (by rw [List.append_nil]; omega)
      rw [List.append_nil, List.append_nil, hf.bs] at h
      exact h.mono fun r w' h => h.named HM2.out
    clear hr hf hM
    go_enter Tryd.func29, Tryd.ntmps29
    go_wp2_with fail
    refine HC.out.mono ?_
    rintro r w4 ⟨g, rfl, hg, hrow, hM⟩
    have HG := Lib.hid hg
    have HROW := Lib.hid hrow
    have HMV := Lib.hid hM
    clear hg hrow hM
    go_wp2
    go_ret2
    refine ⟨_, q :: pcBlks L, rfl, by rw [← HM2.out]; exact trow_of HROW.out HLB.out, ?_, HQ.out.stays (fun k hk => HMV.out.block k (HQ.out.lt k hk) (fun h => by cases h)), HMV.out.mono (fun _ h => by cases h), fun k hk => .inl hk⟩
    intro k hk
    have e : g = k := by simpa [mem_rowOf, Value.ownBlock] using hk
    subst e
    exact ⟨HG.out, fun h => by have := HQ.out.lt _ h; have := HG.out; omega⟩
  · clear hr hf
    go_enter Tryd.func29, Tryd.ntmps29
    go_wp2
    go_ret2
    exact ⟨_, _, rfl, ⟨rfl, .inl ⟨rfl, rfl⟩⟩, fun k hk => by simp [rowOf, Value.ownBlock] at hk, HQ.out, Step.refl _ _⟩
theorem dsynced_any (q : Nat) (fq : List Nat) (s : DSt) (m : Nat) (w : World) (hQ : DObj w q fq s m) (_hm : m ≤ 35184372088832) :
    Calls Tryd.prog 39 #[.pointer (some ⟨q, 0, none⟩)] w (Does DObj q fq s m (.int .i64 s.safe) w) := by
  have HQ := Lib.hid hQ
  obtain ⟨L, ar, kp, rfl, hr, hf⟩ := hQ
  have c1 := cell_at hr.at_ 1 (v := .int .i64 s.safe) rfl
  clear hr hf
  go_enter Tryd.func39, Tryd.ntmps39
  go_wp2
  go_ret
  exact ⟨rfl, _, HQ.out, Step.refl _ _⟩
theorem doff_any (q : Nat) (fq : List Nat) (s : DSt) (m : Nat) (w : World) (hQ : DObj w q fq s m) :
    Calls Tryd.prog 28 #[.pointer (some ⟨q, 0, none⟩)] w (Does DObj q fq s m (.bool s.dead) w) := by
  have HQ := Lib.hid hQ
  obtain ⟨L, ar, kp, rfl, hr, hf⟩ := hQ
  have c2 := cell_at hr.at_ 2 (v := .bool s.dead) rfl
  clear hr hf
  go_enter Tryd.func28, Tryd.ntmps28
  go_wp2
  go_ret
  exact ⟨rfl, _, HQ.out, Step.refl _ _⟩
set_option maxRecDepth 100000 in
theorem dtrip_any (q : Nat) (fq : List Nat) (s : DSt) (m : Nat) (k : Int) (w : World) (hQ : DObj w q fq s m) (h0 : -9223372036854775808 ≤ k) (h1 : k ≤ 9223372036854775807) :
    Calls Tryd.prog 19 #[.pointer (some ⟨q, 0, none⟩), .int .i64 k] w (Does DObj q fq (s.arm k) m (.tuple #[]) w) := by
  have HQ := Lib.hid hQ
  obtain ⟨L, ar, kp, rfl, hr, hf⟩ := hQ
  obtain ⟨bs, safe, dead, trip⟩ := s
  have c2 := cell_at hr.at_ 2 (v := .bool dead) rfl
  have c3 := cell_at hr.at_ 3 (v := .bool ar) rfl
  have c4 := cell_at hr.at_ 4 (v := .int .i64 kp) rfl
  have f3 := free_at hr.at_ 3
  have f4 := free_at hr.at_ 4
  have HR := Lib.hid hr
  have HF := Lib.hid hf
  clear hr hf
  cases dead
  · go_enter Tryd.func19, Tryd.ntmps19
    go_wp2
    go_end0
    exact ⟨rfl, _, ⟨L, true, k, rfl, (HR.out.set3 true).set4 k, ⟨HF.out.bs, rfl, HF.out.len, HF.out.bytes, ⟨HF.out.ok.safe, fun h => (by cases h)⟩, h0, h1⟩⟩, (dstep _ q 3 _ _).trans (dstep _ q 4 _ _)⟩
  · go_enter Tryd.func19, Tryd.ntmps19
    go_wp2
    go_end0
    exact ⟨rfl, _, HQ.out, Step.refl _ _⟩
set_option maxRecDepth 100000 in
theorem dstart_any (q : Nat) (fq : List Nat) (s : DSt) (m : Nat) (w : World) (hQ : DObj w q fq s m) (hm : m ≤ 35184372088832) :
    Calls Tryd.prog 34 #[.pointer (some ⟨q, 0, none⟩)] w (Does DObj q fq s.start m (.tuple #[]) w) := by
  have HQ := Lib.hid hQ
  obtain ⟨L, ar, kp, rfl, hr, hf⟩ := hQ
  obtain ⟨bs, safe, dead, trip⟩ := s
  have c0 := cell_at hr.at_ 0 (v := ptr L) rfl
  have c1 := cell_at hr.at_ 1 (v := .int .i64 safe) rfl
  have c2 := cell_at hr.at_ 2 (v := .bool dead) rfl
  have f1 := free_at hr.at_ 1
  have f2 := free_at hr.at_ 2
  have HR := Lib.hid hr
  have HF := Lib.hid hf
  have HNE := Lib.hid hr.ne
  obtain ⟨e, he⟩ : ∃ e, bs.length = e := ⟨_, rfl⟩
  have HE := Lib.hid he
  have hem : e ≤ m := by rw [← he]; exact hf.len
  clear hr hf he
  cases dead
  · go_enter Tryd.func34, Tryd.ntmps34
    go_wp2
    go_end0
    exact ⟨rfl, _, HQ.out, Step.refl _ _⟩
  · have HC : Hid (Calls Tryd.prog 50 #[ptr L] (w.setCell ⟨q, 2, none⟩ (.bool false)) fun r w' => r = .returned (.int .i64 e) ∧ ∃ k, w' = (w.setCell ⟨q, 2, none⟩ (.bool false)).drewN k) := by
      have h := pend_any L _ (pcs_set HR.out.pcs HR.out.ne 2 (.bool false)) (by rw [HF.out.bs]; have := HF.out.len; exact Nat.le_trans this hm)
      rw [show (pcBytes L).length = e by rw [HF.out.bs]; exact HE.out] at h
      exact h
    go_enter Tryd.func34, Tryd.ntmps34
    go_wp2_with fail
    refine HC.out.mono ?_
    rintro r w4 ⟨rfl, k4, rfl⟩
    go_wp2
    go_end0
    refine ⟨rfl, _, ⟨L, ar, kp, rfl, ?_, ⟨HF.out.bs, HF.out.trip, HF.out.len, HF.out.bytes, ⟨Nat.le_refl _, fun h => (by cases h)⟩, HF.out.kp⟩⟩, ?_⟩
    · show DRaw _ q L ((bs.length : Nat) : Int) false ar kp
      rw [HE.out]
      exact ((HR.out.set2 false).drewN k4).set1 _
    · exact ((dstep _ q 2 _ _).trans (ddrew _ k4 _)).trans (dstep _ q 1 _ _)
end Dk
end Go.Proofs.YtekleamkpfeifaaDoor
