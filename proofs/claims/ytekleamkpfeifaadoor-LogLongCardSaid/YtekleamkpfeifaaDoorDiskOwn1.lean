/-
  CONTRACTS of the program's Disk: Read, Synced, Off, Trip, Start.
-/
import Derived.Test.YtekleamkpfeifaaDoorDiskOwn
namespace Go.Proofs.YtekleamkpfeifaaDoor
namespace Dk
open Go.RowKit
def DRead (D : World → Nat → List Nat → DSt → Nat → Prop) (p : Nat) (fp : List Nat) (s : DSt) (m : Nat) (w : World) (r : Ending) (w' : World) : Prop :=
  ∃ v fp', r = .returned (.tuple #[v, .int .i64 s.off]) ∧ TRow w' v s.read.length s.read ∧ (∀ k ∈ rowOf v, w.heap.size ≤ k ∧ k ∉ fp') ∧ D w' p fp' s m ∧ Step w w' fp fp'
theorem trow_of {w : World} {g : Nat} {xs : List Int} (h : w.heap[g]? = some (.cells (xs.map (Value.int .u8)).toArray 5 (0, 0))) (hm : xs.length ≤ 9223372036854775807) : TRow w (.slice (some ⟨g, 0, none⟩) xs.length xs.length) xs.length xs :=
  ⟨rfl, .inr ⟨g, _, _, _, rfl, h, fun j _ => by simp, Nat.le_refl _, by unfold maxLen; omega, by simp, by rw [List.take_of_length_le (by simp)]⟩⟩
set_option maxRecDepth 100000 in
set_option maxHeartbeats 1000000 in
theorem dread_any (q : Nat) (fq : List Nat) (s : DSt) (m : Nat) (w : World) (hQ : DObj w q fq s m) (hm : m ≤ 35184372088832) :
    Calls Tryd.prog 29 #[.pointer (some ⟨q, 0, none⟩)] w (DRead DObj q fq s m w) := by
  have HQ := Lib.hid hQ
  obtain ⟨L, ar, kp, rfl, hr, hf⟩ := hQ
  obtain ⟨bs, safe, dead, trip⟩ := s
  have hlen : (pcBytes L).length ≤ m := by rw [hf.bs]; exact hf.len
  have c2 := cell_at hr.at_ 2 (v := .bool dead) rfl
  have HR := Lib.hid hr
  cases dead
  · have c0 := cell_at hr.at_ 0 (v := ptr L) rfl
    have HB := Lib.hid (show pcBytes L = bs from hf.bs)
    have HLB : Hid (bs.length ≤ 9223372036854775807) := by show bs.length ≤ _; have := hf.len; simp at this; omega
    obtain ⟨M, hM⟩ : ∃ M, bs.length = M := ⟨_, rfl⟩
    have HM2 := Lib.hid hM
    have HC : Hid (Calls Tryd.prog 55 #[ptr L, .int .i64 0, .slice none 0 0] w (FreshN M bs w)) := by
      have h := pjoin_any L [] none 0 0 [] w (by rw [List.append_nil]; exact hr.pcs) (NRow.none_ _ _ _) rfl (fun _ => rfl) (Nat.le_refl _) (by omega) (by rw [List.append_nil]; omega)
      rw [List.append_nil, List.append_nil, hf.bs] at h
      exact h.mono fun r w' h => h.named HM2.out
    clear hr hf hM
    go_enter Tryd.func29, Tryd.ntmps29
    go_wp2_with fail
    refine HC.out.mono ?_
    rintro r w4 ⟨g, rfl, hg, hrow, hM⟩
    have HG := Lib.hid hg
    have HROW := Lib.hid hrow
    have HMV := Lib.hid hM
    clear hg hrow hM
    go_wp2
    go_ret2
    refine ⟨_, q :: pcBlks L, rfl, by rw [← HM2.out]; exact trow_of HROW.out HLB.out, ?_, HQ.out.stays (fun k hk => HMV.out.block k (HQ.out.lt k hk) (fun h => by cases h)), HMV.out.mono (fun _ h => by cases h), fun k hk => .inl hk⟩
    intro k hk
    have e : g = k := by simpa [mem_rowOf, Value.ownBlock] using hk
    subst e
    exact ⟨HG.out, fun h => by have := HQ.out.lt _ h; have := HG.out; omega⟩
  · clear hr hf
    go_enter Tryd.func29, Tryd.ntmps29
    go_wp2
    go_ret2
    exact ⟨_, _, rfl, ⟨rfl, .inl ⟨rfl, rfl⟩⟩, fun k hk => by simp [rowOf, Value.ownBlock] at hk, HQ.out, Step.refl _ _⟩
theorem dsynced_any (q : Nat) (fq : List Nat) (s : DSt) (m : Nat) (w : World) (hQ : DObj w q fq s m) (_hm : m ≤ 35184372088832) :
    Calls Tryd.prog 39 #[.pointer (some ⟨q, 0, none⟩)] w (Does DObj q fq s m (.int .i64 s.safe) w) := by
  have HQ := Lib.hid hQ
  obtain ⟨L, ar, kp, rfl, hr, hf⟩ := hQ
  have c1 := cell_at hr.at_ 1 (v := .int .i64 s.safe) rfl
  clear hr hf
  go_enter Tryd.func39, Tryd.ntmps39
  go_wp2
  go_ret
  exact ⟨rfl, _, HQ.out, Step.refl _ _⟩
theorem doff_any (q : Nat) (fq : List Nat) (s : DSt) (m : Nat) (w : World) (hQ : DObj w q fq s m) :
    Calls Tryd.prog 28 #[.pointer (some ⟨q, 0, none⟩)] w (Does DObj q fq s m (.bool s.dead) w) := by
  have HQ := Lib.hid hQ
  obtain ⟨L, ar, kp, rfl, hr, hf⟩ := hQ
  have c2 := cell_at hr.at_ 2 (v := .bool s.dead) rfl
  clear hr hf
  go_enter Tryd.func28, Tryd.ntmps28
  go_wp2
  go_ret
  exact ⟨rfl, _, HQ.out, Step.refl _ _⟩
set_option maxRecDepth 100000 in
theorem dtrip_any (q : Nat) (fq : List Nat) (s : DSt) (m : Nat) (k : Int) (w : World) (hQ : DObj w q fq s m) (h0 : -9223372036854775808 ≤ k) (h1 : k ≤ 9223372036854775807) :
    Calls Tryd.prog 19 #[.pointer (some ⟨q, 0, none⟩), .int .i64 k] w (Does DObj q fq (s.arm k) m (.tuple #[]) w) := by
  have HQ := Lib.hid hQ
  obtain ⟨L, ar, kp, rfl, hr, hf⟩ := hQ
  obtain ⟨bs, safe, dead, trip⟩ := s
  have c2 := cell_at hr.at_ 2 (v := .bool dead) rfl
  have c3 := cell_at hr.at_ 3 (v := .bool ar) rfl
  have c4 := cell_at hr.at_ 4 (v := .int .i64 kp) rfl
  have f3 := free_at hr.at_ 3
  have f4 := free_at hr.at_ 4
  have HR := Lib.hid hr
  have HF := Lib.hid hf
  clear hr hf
  cases dead
  · go_enter Tryd.func19, Tryd.ntmps19
    go_wp2
    go_end0
    exact ⟨rfl, _, ⟨L, true, k, rfl, (HR.out.set3 true).set4 k, ⟨HF.out.bs, rfl, HF.out.len, HF.out.bytes, ⟨HF.out.ok.safe, fun h => (by cases h)⟩, h0, h1⟩⟩, (dstep _ q 3 _ _).trans (dstep _ q 4 _ _)⟩
  · go_enter Tryd.func19, Tryd.ntmps19
    go_wp2
    go_end0
    exact ⟨rfl, _, HQ.out, Step.refl _ _⟩
set_option maxRecDepth 100000 in
theorem dstart_any (q : Nat) (fq : List Nat) (s : DSt) (m : Nat) (w : World) (hQ : DObj w q fq s m) (hm : m ≤ 35184372088832) :
    Calls Tryd.prog 34 #[.pointer (some ⟨q, 0, none⟩)] w (Does DObj q fq s.start m (.tuple #[]) w) := by
  have HQ := Lib.hid hQ
  obtain ⟨L, ar, kp, rfl, hr, hf⟩ := hQ
  obtain ⟨bs, safe, dead, trip⟩ := s
  have c0 := cell_at hr.at_ 0 (v := ptr L) rfl
  have c1 := cell_at hr.at_ 1 (v := .int .i64 safe) rfl
  have c2 := cell_at hr.at_ 2 (v := .bool dead) rfl
  have f1 := free_at hr.at_ 1
  have f2 := free_at hr.at_ 2
  have HR := Lib.hid hr
  have HF := Lib.hid hf
  have HNE := Lib.hid hr.ne
  obtain ⟨e, he⟩ : ∃ e, bs.length = e := ⟨_, rfl⟩
  have HE := Lib.hid he
  have hem : e ≤ m := by rw [← he]; exact hf.len
  clear hr hf he
  cases dead
  · go_enter Tryd.func34, Tryd.ntmps34
    go_wp2
    go_end0
    exact ⟨rfl, _, HQ.out, Step.refl _ _⟩
  · have HC : Hid (Calls Tryd.prog 50 #[ptr L] (w.setCell ⟨q, 2, none⟩ (.bool false)) fun r w' => r = .returned (.int .i64 e) ∧ ∃ k, w' = (w.setCell ⟨q, 2, none⟩ (.bool false)).drewN k) := by
      have h := pend_any L _ (pcs_set HR.out.pcs HR.out.ne 2 (.bool false)) (by rw [HF.out.bs]; have := HF.out.len; exact Nat.le_trans this hm)
      rw [show (pcBytes L).length = e by rw [HF.out.bs]; exact HE.out] at h
      exact h
    go_enter Tryd.func34, Tryd.ntmps34
    go_wp2_with fail
    refine HC.out.mono ?_
    rintro r w4 ⟨rfl, k4, rfl⟩
    go_wp2
    go_end0
    refine ⟨rfl, _, ⟨L, ar, kp, rfl, ?_, ⟨HF.out.bs, HF.out.trip, HF.out.len, HF.out.bytes, ⟨Nat.le_refl _, fun h => (by cases h)⟩, HF.out.kp⟩⟩, ?_⟩
    · show DRaw _ q L ((bs.length : Nat) : Int) false ar kp
      rw [HE.out]
      exact ((HR.out.set2 false).drewN k4).set1 _
    · exact ((dstep _ q 2 _ _).trans (ddrew _ k4 _)).trans (dstep _ q 1 _ _)
end Dk
end Go.Proofs.YtekleamkpfeifaaDoor
