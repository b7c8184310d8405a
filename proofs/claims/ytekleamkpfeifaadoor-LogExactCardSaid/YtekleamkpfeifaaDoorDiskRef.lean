/-
  The page's Disk (hanseref06) in memory; CONTRACTS of its code, Append, Crash, stroke.
-/
import Derived.Test.YtekleamkpfeifaaDoorKB01
import Derived.Test.YtekleamkpfeifaaDoorKB04
import Derived.BigRegion
import Derived.Deep.QuietTactic
import Derived.BigQuiet
import Derived.IntWalk
namespace Go.Proofs.YtekleamkpfeifaaDoor
namespace Dk
open Go.RowKit
/-- The page's Disk at block q, cell by cell. -/
structure QRaw (w : World) (q : Nat) (v : Value) (sf : Int) (dd ar : Bool) (kp : Int) (bs : List Int) : Prop where
  at_ : w.heap[q]? = some (.cells #[v, .int .i64 sf, .bool dd, .bool ar, .int .i64 kp] 29 (0, 0))
  own : w.ownsRow 0 5 1 v bs.length (bs.map (Value.int .u8))
  ne : v.ownBlock ≠ some q
def QObj (w : World) (q : Nat) (fq : List Nat) (s : DSt) (m : Nat) : Prop :=
  ∃ v ar kp, fq = q :: rowOf v ∧ QRaw w q v s.safe s.dead ar kp s.bs ∧ s.trip = (if ar then some kp else none) ∧ s.bs.length ≤ m ∧ ByteList s.bs ∧ s.Ok ∧ -9223372036854775808 ≤ kp ∧ kp ≤ 9223372036854775807
theorem own_cut {w : World} {e : TypeId} {A : Option Addr} {n c j : Nat} {xs : List Value} (h : w.ownsRow 0 e 1 (.slice A n c) n xs) (hj : j ≤ n) : w.ownsRow 0 e 1 (.slice A j c) j (xs.take j) := by
  have hl := h.1
  simp only [Nat.mul_one] at hl
  refine ⟨by rw [List.length_take]; omega, ?_⟩
  rcases h.2 with ⟨hv, hn⟩ | ⟨g, cap, cur, hv, hb, hh, hc, hm, hs, ht⟩
  · left
    injection hv with h1 h2 h3
    exact ⟨by rw [h1, h3, show j = 0 by omega], by omega⟩
  · right
    injection hv with h1 h2 h3
    refine ⟨g, cap, cur, by rw [h1, h3], hb, hh, by omega, hm, hs, ?_⟩
    rw [← ht, List.take_take, Nat.mul_one, Nat.mul_one, Nat.min_eq_left hj]
section
variable {w : World} {q : Nat} {v : Value} {sf kp : Int} {dd ar : Bool} {bs : List Int}
theorem QRaw.put (h : w.heap[q]? = some (.cells #[v, .int .i64 sf, .bool dd, .bool ar, .int .i64 kp] 29 (0, 0))) {v' : Value} {bs' : List Int} (ho : w.ownsRow 0 5 1 v' bs'.length (bs'.map (Value.int .u8))) (hne : v'.ownBlock ≠ some q) : QRaw (w.setCell ⟨q, 0, none⟩ v') q v' sf dd ar kp bs' :=
  ⟨by rw [heap_setCell_same w q 0 _ _ _ h]; rfl, ownsRow_setCell_other ho (a := ⟨q, 0, none⟩) hne _, hne⟩
theorem QRaw.set0 (h : QRaw w q v sf dd ar kp bs) {v' : Value} {bs' : List Int} (ho : w.ownsRow 0 5 1 v' bs'.length (bs'.map (Value.int .u8))) (hne : v'.ownBlock ≠ some q) : QRaw (w.setCell ⟨q, 0, none⟩ v') q v' sf dd ar kp bs' :=
  ⟨by rw [heap_setCell_same w q 0 _ _ _ h.at_]; rfl, ownsRow_setCell_other ho (a := ⟨q, 0, none⟩) hne _, hne⟩
theorem QRaw.set1 (h : QRaw w q v sf dd ar kp bs) (x : Int) : QRaw (w.setCell ⟨q, 1, none⟩ (.int .i64 x)) q v x dd ar kp bs :=
  ⟨by rw [heap_setCell_same w q 1 _ _ _ h.at_]; rfl, ownsRow_setCell_other h.own (a := ⟨q, 1, none⟩) h.ne _, h.ne⟩
theorem QRaw.set2 (h : QRaw w q v sf dd ar kp bs) (x : Bool) : QRaw (w.setCell ⟨q, 2, none⟩ (.bool x)) q v sf x ar kp bs :=
  ⟨by rw [heap_setCell_same w q 2 _ _ _ h.at_]; rfl, ownsRow_setCell_other h.own (a := ⟨q, 2, none⟩) h.ne _, h.ne⟩
theorem QRaw.set3 (h : QRaw w q v sf dd ar kp bs) (x : Bool) : QRaw (w.setCell ⟨q, 3, none⟩ (.bool x)) q v sf dd x kp bs :=
  ⟨by rw [heap_setCell_same w q 3 _ _ _ h.at_]; rfl, ownsRow_setCell_other h.own (a := ⟨q, 3, none⟩) h.ne _, h.ne⟩
theorem QRaw.set4 (h : QRaw w q v sf dd ar kp bs) (x : Int) : QRaw (w.setCell ⟨q, 4, none⟩ (.int .i64 x)) q v sf dd ar x bs :=
  ⟨by rw [heap_setCell_same w q 4 _ _ _ h.at_]; rfl, ownsRow_setCell_other h.own (a := ⟨q, 4, none⟩) h.ne _, h.ne⟩
theorem QRaw.drew (h : QRaw w q v sf dd ar kp bs) : QRaw w.drew q v sf dd ar kp bs := ⟨h.at_, h.own, h.ne⟩
theorem QRaw.drewN (h : QRaw w q v sf dd ar kp bs) (n : Nat) : QRaw (w.drewN n) q v sf dd ar kp bs := ⟨h.at_, h.own, h.ne⟩
end
theorem qstep (w : World) (q i : Nat) (x : Value) (S : List Nat) : Step w (w.setCell ⟨q, i, none⟩ x) (q :: S) (q :: S) := ⟨Moved.setCell (Moved.refl _ _) (.inl (by simp)) _, fun _ h => .inl h⟩
theorem qput {w w1 : World} {v v' : Value} (hst : Step w w1 (rowOf v) (rowOf v')) (q i : Nat) (x : Value) : Step w (w1.setCell ⟨q, i, none⟩ x) (q :: rowOf v) (q :: rowOf v') :=
  ⟨Moved.setCell (hst.1.mono (fun k hk => by simp [hk])) (.inl (by simp)) _, fun k hk => by
    rcases List.mem_cons.1 hk with rfl | hk
    · exact .inl (by simp)
    · rcases hst.2 k hk with h | h
      · exact .inl (by simp [h])
      · exact .inr h⟩
theorem own_same (A : Option Addr) (n m c d : Nat) : (Value.slice A n c).ownBlock = (Value.slice A m d).ownBlock := by cases A <;> rfl
theorem row_same (A : Option Addr) (n m c d : Nat) : rowOf (Value.slice A n c) = rowOf (Value.slice A m d) := by cases A <;> rfl
theorem qdrew (w : World) (n : Nat) (S : List Nat) : Step w (w.drewN n) S S := ⟨(Moved.refl _ _).drewN n, fun _ h => .inl h⟩
theorem QObj.stays {w w' : World} {q : Nat} {fq : List Nat} {s : DSt} {m : Nat} (h : QObj w q fq s m) (hk : ∀ k ∈ fq, w'.heap[k]? = w.heap[k]?) : QObj w' q fq s m := by
  obtain ⟨v, ar, kp, rfl, hr, r⟩ := h
  exact ⟨v, ar, kp, rfl, ⟨by rw [hk q (by simp)]; exact hr.at_, own_stays hr.own (fun k hm => hk k (by simp [hm])), hr.ne⟩, r⟩
theorem QObj.lt {w : World} {q : Nat} {fq : List Nat} {s : DSt} {m : Nat} (h : QObj w q fq s m) : ∀ k ∈ fq, k < w.heap.size := by
  obtain ⟨v, ar, kp, rfl, hr, r⟩ := h
  intro k hk
  rcases List.mem_cons.1 hk with rfl | hk
  · exact lt_of_block hr.at_
  · exact own_lt hr.own k hk
theorem QObj.more {w : World} {q : Nat} {fq : List Nat} {s : DSt} {m m' : Nat} (h : QObj w q fq s m) (hm : m ≤ m') : QObj w q fq s m' := by
  obtain ⟨v, ar, kp, h1, h2, h3, h4, r⟩ := h
  exact ⟨v, ar, kp, h1, h2, h3, Nat.le_trans h4 hm, r⟩
theorem qcode_any (q : Nat) (b : Bool) (w : World) (hc : w.cell? ⟨q, 2, none⟩ = some (.bool b)) :
    Calls Tryd.prog 53 #[.pointer (some ⟨q, 0, none⟩)] w fun r w' => r = .returned (.int .i64 (if b then 7 else 0)) ∧ w = w' := by
  cases b
  · go_enter Tryd.func53, Tryd.ntmps53
    go_wp2
    go_ret
    exact ⟨rfl, rfl⟩
  · go_enter Tryd.func53, Tryd.ntmps53
    go_wp2
    go_ret
    exact ⟨rfl, rfl⟩
set_option maxRecDepth 100000 in
set_option maxHeartbeats 1000000 in
theorem qappend_any (q : Nat) (fq : List Nat) (s : DSt) (m : Nat) (A : Option Addr) (n c : Nat) (ys : List Int) (w : World) (hQ : QObj w q fq s m) (hY : Lent w fq A n c ys) (hm : m + n ≤ 35184372088832) :
    Calls Tryd.prog 24 #[.pointer (some ⟨q, 0, none⟩), .slice A n c] w (Does QObj q fq (s.add ys) (m + n) (.int .i64 s.off) w) := by
  obtain ⟨i0, hi, hz0, hz1, hz2⟩ := info_parts info_u8
  have HQ := Lib.hid hQ
  have HY := Lib.hid hY
  clear hY
  obtain ⟨v, ar, kp, rfl, hr, htr, hbm, hby, hok, hkp⟩ := hQ
  obtain ⟨bs, safe, dead, trip⟩ := s
  cases dead
  · obtain ⟨A0, cp, rfl, -⟩ := own_shape hr.own
    have c0 := cell_at hr.at_ 0 (v := .slice A0 bs.length cp) rfl
    have c2 := cell_at hr.at_ 2 (v := .bool false) rfl
    have HR := Lib.hid hr
    have HT := Lib.hid htr
    have HB := Lib.hid hby
    have HO := Lib.hid hok
    have hbm : bs.length ≤ m := hbm
    clear hr htr hby hok
    go_enter Tryd.func24, Tryd.ntmps24
    go_wp2_with (at_builtin; refine wpList_append_row rfl _ _ 27 rfl 5 i0 .u8 1 Tryd.underlying27 hi hz0 hz1 hz2 (.slice A0 bs.length cp) bs.length _ rfl (by exact HR.out.own) A n c ys rfl HY.out.len HY.out.row HY.out.nil (by unfold maxLen; omega) (by omega) ?_)
    intro v' w1 hown hst
    have hp1 : w1.heap[q]? = some (.cells #[.slice A0 bs.length cp, .int .i64 safe, .bool false, .bool ar, .int .i64 kp] 29 (0, 0)) := by
      rw [hst.1.block q (lt_of_block HR.out.at_) (fun h => HR.out.ne (mem_rowOf.1 h))]; exact HR.out.at_
    have hne : v'.ownBlock ≠ some q := by
      intro h
      rcases hst.2 q (mem_rowOf.2 h) with h' | h'
      · exact HR.out.ne (mem_rowOf.1 h')
      · have := lt_of_block HR.out.at_; omega
    have d0 := cell_at hp1 0 (v := .slice A0 bs.length cp) rfl
    have d2 := cell_at hp1 2 (v := .bool false) rfl
    have g0 := free_at hp1 0
    rw [← List.map_append] at hown
    have HOW := Lib.hid (show w1.ownsRow 0 5 1 v' (bs ++ ys).length ((bs ++ ys).map (Value.int .u8)) by rw [List.length_append, HY.out.len]; exact hown)
    have HP1 := Lib.hid hp1
    have HST := Lib.hid hst
    have HNE := Lib.hid hne
    obtain ⟨A1, c1, rfl, -⟩ := own_shape hown
    clear hown hst hp1 hne c0 c2
    have hc2 : (w1.setCell ⟨q, 0, none⟩ (.slice A1 (bs.length + n) c1)).cell? ⟨q, 2, none⟩ = some (.bool false) := by
      rw [show (w1.setCell ⟨q, 0, none⟩ (.slice A1 (bs.length + n) c1)).cell? ⟨q, 2, none⟩ = _ from cell_of_row _ _ _ _ _ _ (heap_setCell_same w1 q 0 _ _ _ HP1.out)]; rfl
    go_wp2_with (go_at_call 53; refine (qcode_any q false _ hc2).mono ?_; rintro e w2 ⟨rfl, rfl⟩)
    go_ret
    exact ⟨rfl, _, ⟨_, ar, kp, rfl, QRaw.put HP1.out HOW.out HNE.out, HT.out, by rw [show (DSt.add ys ⟨bs, safe, false, trip⟩).bs = bs ++ ys by rfl, List.length_append, HY.out.len]; omega, HB.out.append HY.out.bytes, ⟨by have := HO.out.safe; show safe ≤ (bs ++ ys).length; rw [List.length_append]; exact Nat.le_trans this (Nat.le_add_right _ _), fun h => (by cases h)⟩, hkp⟩, qput HST.out q 0 _⟩
  · have c2 := cell_at hr.at_ 2 (v := .bool true) rfl
    clear hr htr hbm hby hok hkp
    go_enter Tryd.func24, Tryd.ntmps24
    go_wp2_with (go_at_call 53; refine (qcode_any q true _ c2).mono ?_; rintro e w2 ⟨rfl, rfl⟩)
    go_ret
    exact ⟨rfl, _, HQ.out.more (by omega), Step.refl _ _⟩
/-- What a crash with a right keep leaves. -/
theorem qcrash_dead (q : Nat) (fq : List Nat) (s : DSt) (m : Nat) (k : Int) (w : World) (hQ : QObj w q fq s m) (hd : s.dead = true) :
    Calls Tryd.prog 22 #[.pointer (some ⟨q, 0, none⟩), .int .i64 k] w (Does QObj q fq (s.crash k) m (.tuple #[]) w) := by
  have HQ := Lib.hid hQ
  obtain ⟨v, ar, kp, rfl, hr, -⟩ := hQ
  obtain ⟨bs, safe, dead, trip⟩ := s
  obtain rfl : dead = true := hd
  have c2 := cell_at hr.at_ 2 (v := .bool true) rfl
  clear hr
  go_enter Tryd.func22, Tryd.ntmps22
  go_wp2
  go_end0
  exact ⟨rfl, _, HQ.out, Step.refl _ _⟩
set_option maxRecDepth 100000 in
set_option maxHeartbeats 2000000 in
theorem qcrash_live (q : Nat) (fq : List Nat) (bs : List Int) (safe : Nat) (trip : Option Int) (m : Nat) (k : Int) (w : World) (hQ : QObj w q fq ⟨bs, safe, false, trip⟩ m) (hm : m ≤ 35184372088832) :
    Calls Tryd.prog 22 #[.pointer (some ⟨q, 0, none⟩), .int .i64 k] w (Does QObj q fq ⟨left bs safe k, safe, true, none⟩ m (.tuple #[]) w) := by
  obtain ⟨v, ar, kp, rfl, hr, htr, hbm, hby, hok, hkp⟩ := hQ
  have hbm : bs.length ≤ m := hbm
  have hsf : safe ≤ bs.length := hok.safe
  obtain ⟨A0, cp, rfl, hnil, hcp1, hcp2⟩ := own_shape hr.own
  have hcp1 : bs.length ≤ cp := hcp1
  have c0 := cell_at hr.at_ 0 (v := .slice A0 bs.length cp) rfl
  have c1 := cell_at hr.at_ 1 (v := .int .i64 safe) rfl
  have c2 := cell_at hr.at_ 2 (v := .bool false) rfl
  have c3 := cell_at hr.at_ 3 (v := .bool ar) rfl
  have f0 := free_at hr.at_ 0
  have f2 := free_at hr.at_ 2
  have f3 := free_at hr.at_ 3
  have HR := Lib.hid hr
  have HB := Lib.hid hby
  clear hr htr hby hok
  have HRO := Lib.hid (show w.ownsRow 0 5 1 (.slice A0 bs.length cp) bs.length (bs.map (Value.int .u8)) from HR.out.own)
  by_cases hneg : k < 0
  · have HJ : Hid (k.toNat = 0) := by show _ = _; omega
    have e1 : IntKind.i64.wrap ((bs.length : Int) - safe) = (bs.length : Int) - safe := IntWalk.i64_in _ (by omega)
    by_cases hlt : 0 < bs.length - safe
    · have HL : Hid (left bs safe k = bs.take (safe + 0)) := by show left bs safe k = _; rw [left, HJ.out, if_pos hlt]
      have HLN : Hid ((bs.take (safe + 0)).length = safe + 0) := by show _ = _; rw [List.length_take]; omega
      have HCUT := Lib.hid (own_cut HRO.out (j := safe + 0) (by omega))
      have hd : decide (0 < (bs.length : Int) - safe) = true := by simp; omega
      have e2 : IntKind.i64.wrap ((safe : Int) + 0) = ((safe + 0 : Nat) : Int) := by rw [IntWalk.i64_in _ (by omega)]; omega
      have e3 : IntKind.i64.wrap ((safe : Int)) = (safe : Int) := IntWalk.i64_in _ (by omega)
      have e4 : ((safe + 0 : Nat) : Int) ≤ cp := by omega
      have e5 : (0 : Int) ≤ ((safe + 0 : Nat) : Int) := by omega
      go_enter Tryd.func22, Tryd.ntmps22
      go_wp2
      go_quiet (fail)
      go_wp2
      go_region
      all_goals
        go_wp2
        go_end0
        refine ⟨rfl, _, ⟨_, false, kp, rfl, by rw [HL.out]; exact ((((HR.out.drewN _).set0 (v' := .slice A0 (safe + 0) cp) (bs' := bs.take (safe + 0)) (by rw [HLN.out, List.map_take]; exact HCUT.out) (by rw [own_same A0 _ bs.length cp cp]; exact HR.out.ne)).set2 true).set3 false), rfl, ?_, by rw [HL.out]; exact HB.out.take _, ⟨?_, fun _ => rfl⟩, hkp⟩, ?_⟩
        · rw [HL.out, HLN.out]; omega
        · rw [HL.out]; show safe ≤ (bs.take (safe + 0)).length; rw [HLN.out]; omega
        · rw [row_same A0 bs.length (safe + 0) cp cp]; exact (((qdrew w _ _).trans (qstep _ q 0 _ _)).trans (qstep _ q 2 _ _)).trans (qstep _ q 3 _ _)
    · have HL : Hid (left bs safe k = bs) := by show left bs safe k = _; rw [left, HJ.out, if_neg hlt]
      have hd : decide (0 < (bs.length : Int) - safe) = false := by simp; omega
      go_enter Tryd.func22, Tryd.ntmps22
      go_wp2
      go_quiet (fail)
      go_wp2
      go_end0
      refine ⟨rfl, _, ⟨_, false, kp, rfl, by rw [HL.out]; exact ((HR.out.drewN _).set2 true).set3 false, rfl, ?_, by rw [HL.out]; exact HB.out, ⟨?_, fun _ => rfl⟩, hkp⟩, ?_⟩
      · rw [HL.out]; exact hbm
      · rw [HL.out]; exact hsf
      · exact ((qdrew w _ _).trans (qstep _ q 2 _ _)).trans (qstep _ q 3 _ _)
  · obtain ⟨j, rfl⟩ : ∃ j : Nat, k = j := ⟨k.toNat, by omega⟩
    have HJ : Hid ((j : Int).toNat = j) := Int.toNat_natCast j
    clear hneg
    have e1 : IntKind.i64.wrap ((bs.length : Int) - safe) = (bs.length : Int) - safe := IntWalk.i64_in _ (by omega)
    by_cases hlt : j < bs.length - safe
    · have HL : Hid (left bs safe (j : Int) = bs.take (safe + j)) := by show left bs safe (j : Int) = _; rw [left, HJ.out, if_pos hlt]
      have HLN : Hid ((bs.take (safe + j)).length = safe + j) := by show _ = _; rw [List.length_take]; omega
      have HCUT := Lib.hid (own_cut HRO.out (j := safe + j) (by omega))
      have hd : decide ((j : Int) < (bs.length : Int) - safe) = true := by simp; omega
      have e2 : IntKind.i64.wrap ((safe : Int) + (j : Int)) = ((safe + j : Nat) : Int) := by rw [IntWalk.i64_in _ (by omega)]; omega
      have e3 : IntKind.i64.wrap ((safe : Int)) = (safe : Int) := IntWalk.i64_in _ (by omega)
      have e4 : ((safe + j : Nat) : Int) ≤ cp := by omega
      have e5 : (0 : Int) ≤ ((safe + j : Nat) : Int) := by omega
      go_enter Tryd.func22, Tryd.ntmps22
      go_wp2
      go_quiet (fail)
      go_wp2
      go_region
      all_goals
        go_wp2
        go_end0
        refine ⟨rfl, _, ⟨_, false, kp, rfl, by rw [HL.out]; exact ((((HR.out.drewN _).set0 (v' := .slice A0 (safe + j) cp) (bs' := bs.take (safe + j)) (by rw [HLN.out, List.map_take]; exact HCUT.out) (by rw [own_same A0 _ bs.length cp cp]; exact HR.out.ne)).set2 true).set3 false), rfl, ?_, by rw [HL.out]; exact HB.out.take _, ⟨?_, fun _ => rfl⟩, hkp⟩, ?_⟩
        · rw [HL.out, HLN.out]; omega
        · rw [HL.out]; show safe ≤ (bs.take (safe + j)).length; rw [HLN.out]; omega
        · rw [row_same A0 bs.length (safe + j) cp cp]; exact (((qdrew w _ _).trans (qstep _ q 0 _ _)).trans (qstep _ q 2 _ _)).trans (qstep _ q 3 _ _)
    · have HL : Hid (left bs safe (j : Int) = bs) := by show left bs safe (j : Int) = _; rw [left, HJ.out, if_neg hlt]
      have hd : decide ((j : Int) < (bs.length : Int) - safe) = false := by simp; omega
      go_enter Tryd.func22, Tryd.ntmps22
      go_wp2
      go_quiet (fail)
      go_wp2
      go_end0
      refine ⟨rfl, _, ⟨_, false, kp, rfl, by rw [HL.out]; exact ((HR.out.drewN _).set2 true).set3 false, rfl, ?_, by rw [HL.out]; exact HB.out, ⟨?_, fun _ => rfl⟩, hkp⟩, ?_⟩
      · rw [HL.out]; exact hbm
      · rw [HL.out]; exact hsf
      · exact ((qdrew w _ _).trans (qstep _ q 2 _ _)).trans (qstep _ q 3 _ _)
end Dk
end Go.Proofs.YtekleamkpfeifaaDoor
