/-
  CONTRACTS of the page's Disk (hanseref06): stroke, Sync, Cut, Swap, Read, Trip, Start.
-/
import Derived.Test.YtekleamkpfeifaaDoorDiskRef
namespace Go.Proofs.YtekleamkpfeifaaDoor
namespace Dk
open Go.RowKit
theorem qstroke_no (q : Nat) (fq : List Nat) (bs : List Int) (safe : Nat) (kk : Int) (m : Nat) (w : World) (hQ : QObj w q fq ⟨bs, safe, false, some kk⟩ m) (hm : m ≤ 35184372088832) :
    Calls Tryd.prog 45 #[.pointer (some ⟨q, 0, none⟩)] w (Does QObj q fq ⟨left bs safe kk, safe, true, none⟩ m (.bool false) w) := by
  have HQ := Lib.hid hQ
  obtain ⟨v, ar, kp, rfl, hr, htr, -⟩ := hQ
  obtain rfl : ar = true := by cases ar; (simp at htr); rfl
  obtain rfl : kk = kp := by simpa using htr
  have c3 := cell_at hr.at_ 3 (v := .bool true) rfl
  have c4 := cell_at hr.at_ 4 (v := .int .i64 kk) rfl
  clear hr htr
  go_enter Tryd.func45, Tryd.ntmps45
  go_wp2_with (go_at_call 22; refine (qcrash_live q _ bs safe _ m kk _ HQ.out hm).mono ?_; rintro e w1 ⟨rfl, f1, h1, hS1⟩; have H1 := Lib.hid h1; have HS1 := Lib.hid hS1; clear h1 hS1)
  go_ret
  exact ⟨rfl, f1, H1.out, HS1.out⟩
theorem qstroke_yes (q : Nat) (fq : List Nat) (bs : List Int) (safe : Nat) (m : Nat) (w : World) (hQ : QObj w q fq ⟨bs, safe, false, none⟩ m) :
    Calls Tryd.prog 45 #[.pointer (some ⟨q, 0, none⟩)] w fun r w' => r = .returned (.bool true) ∧ w = w' := by
  obtain ⟨v, ar, kp, rfl, hr, htr, -⟩ := hQ
  obtain rfl : ar = false := by cases ar; rfl; (simp at htr)
  have c3 := cell_at hr.at_ 3 (v := .bool false) rfl
  clear hr htr
  go_enter Tryd.func45, Tryd.ntmps45
  go_wp2
  go_ret
  exact ⟨rfl, rfl⟩
/-- The cells of the page's Disk with the power on and nothing tripped. -/
theorem q_open {w : World} {q : Nat} {fq : List Nat} {bs : List Int} {safe m : Nat} {dd : Bool} {tr : Option Int} (hQ : QObj w q fq ⟨bs, safe, dd, tr⟩ m) :
    ∃ A c ar kp, fq = q :: rowOf (.slice A bs.length c) ∧ QRaw w q (.slice A bs.length c) safe dd ar kp bs ∧ tr = (if ar then some kp else none) ∧ bs.length ≤ m ∧ ByteList bs ∧ safe ≤ bs.length ∧ (dd = true → tr = none) ∧ (-9223372036854775808 ≤ kp ∧ kp ≤ 9223372036854775807) ∧ (A = none → c = 0) ∧ bs.length ≤ c ∧ c ≤ 9223372036854775807 := by
  obtain ⟨v, ar, kp, rfl, hr, htr, hbm, hby, hok, hkp⟩ := hQ
  obtain ⟨A, c, rfl, h1, h2⟩ := own_shape hr.own
  exact ⟨A, c, ar, kp, rfl, hr, htr, hbm, hby, hok.safe, hok.calm, hkp, h1, h2⟩
set_option maxRecDepth 100000 in
set_option maxHeartbeats 1000000 in
theorem qsync_any (q : Nat) (fq : List Nat) (s : DSt) (m : Nat) (w : World) (hQ : QObj w q fq s m) (hm : m ≤ 35184372088832) :
    Calls Tryd.prog 16 #[.pointer (some ⟨q, 0, none⟩)] w (Does QObj q fq s.sync.2 m (.int .i64 s.sync.1) w) := by
  have HQ := Lib.hid hQ
  obtain ⟨bs, safe, dead, trip⟩ := s
  obtain ⟨A, c, ar, kp, hfq, hr, htr, hbm, hby, hsf, hcalm, hkp, hnil, hcp⟩ := q_open hQ
  have c2 := cell_at hr.at_ 2 (v := .bool dead) rfl
  cases dead
  · cases trip with
    | some kk =>
      clear hr htr hby hcalm
      go_enter Tryd.func16, Tryd.ntmps16
      go_wp2_with (go_at_call 45; refine (qstroke_no q _ bs safe kk m _ HQ.out hm).mono ?_; rintro e w1 ⟨rfl, f1, h1, hS1⟩; have H1 := Lib.hid h1; have HS1 := Lib.hid hS1; clear h1 hS1)
      go_ret
      exact ⟨rfl, f1, H1.out, HS1.out⟩
    | none =>
      have c0 := cell_at hr.at_ 0 (v := .slice A bs.length c) rfl
      have c1 := cell_at hr.at_ 1 (v := .int .i64 safe) rfl
      have f1 := free_at hr.at_ 1
      have HR := Lib.hid hr
      have HT := Lib.hid htr
      have HB := Lib.hid hby
      subst hfq
      clear hr htr hby hcalm
      go_enter Tryd.func16, Tryd.ntmps16
      go_wp2_with (go_at_call 45; refine (qstroke_yes q _ bs safe m _ HQ.out).mono ?_; rintro e w1 ⟨rfl, rfl⟩)
      go_ret
      exact ⟨rfl, _, ⟨_, ar, kp, rfl, HR.out.set1 _, HT.out, hbm, HB.out, ⟨Nat.le_refl _, fun h => (by cases h)⟩, hkp⟩, qstep _ q 1 _ _⟩
  · clear hr htr hby hcalm
    go_enter Tryd.func16, Tryd.ntmps16
    go_wp2
    go_ret
    exact ⟨rfl, _, HQ.out, Step.refl _ _⟩
set_option maxRecDepth 100000 in
set_option maxHeartbeats 1000000 in
theorem qswap_any (q : Nat) (fq : List Nat) (s : DSt) (m : Nat) (A1 : Option Addr) (n c1 : Nat) (ys : List Int) (w : World) (hQ : QObj w q fq s m) (hY : Lent w fq A1 n c1 ys) (hm : m + n ≤ 35184372088832) :
    Calls Tryd.prog 49 #[.pointer (some ⟨q, 0, none⟩), .slice A1 n c1] w (Does QObj q fq (s.swap ys).2 (m + n) (.int .i64 (s.swap ys).1) w) := by
  obtain ⟨i0, hi, hz0, hz1, hz2⟩ := info_parts info_u8
  have HQ := Lib.hid hQ
  have HY := Lib.hid hY
  clear hY
  obtain ⟨bs, safe, dead, trip⟩ := s
  obtain ⟨A, c, ar, kp, hfq, hr, htr, hbm, hby, hsf, hcalm, hkp, hnil, hcp⟩ := q_open hQ
  have c2 := cell_at hr.at_ 2 (v := .bool dead) rfl
  cases dead
  · cases trip with
    | some kk =>
      clear hr htr hby hcalm
      go_enter Tryd.func49, Tryd.ntmps49
      go_wp2_with (go_at_call 45; refine (qstroke_no q _ bs safe kk m _ HQ.out (by omega)).mono ?_; rintro e w1 ⟨rfl, f1, h1, hS1⟩; have H1 := Lib.hid h1; have HS1 := Lib.hid hS1; clear h1 hS1)
      go_ret
      exact ⟨rfl, f1, H1.out.more (by omega), HS1.out⟩
    | none =>
      have HR := Lib.hid hr
      have HT := Lib.hid htr
      subst hfq
      clear hr htr hby hcalm
      go_enter Tryd.func49, Tryd.ntmps49
      go_wp2_with (first
        | (go_at_call 45; refine (qstroke_yes q _ bs safe m _ HQ.out).mono ?_; rintro e w1 ⟨rfl, rfl⟩)
        | (at_builtin; refine wpList_append_row rfl _ _ 27 rfl 5 i0 .u8 1 Tryd.underlying27 hi hz0 hz1 hz2 (.slice none 0 0) 0 [] rfl (World.ownsRow_nil _ _ _ _) A1 n c1 ys rfl HY.out.len HY.out.row HY.out.nil (by unfold maxLen; omega) (by omega) ?_))
      intro v' w1 hown hst
      have hp1 : w1.heap[q]? = some (.cells #[.slice A bs.length c, .int .i64 safe, .bool false, .bool ar, .int .i64 kp] 29 (0, 0)) := by
        rw [hst.1.block q (lt_of_block HR.out.at_) (by simp [rowOf, Value.ownBlock])]; exact HR.out.at_
      have hne : v'.ownBlock ≠ some q := by
        intro h
        rcases hst.2 q (mem_rowOf.2 h) with h' | h'
        · simp [rowOf, Value.ownBlock] at h'
        · have := lt_of_block HR.out.at_; omega
      have d0 := cell_at hp1 0 (v := .slice A bs.length c) rfl
      have d1 := cell_at hp1 1 (v := .int .i64 safe) rfl
      have g0 := free_at hp1 0
      have g1 := free_at hp1 1
      have HOW := Lib.hid (show w1.ownsRow 0 5 1 v' ys.length (ys.map (Value.int .u8)) by rw [HY.out.len]; simpa using hown)
      have HP1 := Lib.hid hp1
      have HST := Lib.hid hst
      have HNE := Lib.hid hne
      obtain ⟨A3, c3, rfl, -⟩ := own_shape hown
      clear hown hst hp1 hne c2
      go_wp2
      go_ret
      have R := (QRaw.put HP1.out HOW.out HNE.out).set1 n
      have hmv : Step w w1 (rowOf (.slice A bs.length c)) (rowOf (.slice A3 n c3)) := ⟨HST.out.1.mono (by simp [rowOf, Value.ownBlock]), fun k hk => (HST.out.2 k hk).elim (fun h => by simp [rowOf, Value.ownBlock] at h) .inr⟩
      exact ⟨rfl, _, ⟨_, ar, kp, rfl, by rw [show ((((DSt.swap ys ⟨bs, safe, false, none⟩).2).safe : Nat) : Int) = (n : Int) by rw [← HY.out.len]; rfl]; exact R, HT.out, by show ys.length ≤ _; rw [HY.out.len]; omega, HY.out.bytes, ⟨Nat.le_refl _, fun h => (by cases h)⟩, hkp⟩, (qput hmv q 0 _).trans (qstep _ q 1 _ _)⟩
  · clear hr htr hby hcalm
    go_enter Tryd.func49, Tryd.ntmps49
    go_wp2
    go_ret
    exact ⟨rfl, _, HQ.out.more (by omega), Step.refl _ _⟩
set_option maxRecDepth 100000 in
set_option maxHeartbeats 1000000 in
theorem qcut_any (q : Nat) (fq : List Nat) (s : DSt) (m : Nat) (n : Int) (w : World) (hQ : QObj w q fq s m) (hm : m ≤ 35184372088832) (h0 : -9223372036854775808 ≤ n) (h1 : n ≤ 9223372036854775807) :
    Calls Tryd.prog 61 #[.pointer (some ⟨q, 0, none⟩), .int .i64 n] w (Does QObj q fq (s.cut n).2 m (.int .i64 (s.cut n).1) w) := by
  have HQ := Lib.hid hQ
  obtain ⟨bs, safe, dead, trip⟩ := s
  obtain ⟨A, c, ar, kp, hfq, hr, htr, hbm, hby, hsf, hcalm, hkp, hnil, hcp⟩ := q_open hQ
  have HFQ := Lib.hid hfq
  clear hfq
  have c0 := cell_at hr.at_ 0 (v := .slice A bs.length c) rfl
  have c2 := cell_at hr.at_ 2 (v := .bool dead) rfl
  cases dead
  · by_cases hn : n < 0
    · have HC : Hid (DSt.cut n ⟨bs, safe, false, trip⟩ = (9, ⟨bs, safe, false, trip⟩)) := by show _ = _; simp [DSt.cut, hn]
      clear hr htr hby hcalm
      go_enter Tryd.func61, Tryd.ntmps61
      go_wp2
      go_ret
      exact ⟨by rw [HC.out]; rfl, _, by rw [HC.out]; exact HQ.out, Step.refl _ _⟩
    obtain ⟨j, rfl⟩ : ∃ j : Nat, n = j := ⟨n.toNat, by omega⟩
    by_cases hn2 : bs.length < j
    · have HC : Hid (DSt.cut j ⟨bs, safe, false, trip⟩ = (9, ⟨bs, safe, false, trip⟩)) := by show _ = _; simp [DSt.cut]; omega
      have hd : decide (bs.length < j) = true := by simpa using hn2
      clear hr htr hby hcalm
      go_enter Tryd.func61, Tryd.ntmps61
      go_wp2
      go_ret
      exact ⟨by rw [HC.out]; rfl, _, by rw [HC.out]; exact HQ.out, Step.refl _ _⟩
    have hd : decide (bs.length < j) = false := by simpa using hn2
    cases trip with
    | some kk =>
      have HC : Hid (DSt.cut j ⟨bs, safe, false, some kk⟩ = (7, ⟨left bs safe kk, safe, true, none⟩)) := by show _ = _; simp [DSt.cut, DSt.stroke, DSt.crash]; omega
      clear hr htr hby hcalm
      go_enter Tryd.func61, Tryd.ntmps61
      go_wp2_with (go_at_call 45; refine (qstroke_no q _ bs safe kk m _ HQ.out (by omega)).mono ?_; rintro e w1 ⟨rfl, f1, h1, hS1⟩; have H1 := Lib.hid h1; have HS1 := Lib.hid hS1; clear h1 hS1)
      go_ret
      exact ⟨by rw [HC.out]; rfl, f1, by rw [HC.out]; exact H1.out, HS1.out⟩
    | none =>
      have HC : Hid (DSt.cut j ⟨bs, safe, false, none⟩ = (0, ⟨bs.take j, j, false, none⟩)) := by show _ = _; simp [DSt.cut, DSt.stroke]; omega
      have HLN : Hid ((bs.take j).length = j) := by show _ = _; rw [List.length_take]; omega
      have HCUT := Lib.hid (own_cut (show w.ownsRow 0 5 1 (.slice A bs.length c) bs.length (bs.map (Value.int .u8)) from hr.own) (j := j) (by omega))
      have c1 := cell_at hr.at_ 1 (v := .int .i64 safe) rfl
      have f0 := free_at hr.at_ 0
      have f1 := free_at hr.at_ 1
      have hjc : (j : Int) ≤ c := by omega
      have HR := Lib.hid hr
      have HT := Lib.hid htr
      have HB := Lib.hid hby
      obtain rfl := HFQ.out
      clear hr htr hby hcalm
      go_enter Tryd.func61, Tryd.ntmps61
      go_wp2_with (go_at_call 45; refine (qstroke_yes q _ bs safe m _ HQ.out).mono ?_; rintro e w1 ⟨rfl, rfl⟩)
      go_ret
      rw [HC.out]
      exact ⟨rfl, _, ⟨_, ar, kp, rfl, (HR.out.set0 (v' := .slice A j c) (bs' := bs.take j) (by rw [HLN.out, List.map_take]; exact HCUT.out) (by rw [own_same A _ bs.length c c]; exact HR.out.ne)).set1 _, HT.out, by show (bs.take j).length ≤ m; rw [HLN.out]; omega, HB.out.take _, ⟨by show j ≤ (bs.take j).length; rw [HLN.out]; exact Nat.le_refl _, fun h => (by cases h)⟩, hkp⟩, by rw [row_same A j bs.length c c]; exact (qstep _ q 0 _ _).trans (qstep _ q 1 _ _)⟩
  · clear hr htr hby hcalm
    go_enter Tryd.func61, Tryd.ntmps61
    go_wp2
    go_ret
    exact ⟨rfl, _, HQ.out, Step.refl _ _⟩
/-- New bytes and an error are answered; all that was there stays. -/
def QRead (s : DSt) (w : World) (r : Ending) (w' : World) : Prop :=
  ∃ v, r = .returned (.tuple #[v, .int .i64 s.off]) ∧ w'.ownsRow 0 5 1 v s.read.length (s.read.map (Value.int .u8)) ∧ Step w w' [] (rowOf v)
set_option maxRecDepth 100000 in
set_option maxHeartbeats 1000000 in
theorem qread_any (q : Nat) (fq : List Nat) (s : DSt) (m : Nat) (w : World) (hQ : QObj w q fq s m) (hm : m ≤ 35184372088832) :
    Calls Tryd.prog 30 #[.pointer (some ⟨q, 0, none⟩)] w (QRead s w) := by
  obtain ⟨i0, hi, hz0, hz1, hz2⟩ := info_parts info_u8
  obtain ⟨bs, safe, dead, trip⟩ := s
  obtain ⟨A, c, ar, kp, hfq, hr, htr, hbm, hby, hsf, hcalm, hkp, hnil, hcp⟩ := q_open hQ
  have c0 := cell_at hr.at_ 0 (v := .slice A bs.length c) rfl
  have c2 := cell_at hr.at_ 2 (v := .bool dead) rfl
  have HNR := Lib.hid (NRow.of_own (show w.ownsRow 0 5 1 (.slice A bs.length c) bs.length (bs.map (Value.int .u8)) from hr.own))
  have HNIL := Lib.hid hnil
  clear hr htr hby hcalm hQ hnil
  cases dead
  · go_enter Tryd.func30, Tryd.ntmps30
    go_wp2_with (at_builtin; refine wpList_append_row rfl _ _ 27 rfl 5 i0 .u8 1 Tryd.underlying27 hi hz0 hz1 hz2 (.slice none 0 0) 0 [] rfl (World.ownsRow_nil _ _ _ _) A bs.length c bs rfl rfl HNR.out HNIL.out (by unfold maxLen; omega) (by omega) ?_)
    intro v' w1 hown hst
    have HO := Lib.hid hown
    have HST := Lib.hid hst
    clear hown hst
    go_wp2
    go_ret2
    exact ⟨v', rfl, by simpa [DSt.read] using HO.out, HST.out⟩
  · go_enter Tryd.func30, Tryd.ntmps30
    go_wp2
    go_ret2
    exact ⟨_, rfl, World.ownsRow_nil _ _ _ _, Moved.refl _ _, by simp [rowOf, Value.ownBlock]⟩
set_option maxRecDepth 100000 in
theorem qtrip_any (q : Nat) (fq : List Nat) (s : DSt) (m : Nat) (k : Int) (w : World) (hQ : QObj w q fq s m) (h0 : -9223372036854775808 ≤ k) (h1 : k ≤ 9223372036854775807) :
    Calls Tryd.prog 20 #[.pointer (some ⟨q, 0, none⟩), .int .i64 k] w (Does QObj q fq (s.arm k) m (.tuple #[]) w) := by
  have HQ := Lib.hid hQ
  obtain ⟨bs, safe, dead, trip⟩ := s
  obtain ⟨A, c, ar, kp, hfq, hr, htr, hbm, hby, hsf, hcalm, hkp, hnil, hcp⟩ := q_open hQ
  have c2 := cell_at hr.at_ 2 (v := .bool dead) rfl
  have c3 := cell_at hr.at_ 3 (v := .bool ar) rfl
  have c4 := cell_at hr.at_ 4 (v := .int .i64 kp) rfl
  have f3 := free_at hr.at_ 3
  have f4 := free_at hr.at_ 4
  have HR := Lib.hid hr
  have HB := Lib.hid hby
  subst hfq
  clear hr htr hby hcalm hnil hQ
  cases dead
  · go_enter Tryd.func20, Tryd.ntmps20
    go_wp2
    go_end0
    exact ⟨rfl, _, ⟨_, true, k, rfl, (HR.out.set3 true).set4 k, rfl, hbm, HB.out, ⟨hsf, fun h => (by cases h)⟩, h0, h1⟩, (qstep _ q 3 _ _).trans (qstep _ q 4 _ _)⟩
  · go_enter Tryd.func20, Tryd.ntmps20
    go_wp2
    go_end0
    exact ⟨rfl, _, HQ.out, Step.refl _ _⟩
set_option maxRecDepth 100000 in
theorem qstart_any (q : Nat) (fq : List Nat) (s : DSt) (m : Nat) (w : World) (hQ : QObj w q fq s m) (_hm : m ≤ 35184372088832) :
    Calls Tryd.prog 41 #[.pointer (some ⟨q, 0, none⟩)] w (Does QObj q fq s.start m (.tuple #[]) w) := by
  have HQ := Lib.hid hQ
  obtain ⟨bs, safe, dead, trip⟩ := s
  obtain ⟨A, c, ar, kp, hfq, hr, htr, hbm, hby, hsf, hcalm, hkp, hnil, hcp⟩ := q_open hQ
  have c0 := cell_at hr.at_ 0 (v := .slice A bs.length c) rfl
  have c1 := cell_at hr.at_ 1 (v := .int .i64 safe) rfl
  have c2 := cell_at hr.at_ 2 (v := .bool dead) rfl
  have f1 := free_at hr.at_ 1
  have f2 := free_at hr.at_ 2
  have HR := Lib.hid hr
  have HT := Lib.hid htr
  have HB := Lib.hid hby
  subst hfq
  clear hr htr hby hcalm hnil hQ
  cases dead
  · go_enter Tryd.func41, Tryd.ntmps41
    go_wp2
    go_end0
    exact ⟨rfl, _, HQ.out, Step.refl _ _⟩
  · go_enter Tryd.func41, Tryd.ntmps41
    go_wp2
    go_end0
    exact ⟨rfl, _, ⟨_, ar, kp, rfl, (HR.out.set2 false).set1 _, HT.out, hbm, HB.out, ⟨Nat.le_refl _, fun h => (by cases h)⟩, hkp⟩, (qstep _ q 2 _ _).trans (qstep _ q 1 _ _)⟩
theorem qcrash_any (q : Nat) (fq : List Nat) (s : DSt) (m : Nat) (k : Int) (w : World) (hQ : QObj w q fq s m) (hm : m ≤ 35184372088832) :
    Calls Tryd.prog 22 #[.pointer (some ⟨q, 0, none⟩), .int .i64 k] w (Does QObj q fq (s.crash k) m (.tuple #[]) w) := by
  obtain ⟨bs, safe, dead, trip⟩ := s
  cases dead
  · exact qcrash_live q fq bs safe trip m k w hQ hm
  · exact qcrash_dead q fq _ m k w hQ rfl
theorem qobj_still : ∀ {w w' : World} {p : Nat} {fp : List Nat} {s : DSt} {m : Nat}, QObj w p fp s m → (∀ k ∈ fp, w'.heap[k]? = w.heap[k]?) → QObj w' p fp s m := QObj.stays
theorem qobj_new (w : World) : QObj (w.alloc (.cells #[.slice none 0 0, .int .i64 0, .bool false, .bool false, .int .i64 0] 29)) w.heap.size [w.heap.size] ⟨[], 0, false, none⟩ 0 :=
  ⟨.slice none 0 0, false, 0, by simp [rowOf, Value.ownBlock], ⟨heap_alloc_new w _, World.ownsRow_nil _ _ _ _, by simp [Value.ownBlock]⟩, rfl, Nat.le_refl _, ByteList.nil, ⟨Nat.le_refl _, fun _ => rfl⟩, by omega, by omega⟩
end Dk
end Go.Proofs.YtekleamkpfeifaaDoor
