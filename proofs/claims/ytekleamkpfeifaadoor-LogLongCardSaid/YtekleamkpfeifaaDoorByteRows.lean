/-
  CONTRACT of hansekeep.Rows.
-/
import Derived.Test.YtekleamkpfeifaaDoorRowWords
import Derived.Deep.QuietTactic
import Derived.BigQuiet
namespace Go.Proofs.YtekleamkpfeifaaDoor
open Go.RowKit
theorem rows_step {ps qs : List (List Int)} {i : Nat} {p q : List Int} (hp : ps[i]? = some p) (hq : qs[i]? = some q) : decide (ps.drop i = qs.drop i) = (decide (p = q) && decide (ps.drop (i + 1) = qs.drop (i + 1))) := by
  obtain ⟨h1, rfl⟩ := List.getElem?_eq_some_iff.1 hp
  obtain ⟨h2, rfl⟩ := List.getElem?_eq_some_iff.1 hq
  rw [List.drop_eq_getElem_cons h1, List.drop_eq_getElem_cons h2, Bool.eq_iff_iff]
  simp only [decide_eq_true_eq, Bool.and_eq_true, List.cons.injEq]
set_option maxRecDepth 100000 in
set_option maxHeartbeats 1000000 in
theorem rows_any (A B : Option Addr) (n m c d : Nat) (vs us : List Value) (ps qs : List (List Int)) (w : World) (hA : BRows w A vs ps) (hB : BRows w B us qs) (hn : ps.length = n) (hm : qs.length = m) (hp : ∀ p ∈ ps, ByteList p) (hq : ∀ p ∈ qs, ByteList p) (hl : n ≤ 9223372036854775807) (hl2 : m ≤ 9223372036854775807) :
    Calls Tryd.prog 36 #[.slice A n c, .slice B m d] w fun e w' => e = .returned (.bool (decide (ps = qs))) ∧ ∃ k, w' = w.drewN k := by
  subst hn
  subst hm
  by_cases hne : ps.length = qs.length
  · have HA := Lib.hid hA
    have HB := Lib.hid hB
    have HP := Lib.hid hp
    have HQ := Lib.hid hq
    have HNE := Lib.hid hne
    clear hA hB hp hq
    rw [hne]
    clear hne
    go_enter Tryd.func36, Tryd.ntmps36
    go_wp2
    go_loopw [5] (fun i wr => ∃ k : Nat, i = .int .i64 k ∧ k ≤ qs.length ∧ Hid (decide (ps = qs) = decide (ps.drop k = qs.drop k)) ∧ ∃ n, wr = w.drewN n) (fun i _ => qs.length - (intOf i).toNat)
    case atStart => exact ⟨0, rfl, by omega, rfl, 0, rfl⟩
    case round =>
      obtain ⟨k, rfl, hk, H, nd, rfl⟩ := hrel
      by_cases hlt : k < qs.length
      · obtain ⟨b1, o1, B1, c1, p, rfl, hp1, hc1, hr1, -⟩ := HA.out.at_ (i := k) (by rw [HNE.out]; exact hlt)
        obtain ⟨b2, o2, B2, c2, q, rfl, hq1, hc2, hr2, -⟩ := HB.out.at_ (i := k) hlt
        have HN := Lib.hid (H.out.trans (rows_step hp1 hq1))
        have HBP := Lib.hid (HP.out p (List.mem_of_getElem? hp1))
        have HBQ := Lib.hid (HQ.out q (List.mem_of_getElem? hq1))
        have HR1 := Lib.hid hr1
        have HR2 := Lib.hid hr2
        clear hp1 hq1 hr1 hr2 H
        by_cases heq : p = q
        · have hd : decide (p = q) = true := by simpa using heq
          have HN2 := Lib.hid (HN.out.trans (by rw [hd, Bool.true_and]))
          clear HN hd
          have HEQ := Lib.hid heq
          clear heq
          go_wp2
          go_quiet ((go_at_call 31; exact calls_still (bytes_is _ _ _ _ _ _ p q _ (HR1.out.drewN _) (HR2.out.drewN _) rfl rfl HBP.out HBQ.out true (by simpa using HEQ.out))))
          go_wp2
          go_roundw
          case rel => exact ⟨k + 1, by go_num, by omega, HN2, _, rfl⟩
          case measure => simp [intOf]; omega
        · have hd : decide (p = q) = false := by simpa using heq
          have HN2 := Lib.hid (HN.out.trans (by rw [hd, Bool.false_and]))
          clear HN hd
          have HEQ := Lib.hid heq
          clear heq
          go_wp2
          go_quiet ((go_at_call 31; exact calls_still (bytes_is _ _ _ _ _ _ p q _ (HR1.out.drewN _) (HR2.out.drewN _) rfl rfl HBP.out HBQ.out false (by simpa using HEQ.out))))
          go_wp2
          go_ret
          exact ⟨by rw [HN2.out]; rfl, _, by rw [World.drewN_drewN]⟩
      · have HE := Lib.hid (H.out.trans (by rw [List.drop_of_length_le (by rw [HNE.out]; omega), List.drop_of_length_le (by omega)]; simp) : decide (ps = qs) = true)
        go_wp2
        go_ret
        exact ⟨by rw [HE.out]; rfl, _, rfl⟩
  · have HE := Lib.hid (show decide (ps = qs) = false by simpa using fun h => hne (by rw [h]))
    have hne2 : ((ps.length : Int) == (qs.length : Int)) = false := by rw [beq_eq_false_iff_ne]; omega
    have hne3 : ((ps.length : Int) != (qs.length : Int)) = true := by simpa using fun h => hne (by omega)
    clear hA hB hp hq hne
    go_enter Tryd.func36, Tryd.ntmps36
    go_wp2
    go_ret
    exact ⟨by rw [HE.out]; rfl, 0, rfl⟩
end Go.Proofs.YtekleamkpfeifaaDoor
