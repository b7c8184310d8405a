/-
  hanselaw11's RankCharges, walked.
-/
import Derived.Test.YtpaklljcbmimfaaRankCharges
namespace Go.Proofs.Ytpaklljcbmimfaa
namespace Rk
open Go.RowKit
set_option maxRecDepth 100000 in
set_option maxHeartbeats 4000000 in
theorem charges_any (L : Laws) (n s t : Int) (A : Option Addr) (m c : Nat) (cs : List U) (w : World) (hA : Row w A cs) (hm : cs.length = m) (hm1 : m ≤ 9223372036854775807) :
    Calls Try.prog 3 #[.int .i64 n, .int .i64 s, .int .i64 t, .slice A m c] w fun e w' => e = .returned (.bool true) ∧ Moved w w' [] := by
  by_cases hbig : 60 < m
  · go_enter Try.func3, Try.ntmps3
    go_wp2
    go_ret
    exact ⟨rfl, Moved.refl w []⟩
  · have HA := Lib.hid hA
    have HMM := Lib.hid hm
    clear hA hm
    go_enter Try.func3, Try.ntmps3
    go_wp2
    go_loopw [9, 10] (fun v i wr => ∃ (k : Nat) (l : List U), i = .int .i64 k ∧ k ≤ m ∧ Hid (Reads wr v l) ∧ Hid (Right l) ∧ Hid (Moved w wr [])) (fun _ i _ => m - (intOf i).toNat)
    case atStart => exact ⟨0, [], rfl, by omega, Reads.nil w, trivial, Moved.refl w []⟩
    case round =>
      obtain ⟨k, l, rfl, hk, HR, HL, HM⟩ := hrel
      by_cases hlt : k < m
      · obtain ⟨x, hx⟩ : ∃ x, cs[k]? = some x := ⟨cs[k]'(by have := HMM.out; omega), List.getElem?_eq_getElem _⟩
        obtain ⟨g, off, rfl, c1, c2, c3⟩ := (HA.out.still HM.out) k x hx
        have z1 : (k : Int) < (m : Int) := by omega
        have HC := Lib.hid (fun w' (h : Moved wr w' []) => L.charge u9 l x.u x.s x.t w' (HR.out.still h) HL.out)
        obtain ⟨a, ha⟩ : ∃ a, a = x.u := ⟨_, rfl⟩
        obtain ⟨b, hb⟩ : ∃ b, b = x.s := ⟨_, rfl⟩
        obtain ⟨e, he⟩ : ∃ e, e = x.t := ⟨_, rfl⟩
        rw [← ha] at c1 HC
        rw [← hb] at c2 HC
        rw [← he] at c3 HC
        clear hx ha hb he
        go_wp2
        go_region_held3 (fun w' => w'.cell? ⟨g, off + k * 3, none⟩ = some (.int .i64 a) ∧ w'.cell? ⟨g, off + k * 3 + 1, none⟩ = some (.int .i64 b) ∧ w'.cell? ⟨g, off + k * 3 + 2, none⟩ = some (.int .i64 e)) (first | exact ⟨cell_same HM2.out c1, cell_same HM2.out c2, cell_same HM2.out c3⟩ | go_keep) ((go_at_call 4; (with_reducible refine (HC.out _ (by exact (Moved.refl wr []).drew)).mono ?_); rintro r w2 ⟨v2, q2, rfl, hM2, hch⟩; have HM2 := Lib.hid hM2; have HCH := Lib.hid hch; clear hM2 hch))
        have HM3 := Lib.hid (HM.out.trans ((Moved.refl wr []).drew.trans HM2.out (fun _ h => by cases h)) (fun _ h => by cases h) : Moved w w2 [])
        rcases HCH.out with ⟨hq, B, cc, rfl⟩ | ⟨rfl, n0, n1, s0, t0, t1, S, hs1, hs2, hrd⟩
        · have hq2 : (q2 == 0) = false := by simpa using hq
          have HRN := Lib.hid (HR.out.still ((Moved.refl wr []).drew.trans HM2.out (fun _ h => by cases h)) : Reads w2 u9 l)
          clear hq
          go_wp2
          go_round
          case rel => exact ⟨k + 1, l, by go_num, by omega, HRN.out, HL.out, HM3.out⟩
          case measure => simp [intOf]; omega
        · have HRN := Lib.hid hrd
          have HLN := Lib.hid (right_put (x := ⟨a, S, e⟩) HL.out n0 n1 (Int.le_trans s0 hs1) hs2 t0 t1)
          clear hrd
          go_wp2
          go_round
          case rel => exact ⟨k + 1, _, by go_num, by omega, HRN.out, HLN.out, HM3.out⟩
          case measure => simp [intOf]; omega
      · obtain rfl : k = m := by omega
        go_wp2_with fail
        refine (refUses_any _ l _ HR.out HL.out).mono ?_
        rintro r w2 ⟨rfl, rfl⟩
        go_wp2_with fail
        refine (L.charge _ l n s t _ HR.out HL.out).mono ?_
        rintro r w2 ⟨v2, q2, rfl, hM2, hch⟩
        have HM2 := Lib.hid (HM.out.trans hM2 (fun _ h => by cases h) : Moved w w2 [])
        have HR2 := Lib.hid (HR.out.still hM2)
        clear hM2
        rcases hch with ⟨hq, B, cc, rfl⟩ | ⟨rfl, n0, n1, s0, t0, t1, S, hs1, hs2, hrd⟩
        · have hq2 : (q2 == 0) = false := by simpa using hq
          clear hq
          go_wp2_with fail
          refine (L.wakes _).mono ?_
          rintro r w3 ⟨rfl, hM3⟩
          have HM3 := Lib.hid hM3
          clear hM3
          go_wp2
          go_ret
          exact ⟨rfl, HM2.out.trans HM3.out (fun _ h => by cases h)⟩
        · have HRX := Lib.hid hrd
          have HLX := Lib.hid (right_put (x := ⟨n, S, t⟩) HL.out n0 n1 (Int.le_trans s0 hs1) hs2 t0 t1)
          clear hrd
          go_wp2_with fail
          refine (refUses_any _ _ _ HRX.out HLX.out).mono ?_
          rintro r w3 ⟨rfl, rfl⟩
          obtain ⟨A1, d1, rfl, hr1, hl1, hm1, -⟩ := HR2.out.is
          obtain ⟨A2, d2, rfl, hr2, hl2, hm2, -⟩ := HRX.out.is
          obtain ⟨N, hN⟩ : ∃ N, N = l.length := ⟨_, rfl⟩
          obtain ⟨M, hM⟩ : ∃ M, M = (put l ⟨n, S, t⟩).length := ⟨_, rfl⟩
          rw [← hN] at hl1 ⊢
          rw [← hM] at hl2 ⊢
          have HR1 := Lib.hid hr1
          have HRP := Lib.hid hr2
          have HNN := Lib.hid hN
          have HMP := Lib.hid hM
          have D0 : decide (S < s) = false := decide_eq_false (by omega)
          clear hr1 hr2 hN hM HR HR2 HRX
          go_wp2
          go_loopw [15, 16] (fun a i wr => ∃ k0 i0 z : Nat, a = .int .i64 k0 ∧ i = .int .i64 i0 ∧ i0 ≤ M ∧ k0 ≤ 100 ∧ wr = w2.drewN z ∧ Hid (Skips l n i0 k0)) (fun _ i _ => M - (intOf i).toNat)
          case atStart => exact ⟨0, 0, 0, rfl, rfl, by omega, by omega, rfl, skips_zero l n⟩
          case round =>
            obtain ⟨k0, i0, z, rfl, rfl, hi0, hk0, rfl, HS⟩ := hrel
            by_cases hil : i0 < M
            · obtain ⟨y, hy⟩ : ∃ y, (put l ⟨n, S, t⟩)[i0]? = some y := ⟨(put l ⟨n, S, t⟩)[i0]'(by have := HMP.out; omega), List.getElem?_eq_getElem _⟩
              obtain ⟨g2, o2, rfl, e1, e2, e3⟩ := HRP.out i0 y hy
              have z2 : (i0 : Int) < (M : Int) := by omega
              by_cases hown : i0 = (lo l n).length
              · have hyx := put_own l ⟨n, S, t⟩
                rw [show (lo l (U.mk n S t).u).length = i0 from hown.symm, hy] at hyx
                injection hyx with hyx
                subst hyx
                have HS2 : Hid (Skips l n (i0 + 1) k0) := by
                  have h := HS.out
                  rw [hown] at h ⊢
                  exact skips_own HL.out h
                clear hy hown
                go_wp2
                go_round
                case rel => exact ⟨k0, i0 + 1, z, rfl, by go_num, by omega, by omega, rfl, HS2.out⟩
                case measure => simp [intOf]; omega
              · obtain ⟨st1, st2⟩ := stood HL.out hy hown
                obtain ⟨T, hT⟩ : ∃ T, T = tgt l n i0 := ⟨_, rfl⟩
                have st1' : l[T]? = some y := by rw [hT]; exact st1
                have hTN : T < N := by rw [HNN.out]; exact (List.getElem?_eq_some_iff.1 st1').1
                have hN16 : N ≤ 16 := by rw [HNN.out]; exact HL.out.len
                obtain ⟨g1, o1, rfl, f1, f2, f3⟩ := HR1.out T y st1'
                have HSN : Hid (Skips l n (i0 + 1) (T + 1)) := by rw [hT]; exact skips_next hown
                have HSK : Hid (∀ j, k0 ≤ j → j < T → ∃ x, l[j]? = some x ∧ x.u = n) := by rw [hT]; exact HS.out.2
                have hkT : k0 ≤ T := by rw [hT]; exact HS.out.1
                have hyn : (y.u == n) = false := by simpa using st2
                obtain ⟨a, ha⟩ : ∃ a, a = y.u := ⟨_, rfl⟩
                obtain ⟨b, hb⟩ : ∃ b, b = y.s := ⟨_, rfl⟩
                obtain ⟨e, he⟩ : ∃ e, e = y.t := ⟨_, rfl⟩
                rw [← ha] at e1 f1 hyn
                rw [← hb] at e2 f2
                rw [← he] at e3 f3
                have z3 : (T : Int) < (N : Int) := by omega
                clear hy hown st1 st2 st1' hT ha hb he HS
                go_wp2
                go_loopw [15] (fun a wr => ∃ k1 : Nat, a = .int .i64 k1 ∧ k0 ≤ k1 ∧ k1 ≤ T ∧ wr = w2.drewN z) (fun a _ => T - (intOf a).toNat)
                case atStart => exact ⟨k0, rfl, by omega, by omega, rfl⟩
                case round =>
                  obtain ⟨k1, rfl, hk1, hk2, rfl⟩ := hrel
                  by_cases hk : k1 < T
                  · obtain ⟨x, hx, hxn⟩ := HSK.out k1 hk1 hk
                    obtain ⟨g1', o1', eg, f4, -, -⟩ := HR1.out k1 x hx
                    injection eg with eg
                    injection eg with eg1 eg2
                    subst eg1 eg2
                    rw [hxn] at f4
                    have z4 : (k1 : Int) < (N : Int) := by omega
                    clear hx hxn
                    go_wp2
                    go_round
                    case rel => exact ⟨k1 + 1, by go_num, by omega, by omega, by first | rfl | trivial⟩
                    case measure => simp [intOf]; omega
                  · obtain rfl : k1 = T := by omega
                    have D1 : decide (N ≤ k1) = false := decide_eq_false (by omega)
                    have D2 : decide ((N : Int) ≤ (k1 : Int)) = false := decide_eq_false (by omega)
                    go_wp2
                    go_quiet (fail)
                    go_wp2
                    go_roundw
                    case rel => exact ⟨k1 + 1, i0 + 1, _, by go_num, by go_num, by omega, by omega, rfl, HSN.out⟩
                    case measure => simp [intOf]; omega
            · go_wp2_with fail
              refine (L.wakes _).mono ?_
              rintro r w3 ⟨rfl, hM3⟩
              have HM3 := Lib.hid hM3
              clear hM3
              go_wp2
              go_ret
              exact ⟨rfl, (HM2.out.drewN z).trans HM3.out (fun _ h => by cases h)⟩
end Rk
end Go.Proofs.Ytpaklljcbmimfaa
