/-
  THE WALK of the statement PackReads, from what it asks of the program's Reader.
-/
import Derived.Test.YtgifinilgieonaaPackSame
namespace Go.Proofs.Ytgifinilgieonaa
namespace Pk
open Go.RowKit Am

theorem Below_step {w w1 w2 : World} {S T : List Nat} {B : Nat} (h : Below B w w1) (g : Step w1 w2 S T) (hB : B ≤ w1.heap.size) (hS : ∀ k ∈ S, B ≤ k) : Below B w w2 ∧ ∀ k ∈ T, B ≤ k :=
  ⟨h.trans (g.1.below hB hS), fun k hk => (g.2 k hk).elim (hS k) (fun h => Nat.le_trans hB h)⟩
/-- The page's Reader of bytes in old memory is laid beside the program's. -/
theorem pair_new {R : World → Nat → List Nat → St → Prop} (L : RLaws R) {w0 w : World} {p : Nat} {fp : List Nat} {A : Option Addr} {c : Nat} {xs : List Int} (hR : R w p fp (.ok xs)) (hA : NRow .u8 w0 A xs) (hb : Below w0.heap.size w0 w) (hfp : ∀ k ∈ fp, w0.heap.size ≤ k) :
    Pair R (w.alloc (.cells #[.slice A xs.length c, .int .i64 0, .int .i64 0] 31)) p fp w.heap.size A c xs (.ok xs) := by
  have hX := hA.ltX
  refine ⟨L.stays hR (fun k hk => Below.heap_alloc w _ k (L.lt hR k hk)), ⟨0, 0, heap_alloc_new w _, (hA.below hb (Nat.le_refl _)).alloc _, fun h => ?_, rfl, 0, rfl, by omega, by simp⟩, fun h => ?_, fun b hb' => ⟨fun h => ?_, ?_⟩⟩
  · have := hX _ h; have := hb.size; omega
  · have := L.lt hR _ h; omega
  · have := hfp b h; have := hX b hb'; omega
  · have := hX b hb'; have := hb.size; simp; omega
/-- Both tell the same error. -/
theorem Pair.done {R : World → Nat → List Nat → St → Prop} (L : RLaws R) {w w1 : World} {p : Nat} {fp fp1 : List Nat} {q : Nat} {A : Option Addr} {c : Nat} {xs : List Int} {st : St}
    (h : Pair R w p fp q A c xs st) (h1 : R w1 p fp1 st) (hS : Step w w1 fp fp1) (n : Nat) : Pair R (w1.drewN n) p fp1 q A c xs st ∧ Step w (w1.drewN n) (q :: fp) (q :: fp1) :=
  h.both L h1 hS (h.left hS).1 ((Moved.refl w1 [q]).drewN n) rfl

set_option maxRecDepth 100000 in
set_option maxHeartbeats 1000000 in
theorem reads_any {R : World → Nat → List Nat → St → Prop} (L : RLaws R) (W : ∀ w, Calls Try.prog 14 #[] w fun e w' => e = .returned (.bool true) ∧ Moved w w' [])
    (A : Option Addr) (c : Nat) (xs : List Int) (A1 : Option Addr) (c1 : Nat) (js : List Int) (w : World) (hA : NRow .u8 w A xs) (hA1 : NRow .i64 w A1 js) (hb : ByteList xs) (hc : xs.length ≤ c) (hc2 : c ≤ 9223372036854775807) (hnil : A = none → c = 0) (hl1 : js.length ≤ 9223372036854775807) :
    Calls Try.prog 3 #[.slice A xs.length c, .slice A1 js.length c1] w fun e w' => e = .returned (.bool true) ∧ Below w.heap.size w w' := by
  by_cases hbig : 262144 < xs.length
  · go_enter Try.func3, Try.ntmps3
    go_wp2
    go_ret
    exact ⟨rfl, Below.refl _ _⟩
  by_cases hbig1 : 256 < js.length
  · go_enter Try.func3, Try.ntmps3
    go_wp2
    go_ret
    exact ⟨rfl, Below.refl _ _⟩
  have HA := Lib.hid hA
  have HA1 := Lib.hid hA1
  have HB := Lib.hid hb
  have HNIL := Lib.hid hnil
  clear hA hA1 hb hnil
  go_enter Try.func3, Try.ntmps3
  go_wp2_with fail
  refine (twin_any A xs.length c xs w HA.out rfl HNIL.out (by omega)).mono ?_
  rintro e w1 ⟨v, rfl, hO1, hS1⟩
  obtain ⟨Av, cv, rfl, hvn, -⟩ := own_shape hO1
  have HO1 := Lib.hid hO1
  have HS1 := Lib.hid hS1
  have HVN := Lib.hid hvn
  clear hO1 hS1 hvn
  go_wp2_with fail
  refine (L.new Av xs.length cv xs w1 (NRow.of_own HO1.out) rfl HB.out HVN.out (by omega)).mono ?_
  rintro e w2 ⟨p, fp, rfl, hR2, hS2⟩
  have hO2 : w2.ownsRow 0 5 1 (.slice Av xs.length cv) xs.length (xs.map (Value.int .u8)) := own_stays HO1.out (fun k hk => hS2.1.block k (own_lt HO1.out k hk) (by simp))
  have HO2 := Lib.hid hO2
  have HR2 := Lib.hid hR2
  have HS2 := Lib.hid hS2
  clear hO2 hR2 hS2
  go_wp2_with (go_at_call 10; refine (spoil_any _ _ _ HO2.out (by omega)).mono ?_; rintro e w3 ⟨rfl, hM3⟩; have HM3 := Lib.hid hM3; clear hM3)
  have hfp : ∀ k ∈ fp, w1.heap.size ≤ k := fun k hk => (HS2.out.2 k hk).elim (fun h => by cases h) id
  have hR3 : R w3 p fp (.ok xs) := L.stays HR2.out (fun k hk => HM3.out.block k (L.lt HR2.out k hk) (fun hm => by have h1 := hfp k hk; have h2 := own_lt HO1.out k hm; omega))
  have hv : ∀ k ∈ rowOf (.slice Av xs.length cv), w.heap.size ≤ k := fun k hk => (HS1.out.2 k hk).elim (fun h => by cases h) id
  have hb3 : Below w.heap.size w w3 :=
    ((HS1.out.1.below (Nat.le_refl _) (fun k hk => by cases hk)).trans (HS2.out.1.below HS1.out.1.size (fun k hk => by cases hk))).trans (HM3.out.below (Nat.le_trans HS1.out.1.size HS2.out.1.size) hv)
  have hP0 := pair_new L (c := c) hR3 HA.out hb3 (fun k hk => Nat.le_trans HS1.out.1.size (hfp k hk))
  have hb4 : Below w.heap.size w (w3.alloc (.cells #[.slice A xs.length c, .int .i64 0, .int .i64 0] 31)) := hb3.alloc hb3.size _
  have hk0 : ∀ k ∈ w3.heap.size :: fp, w.heap.size ≤ k := fun k hk => by
    rcases List.mem_cons.1 hk with rfl | hk
    · exact hb3.size
    · exact Nat.le_trans HS1.out.1.size (hfp k hk)
  have HP0 := Lib.hid hP0
  have HB4 := Lib.hid hb4
  have HK0 := Lib.hid hk0
  clear hfp hR3 hv hb3 hP0 hb4 hk0 HO1 HO2 HR2 HS1 HS2 HM3 HVN hbig hbig1
  obtain ⟨q, hq⟩ : ∃ q, q = w3.heap.size := ⟨_, rfl⟩
  rw [← hq] at HP0 HK0 ⊢
  have HQ := Lib.hid hq
  clear hq
  go_loopw [8] (fun i wr => ∃ (k : Nat) (fq : List Nat) (st : St), i = .int .i64 k ∧ k ≤ js.length ∧ Pair R wr p fq q A c xs st ∧ Below w.heap.size w wr ∧ ∀ b ∈ q :: fq, w.heap.size ≤ b) (fun i _ => js.length - (intOf i).toNat)
  case atStart => exact ⟨0, fp, .ok xs, rfl, by omega, HP0.out, HB4.out, HK0.out⟩
  case round =>
    obtain ⟨k, fq, st, rfl, hk, hP, hb5, hk5⟩ := hrel
    have HP := Lib.hid hP
    have HB5 := Lib.hid hb5
    have HK5 := Lib.hid hk5
    clear hP hb5 hk5
    by_cases hlt : k < js.length
    · obtain ⟨j, hj⟩ : ∃ j, js[k]? = some j := ⟨js[k], List.getElem?_eq_getElem hlt⟩
      obtain ⟨b, off, rfl, hcell⟩ := (HA1.out.below HB5.out (Nat.le_refl _)) k j hj
      clear hj
      go_wp2_with fail
      refine (same_any L p fq q A c xs st j _ HP.out HB.out (by omega) hc hc2 HNIL.out).mono ?_
      rintro e w5 ⟨rfl, f5, hP5, hS5⟩
      have HP5 := Lib.hid hP5
      have HS5 := Lib.hid hS5
      clear hP5 hS5
      go_wp2_with (first
        | (go_at_call 12; refine (L.done p f5 _ _ HP5.out.mine).mono ?_; rintro e w6 ⟨rfl, f6, hR6, hS6⟩; have HR6 := Lib.hid hR6; have HS6 := Lib.hid hS6; have HL6 := Lib.hid (HP5.out.left hS6); clear hR6 hS6)
        | (go_at_call 13; refine (qdone_any q A c xs _ _ HL6.out.1).mono ?_; rintro e w7 ⟨rfl, n7, rfl⟩))
      have E := HP5.out.done L HR6.out HS6.out n7
      have B5 := Below_step HB5.out HS5.out HB5.out.size HK5.out
      have B6 := Below_step B5.1 E.2 B5.1.size B5.2
      go_roundw
      case rel => exact ⟨k + 1, f6, _, by go_num, by omega, E.1, B6.1, B6.2⟩
      case measure => simp [intOf]; omega
    · go_wp2_with (first
        | (go_at_call 12; refine (L.done p fq _ _ HP.out.mine).mono ?_; rintro e w6 ⟨rfl, f6, hR6, hS6⟩; have HR6 := Lib.hid hR6; have HS6 := Lib.hid hS6; have HL6 := Lib.hid (HP.out.left hS6); clear hR6 hS6)
        | (go_at_call 13; refine (qdone_any q A c xs _ _ HL6.out.1).mono ?_; rintro e w7 ⟨rfl, n7, rfl⟩)
        | (go_at_call 14; refine (W _).mono ?_; rintro e w8 ⟨rfl, hM8⟩; have HM8 := Lib.hid hM8; clear hM8))
      have E := HP.out.done L HR6.out HS6.out n7
      have B6 := Below_step HB5.out E.2 HB5.out.size HK5.out
      go_ret
      exact ⟨rfl, B6.1.trans (HM8.out.below B6.1.size (fun k hk => by cases hk))⟩
end Pk
end Go.Proofs.Ytgifinilgieonaa
