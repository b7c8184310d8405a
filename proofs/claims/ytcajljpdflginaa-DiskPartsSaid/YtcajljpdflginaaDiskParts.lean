/-
  THE WALK of the statement DiskParts, from what it asks of the program's Disk.
-/
import Derived.Test.YtcajljpdflginaaDiskWakes
import Derived.Test.YtcajljpdflginaaDiskTwo
import Derived.Test.YtcajljpdflginaaRowWords
namespace Go.Proofs.Ytcajljpdflginaa
namespace Dk
open Go.RowKit
theorem take_next {ps : List (List Int)} {k : Nat} {p : List Int} (h : ps[k]? = some p) : (ps.take (k + 1)).flatten = (ps.take k).flatten ++ p := by
  obtain ⟨h1, rfl⟩ := List.getElem?_eq_some_iff.1 h
  rw [List.take_succ_eq_append_getElem h1, List.flatten_append]
  simp
theorem flat_le {ps : List (List Int)} {k : Nat} (h : ∀ i p, i < k → ps[i]? = some p → p.length ≤ 4096) : (ps.take k).flatten.length ≤ 4096 * k := by
  induction k with
  | zero => exact Nat.zero_le _
  | succ k ih =>
    have h1 := ih (fun i p hi hp => h i p (Nat.lt_succ_of_lt hi) hp)
    cases hp : ps[k]? with
    | none =>
      have hle : ps.length ≤ k := by rw [List.getElem?_eq_none_iff] at hp; exact hp
      have he : ps.take (k + 1) = ps.take k := by rw [List.take_of_length_le (Nat.le_succ_of_le hle), List.take_of_length_le hle]
      rw [he]
      exact Nat.le_trans h1 (Nat.mul_le_mul_left _ (Nat.le_succ _))
    | some p =>
      have h2 := h k p (Nat.lt_succ_self _) hp
      rw [take_next hp, List.length_append, Nat.mul_succ]
      exact Nat.add_le_add h1 h2
/-- The first loop: the bytes so far are the call's own, and none of the pieces is too long. -/
structure Joined (ps : List (List Int)) (w wr : World) (k : Nat) (v : Value) (cur : List Int) : Prop where
  all : cur = (ps.take k).flatten
  own : wr.ownsRow 0 5 1 v cur.length (cur.map (Value.int .u8))
  step : Step w wr [] (rowOf v)
  small : ∀ i p, i < k → ps[i]? = some p → p.length ≤ 4096
theorem Joined.bound {ps : List (List Int)} {w wr : World} {k : Nat} {v : Value} {cur : List Int} (h : Joined ps w wr k v cur) (hk : k ≤ 60) : cur.length ≤ 245760 := by
  rw [h.all]
  exact Nat.le_trans (flat_le h.small) (Nat.mul_le_mul_left 4096 hk)
/-- The second loop: the first k pieces are in the one Disk, all of them in the other. -/
structure Parted (D : World → Nat → List Nat → DSt → Nat → Prop) (ps : List (List Int)) (w wr : World) (k : Nat) (v : Value) (all cur : List Int) (p : Nat) (fp : List Nat) (q : Nat) (fq : List Nat) : Prop where
  it : cur = (ps.take k).flatten
  two : At2 D D w wr p fp ⟨cur, 0, false, none⟩ cur.length q fq ⟨all, 0, false, none⟩ (0 + all.length)
  own : wr.ownsRow 0 5 1 v all.length (all.map (Value.int .u8))
  far : ∀ j ∈ rowOf v, j ∉ fp
/-- A piece of the list that came in. -/
theorem piece_was {w : World} {A : Option Addr} {vs : List Value} {ps : List (List Int)} (h : BRows w A vs ps) (hb : ∀ p ∈ ps, ByteList p) {k : Nat} (hk : k < ps.length) :
    ∃ b off B c p, A = some ⟨b, off, none⟩ ∧ ps[k]? = some p ∧ w.cell? ⟨b, off + k, none⟩ = some (.slice B p.length c) ∧ Was w B p.length c p := by
  obtain ⟨b, off, B, c, p, h1, h2, h3, h4, h5, h6, h7, -⟩ := h.at_ hk
  exact ⟨b, off, B, c, p, h1, h2, h3, h4, rfl, h5, ⟨h6, h7⟩, hb p (List.mem_of_getElem? h2)⟩
theorem cell_old {w w1 : World} (hM : Moved w w1 []) {b o : Nat} {v : Value} (h : w.cell? ⟨b, o, none⟩ = some v) : w1.cell? ⟨b, o, none⟩ = some v := by
  rw [World.cell?_of_block (w := w) (hM.block b (World.block_lt_of_cell? w _ h) (by simp))]; exact h
set_option maxRecDepth 100000 in
set_option maxHeartbeats 4000000 in
theorem parts_any {D : World → Nat → List Nat → DSt → Nat → Prop} (L : DLaws D) (A : Option Addr) (n c : Nat) (vs : List Value) (ps : List (List Int)) (w : World) (hA : BRows w A vs ps) (hn : ps.length = n) (hb : ∀ p ∈ ps, ByteList p) (hn63 : n ≤ 9223372036854775807) :
    Calls Try.prog 6 #[.slice A n c] w fun e w' => e = .returned (.bool true) ∧ Moved w w' [] := by
  have O := L.still
  obtain ⟨i0, hi, hz0, hz1, hz2⟩ := info_parts info_u8
  have HA := Lib.hid hA
  have HN := Lib.hid hn
  have HB := Lib.hid hb
  clear hA hn hb
  by_cases hbig : 60 < n
  · go_enter Try.func6, Try.ntmps6
    go_wp2
    go_ret
    exact ⟨rfl, Moved.refl _ _⟩
  have hdn : decide (60 < n) = false := by simpa using hbig
  go_enter Try.func6, Try.ntmps6
  go_wp2
  go_loopw [3, 4] (fun x i wr => ∃ (k : Nat) (v : Value) (cur : List Int), x = v ∧ i = .int .i64 k ∧ k ≤ n ∧ Joined ps w wr k v cur) (fun _ i _ => n - (intOf i).toNat)
  case atStart => exact ⟨0, _, [], rfl, rfl, by omega, rfl, World.ownsRow_nil _ _ _ _, Step.refl _ _, fun i p hi => by omega⟩
  case round =>
    obtain ⟨k, v, cur, rfl, rfl, hk, hJ⟩ := hrel
    obtain ⟨Av, cv, rfl, hvn, hvr⟩ := own_shape hJ.own
    have HJ := Lib.hid hJ
    clear hJ
    have hbd := HJ.out.bound (by omega)
    by_cases hlt : k < n
    · obtain ⟨b, off, B, cb, q, rfl, hq, hc, hw⟩ := piece_was HA.out HB.out (k := k) (by have := HN.out; omega)
      have hcell := cell_old HJ.out.step.1 hc
      have HQ := Lib.hid hq
      have HW := Lib.hid hw
      clear hq hc hw
      by_cases hl : 4096 < q.length
      · go_wp2
        go_ret
        exact ⟨rfl, HJ.out.step.1⟩
      · have hdl : decide (4096 < q.length) = false := by simpa using hl
        go_wp2_with (at_builtin; refine wpList_append_row rfl _ _ 27 rfl 5 i0 .u8 1 Try.underlying27 hi hz0 hz1 hz2 _ cur.length _ rfl (by exact HJ.out.own) B q.length cb q rfl rfl (by exact HW.out.now HJ.out.step.1) HW.out.nil (by unfold maxLen; omega) (by omega) ?_)
        intro v' w1 hown hst
        have HJ2 : Hid (Joined ps w w1 (k + 1) v' (cur ++ q)) := ⟨by rw [take_next HQ.out, ← HJ.out.all], by rw [List.length_append, List.map_append]; exact hown, HJ.out.step.trans hst, fun i p hi hp => by
          by_cases hik : i = k
          · subst hik; rw [HQ.out] at hp; cases hp; omega
          · exact HJ.out.small i p (by omega) hp⟩
        clear hown hst
        go_wp2
        go_roundw
        case rel => exact ⟨k + 1, v', _, rfl, by go_num, by omega, HJ2.out⟩
        case measure => simp [intOf]; omega
    · obtain rfl : k = n := by omega
      have HALL : Hid (cur = ps.flatten) := by have := HJ.out.all; rw [List.take_of_length_le (by rw [HN.out]; omega)] at this; exact this
      have HBY : Hid (ByteList cur) := by
        show ByteList cur
        rw [HALL.out]
        intro x hx
        obtain ⟨l, hl, hx⟩ := List.mem_flatten.1 hx
        exact HB.out l hl x hx
      have HVN := Lib.hid hvn
      have HSM := Lib.hid HJ.out.small
      have HRW := Lib.hid (own_lt HJ.out.own)
      clear hvn
      go_wp2_with fail
      refine (L.new wr).mono ?_
      rintro e w1 ⟨p, f1, rfl, h1, hS1⟩
      have hf1 : ∀ j ∈ f1, wr.heap.size ≤ j := fun j hj => (hS1.2 j hj).elim (fun h => by cases h) id
      have hS1' : Step wr w1 [] f1 := hS1
      have hA1 : At D w w1 p f1 ⟨[], 0, false, none⟩ 0 := ⟨h1, HJ.out.step.1.trans hS1.1 (fun _ h => by cases h), fun j hj => Nat.le_trans HJ.out.step.1.size (hf1 j hj)⟩
      have H1 := Lib.hid hA1
      have HO1 := Lib.hid (own_stays HJ.out.own (fun j hj => hS1.1.block j (HRW.out j hj) (by simp)))
      have HF1 := Lib.hid hf1
      have HZ1 := Lib.hid hS1.1.size
      clear h1 hS1 hS1' hA1 hf1
      go_wp2_with fail
      refine (L.new w1).mono ?_
      rintro e w2 ⟨q, f2, rfl, h2, hS2⟩
      have hf2 : ∀ j ∈ f2, w1.heap.size ≤ j := fun j hj => (hS2.2 j hj).elim (fun h => by cases h) id
      have H2 : Hid (At2 D D w w2 q f2 ⟨[], 0, false, none⟩ 0 p f1 ⟨[], 0, false, none⟩ 0) := ⟨⟨h2, H1.out.old.trans hS2.1 (fun _ h => by cases h), fun j hj => Nat.le_trans H1.out.old.size (hf2 j hj)⟩, H1.out.keeps O hS2 (fun _ h => by cases h) (fun _ h => by cases h), fun j hj hf => by have := hf2 j hj; have := O.lt H1.out.on j hf; omega⟩
      have HO2 := Lib.hid (own_stays HO1.out (fun j hj => hS2.1.block j (own_lt HO1.out j hj) (by simp)))
      have HF2 := Lib.hid hf2
      have HZ2 := Lib.hid hS2.1.size
      clear h2 hS2 hf2
      go_wp2_with fail
      refine (L.append q f2 _ 0 Av cur.length cv cur w2 H2.out.a.on ⟨NRow.of_own HO2.out, rfl, HVN.out, hvr, HBY.out, fun j hj hf => by have := HF2.out j hf; have := own_lt HO1.out j (rowX_rowOf hj); omega⟩ (by omega)).mono ?_
      rintro e w3 ⟨rfl, f3, h3, hS3⟩
      have H3 : Hid (Parted D ps w w3 0 (.slice Av cur.length cv) cur [] p f1 q f3) := ⟨rfl, (H2.out.step O h3 hS3).flip, own_stays HO2.out (fun j hj => hS3.1.block j (own_lt HO2.out j hj) (fun hm => by have := HF2.out j hm; have := own_lt HO1.out j hj; omega)), fun j hj hf => by have := HF1.out j hf; have := HRW.out j hj; omega⟩
      have HF3 := Lib.hid (fun j hj => hS3.2 j hj : ∀ j ∈ f3, j ∈ f2 ∨ w2.heap.size ≤ j)
      clear h3 hS3 H2 H1
      simp only [DSt.off]
      go_wp2
      go_loopw [7] (fun i wr => ∃ (m : Nat) (cu : List Int) (fp : List Nat), i = .int .i64 m ∧ m ≤ k ∧ Parted D ps w wr m (.slice Av cur.length cv) cur cu p fp q f3) (fun i _ => k - (intOf i).toNat)
      case atStart => exact ⟨0, [], f1, rfl, by omega, H3.out⟩
      case round =>
        obtain ⟨m, cu, fp, rfl, hm, hP⟩ := hrel
        have HP := Lib.hid hP
        clear hP
        have hcu : cu.length ≤ 245760 := by rw [HP.out.it]; exact Nat.le_trans (flat_le (fun i y hi hy => HSM.out i y (by omega) hy)) (Nat.mul_le_mul_left 4096 (by omega : m ≤ 60))
        by_cases hlt2 : m < k
        · obtain ⟨b, off, B, cb, y, rfl, hy, hc, hw⟩ := piece_was HA.out HB.out (k := m) (by have := HN.out; omega)
          have hcell := cell_old HP.out.two.a.old hc
          have hyl : y.length ≤ 4096 := HSM.out m y hlt2 hy
          have HQ := Lib.hid hy
          have HW := Lib.hid hw
          clear hy hc hw
          go_wp2_with fail
          refine (L.append p fp _ cu.length B y.length cb y _ HP.out.two.a.on (HW.out.lent HP.out.two.a.old HP.out.two.a.new) (by omega)).mono ?_
          rintro e w5 ⟨rfl, f5, h5, hS5⟩
          have HP2 : Hid (Parted D ps w w5 (m + 1) (.slice Av cur.length cv) cur (cu ++ y) p f5 q f3) := ⟨by rw [take_next HQ.out, ← HP.out.it], by rw [List.length_append]; exact HP.out.two.step O h5 hS5, own_stays HP.out.own (fun j hj => hS5.1.block j (own_lt HP.out.own j hj) (HP.out.far j hj)), fun j hj hf => by
            rcases hS5.2 j hf with h | h
            · exact HP.out.far j hj h
            · have := own_lt HP.out.own j hj; omega⟩
          clear h5 hS5
          simp only [DSt.off]
          go_wp2
          go_roundw
          case rel => exact ⟨m + 1, _, f5, by go_num, by omega, HP2.out⟩
          case measure => simp [intOf]; omega
        · obtain rfl : m = k := by omega
          have hcc : cu = cur := by rw [HP.out.it, HALL.out, List.take_of_length_le (by rw [HN.out]; omega)]
          subst hcc
          go_wp2_with fail
          refine (HP.out.two.read L O (e := 0) (out := cu) rfl rfl (by omega)).mono ?_
          rintro e w6 ⟨A6, c6, f6, rfl, hT6, -, -, hF6, h6, hM6⟩
          have H6 := Lib.hid h6
          have HT6 := Lib.hid hT6
          have HF6 := Lib.hid hF6
          have HO6 := Lib.hid (own_stays HP.out.own (fun j hj => hM6.block j (own_lt HP.out.own j hj) (HP.out.far j hj)))
          clear h6 hT6 hF6
          go_wp2_with fail
          refine (H6.out.flip.read L O (e := 0) (out := cu) rfl rfl (by omega)).mono ?_
          rintro e w7 ⟨A7, c7, f7, rfl, hT7, -, -, hF7, h7, hM7⟩
          have hd6 : ∀ j ∈ rowOf (.slice Av cu.length cv), j ∉ f3 := fun j hj hf => by
            have h1 := HRW.out j hj
            rcases HF3.out j hf with h | h
            · have := HF2.out j h; have := HZ1.out; omega
            · have := HZ1.out; have := HZ2.out; omega
          have H7 := Lib.hid h7.flip
          have HT67 := Lib.hid (t_stays HT6.out (fun j hj => hM7.block j (t_lt HT6.out j hj) (fun hm => (HF6.out j hj).2.2 hm)))
          have HT7 := Lib.hid hT7
          have HO7 := Lib.hid (own_stays HO6.out (fun j hj => hM7.block j (own_lt HO6.out j hj) (fun hm => hd6 j hj hm)))
          clear h7 hT7 hF7 hd6
          go_wp2_with fail
          refine (bytes_is _ _ _ _ _ _ cu cu _ HT67.out.nrow HT7.out.nrow rfl rfl HBY.out HBY.out true (by simp)).mono ?_
          rintro e w8 ⟨rfl, rfl⟩
          go_wp2_with fail
          refine (bytes_is _ _ _ _ _ _ cu cu _ HT67.out.nrow (NRow.of_own HO7.out) rfl rfl HBY.out HBY.out true (by simp)).mono ?_
          rintro e w8 ⟨rfl, rfl⟩
          go_wp2_with fail
          refine (H7.out.synced L O (k := 0) rfl (by omega)).mono ?_
          rintro e w9 ⟨rfl, f9, h9⟩
          have H9 := Lib.hid h9.a.old
          clear h9
          go_wp2_with fail
          refine (wakes_any L _).mono ?_
          rintro e w10 ⟨rfl, hM10⟩
          have HM10 := Lib.hid (H9.out.trans hM10 (fun _ h => by cases h))
          clear hM10
          go_wp2
          go_ret
          exact ⟨rfl, HM10.out⟩
end Dk
end Go.Proofs.Ytcajljpdflginaa
