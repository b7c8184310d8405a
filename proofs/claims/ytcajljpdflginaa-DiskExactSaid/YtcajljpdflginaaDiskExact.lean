/-
  THE WALK of the statement DiskExact, from what it asks of the program's Disk.
-/
import Derived.Test.YtcajljpdflginaaDiskWakes
import Derived.Test.YtcajljpdflginaaDiskDo
namespace Go.Proofs.Ytcajljpdflginaa
namespace Dk
open Go.RowKit
/-- An act that came in: which one, its number, its bytes. -/
structure Deed where
  d : Int
  k : Int
  ys : List Int
/-- A slice of acts that came in. -/
def Deeds (w : World) (A : Option Addr) (ds : List Deed) : Prop :=
  ∀ (i : Nat) (a : Deed), ds[i]? = some a → ∃ b off B c, A = some ⟨b, off, none⟩ ∧ w.cell? ⟨b, off + i * 3, none⟩ = some (.int .i64 a.d) ∧ w.cell? ⟨b, off + i * 3 + 1, none⟩ = some (.int .i64 a.k) ∧
    w.cell? ⟨b, off + i * 3 + 2, none⟩ = some (.slice B a.ys.length c) ∧ Was w B a.ys.length c a.ys ∧ -9223372036854775808 ≤ a.k ∧ a.k ≤ 9223372036854775807
/-- None of the first sixty has too many bytes. -/
def Light (ds : List Deed) : Prop := ∀ i a, i < 60 → ds[i]? = some a → a.ys.length ≤ 65536
def HeavyEnd (ds : List Deed) (w : World) (e : Ending) (w' : World) : Prop := ∃ b : Bool, e = .returned (.bool b) ∧ w = w' ∧ (b = false → Light ds)
set_option maxRecDepth 100000 in
set_option maxHeartbeats 2000000 in
theorem heavy_any (A : Option Addr) (n c : Nat) (ds : List Deed) (w : World) (hA : Deeds w A ds) (hn : ds.length = n) (hn63 : n ≤ 9223372036854775807) :
    Calls Try.prog 9 #[.slice A n c] w (HeavyEnd ds w) := by
  have HA := Lib.hid hA
  have HN := Lib.hid hn
  clear hA hn
  by_cases hbig : 1000 < n
  · go_enter Try.func9, Try.ntmps9
    go_wp2
    go_ret
    exact ⟨true, rfl, rfl, fun h => by cases h⟩
  have hdn : decide (1000 < n) = false := by simpa using hbig
  go_enter Try.func9, Try.ntmps9
  go_wp2
  go_loop [3, 4] (fun t i => ∃ x k : Nat, t = .int .i64 x ∧ i = .int .i64 k ∧ k ≤ n ∧ k ≤ 60 ∧ x ≤ 131072 ∧ Hid (∀ i a, i < k → ds[i]? = some a → a.ys.length ≤ 65536)) (fun _ i => 60 - (intOf i).toNat)
  case atStart => exact ⟨0, 0, rfl, rfl, by omega, by omega, by omega, fun i a hi => by omega⟩
  case round =>
    obtain ⟨x, k, rfl, rfl, hk, hk60, hx, HS⟩ := hrel
    by_cases hgo : k < n ∧ k < 60 ∧ x ≤ 65536
    · obtain ⟨h1, h2, h3⟩ := hgo
      obtain ⟨a, ha⟩ : ∃ a, ds[k]? = some a := ⟨ds[k]'(by rw [HN.out]; exact h1), List.getElem?_eq_getElem _⟩
      obtain ⟨b, off, B, cb, rfl, -, -, hc2, hw, -⟩ := HA.out k a ha
      have hr := hw.room
      have HAK := Lib.hid ha
      clear ha hw
      obtain ⟨y, hy⟩ : ∃ y, y = a.ys.length := ⟨_, rfl⟩
      rw [← hy] at hc2 hr
      have HYL := Lib.hid hy
      clear hy
      by_cases hl : 65536 < y
      · go_wp2
        go_ret
        exact ⟨true, rfl, rfl, fun h => by cases h⟩
      · have hdl : decide (65536 < y) = false := by simpa using hl
        have HS2 : Hid (∀ i a, i < k + 1 → ds[i]? = some a → a.ys.length ≤ 65536) := fun i a' hi ha' => by
          by_cases hik : i = k
          · subst hik; rw [HAK.out] at ha'; cases ha'; rw [← HYL.out]; omega
          · exact HS.out i a' (by omega) ha'
        go_wp2
        go_round
        case rel => exact ⟨x + y, k + 1, by go_num, by go_num, by omega, by omega, by omega, HS2⟩
        case measure => simp [intOf]; omega
    · have HLT : Hid (x ≤ 65536 → Light ds) := fun hx2 i a hi ha => by
        have hin : i < n := by rw [← HN.out]; exact (List.getElem?_eq_some_iff.1 ha).1
        exact HS.out i a (by omega) ha
      by_cases h1 : k < n
      · by_cases h2 : k < 60
        · have h3 : 65536 < x := by omega
          have hd3 : decide (x ≤ 65536) = false := by simp; omega
          have hd4 : decide (65536 < x) = true := by simpa using h3
          go_wp2
          go_ret
          exact ⟨true, rfl, rfl, fun h => by cases h⟩
        · have hd2 : decide (k < 60) = false := by simpa using h2
          go_wp2
          go_ret
          exact ⟨decide ((65536 : Int) < x), rfl, rfl, fun h => HLT.out (by simp at h; omega)⟩
      · go_wp2
        go_ret
        exact ⟨decide ((65536 : Int) < x), rfl, rfl, fun h => HLT.out (by simp at h; omega)⟩
set_option maxRecDepth 100000 in
set_option maxHeartbeats 2000000 in
theorem exact_any {D : World → Nat → List Nat → DSt → Nat → Prop} (L : DLaws D) (A : Option Addr) (n c : Nat) (ds : List Deed) (w : World) (hA : Deeds w A ds) (hn : ds.length = n) (hn63 : n ≤ 9223372036854775807) :
    Calls Try.prog 3 #[.slice A n c] w fun e w' => e = .returned (.bool true) ∧ Moved w w' [] := by
  have P := L.still
  have O := QStill
  have HA := Lib.hid hA
  have HN := Lib.hid hn
  clear hA hn
  go_enter Try.func3, Try.ntmps3
  go_wp2_with fail
  refine (heavy_any A n c ds w HA.out HN.out hn63).mono ?_
  rintro e w1 ⟨b, rfl, rfl, hl⟩
  have HL := Lib.hid hl
  clear hl
  cases b with
  | true =>
    go_wp2
    go_ret
    exact ⟨rfl, Moved.refl _ _⟩
  | false =>
    have HLI := Lib.hid (HL.out rfl)
    clear HL
    go_wp2_with fail
    refine (At.new_ L w).mono ?_
    rintro e w1 ⟨p, f1, rfl, h1⟩
    have H1 := Lib.hid h1
    have h2 : At2 D QObj w (w1.alloc (.cells #[.slice none 0 0, .int .i64 0, .bool false, .bool false, .int .i64 0] 29)) p f1 ⟨[], 0, false, none⟩ 0 w1.heap.size [w1.heap.size] ⟨[], 0, false, none⟩ 0 :=
      ⟨H1.out.again L _, ⟨qobj_new w1, H1.out.old.alloc _, fun k hk => by simp at hk; subst hk; exact H1.out.old.size⟩, fun k hk hf => by simp at hf; subst hf; have := L.lt H1.out.on _ hk; omega⟩
    have H2 := Lib.hid h2
    clear h1 h2
    go_wp2_with fail
    refine (dsame_any L w _ p f1 _ 0 w1.heap.size _ 0 H2.out (by omega) (by omega)).mono ?_
    rintro e w3 ⟨rfl, f3, g3, h3⟩
    have H3 := Lib.hid h3
    clear h3 H1 H2
    obtain ⟨q, hq⟩ : ∃ q, q = w1.heap.size := ⟨_, rfl⟩
    rw [← hq] at H3 ⊢
    clear hq
    go_wp2
    go_loopw [5] (fun i wr => ∃ (k m : Nat) (s : DSt) (fp fq : List Nat), i = .int .i64 k ∧ k ≤ n ∧ k ≤ 60 ∧ m ≤ k * 65536 ∧ At2 D QObj w wr p fp s m q fq s m) (fun i _ => 60 - (intOf i).toNat)
    case atStart => exact ⟨0, 0, _, f3, g3, rfl, by omega, by omega, by omega, H3.out⟩
    case round =>
      obtain ⟨k, m, s, fp, fq, rfl, hk, hk60, hm, hT⟩ := hrel
      have HT := Lib.hid hT
      clear hT
      by_cases hgo : k < n ∧ k < 60
      · obtain ⟨h1, h2⟩ := hgo
        obtain ⟨a, ha⟩ : ∃ a, ds[k]? = some a := ⟨ds[k]'(by rw [HN.out]; exact h1), List.getElem?_eq_getElem _⟩
        obtain ⟨b, off, B, cb, rfl, hc0, hc1, hc2, hw, hk0, hk1⟩ := HA.out k a ha
        have hyl : a.ys.length ≤ 65536 := HLI.out k a h2 ha
        obtain ⟨d, kk, ys⟩ := a
        have d0 := cell_kept ⟨HT.out.a.old, fun _ h => .inl h⟩ (by simp) hc0
        have d1 := cell_kept ⟨HT.out.a.old, fun _ h => .inl h⟩ (by simp) hc1
        have d2 := cell_kept ⟨HT.out.a.old, fun _ h => .inl h⟩ (by simp) hc2
        have HW := Lib.hid hw
        clear ha hc0 hc1 hc2 hw
        dsimp only at d0 d1 d2 hyl hk0 hk1 HW
        go_wp2_with fail
        refine (do_any L w _ p fp s m q fq HT.out d kk B ys.length cb ys HW.out (by omega) hk0 hk1).mono ?_
        rintro e w4 ⟨rfl, f4, g4, m4, hm4, h4⟩
        have H4 := Lib.hid h4
        clear h4 d0 d1 d2
        go_wp2_with fail
        refine (dsame_any L w _ p f4 _ m4 q g4 m4 H4.out (by omega) (by omega)).mono ?_
        rintro e w5 ⟨rfl, f5, g5, h5⟩
        have H5 := Lib.hid h5
        clear h5
        go_wp2
        go_roundw
        case rel => exact ⟨k + 1, m4, _, f5, g5, by go_num, by omega, by omega, by omega, H5.out⟩
        case measure => simp [intOf]; omega
      · by_cases h1 : k < n
        · have hd2 : decide (k < 60) = false := by simp; omega
          go_wp2_with (go_at_call 13; refine (wakes_any L _).mono ?_; rintro e w6 ⟨rfl, hM6⟩; have HM6 := Lib.hid (HT.out.a.old.trans hM6 (fun _ h => by cases h)); clear hM6)
          go_ret
          exact ⟨rfl, HM6.out⟩
        · go_wp2_with (go_at_call 13; refine (wakes_any L _).mono ?_; rintro e w6 ⟨rfl, hM6⟩; have HM6 := Lib.hid (HT.out.a.old.trans hM6 (fun _ h => by cases h)); clear hM6)
          go_ret
          exact ⟨rfl, HM6.out⟩
end Dk
end Go.Proofs.Ytcajljpdflginaa
