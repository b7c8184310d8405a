/-
  CONTRACT of profile.New where all that is taken fits.
-/
import Derived.Test.YtnabnoaephjceaaProfTake
namespace Go.Proofs.Ytnabnoaephjceaa
namespace Pf
open Go.RowKit Am
attribute [local go_sem] store_cplx'
/-- What is taken: n nodes from f to t. -/
structure Bu where
  f : Nat
  t : Nat
  n : Nat
deriving DecidableEq
/-- What is taken, read from a slice on. -/
def BuRow (w : World) (A : Option Addr) (bs : List Bu) : Prop :=
  ∀ i b, bs[i]? = some b → ∃ g off, A = some ⟨g, off, none⟩ ∧ w.cell? ⟨g, off + i * 3, none⟩ = some (.int .i64 b.f) ∧ w.cell? ⟨g, off + i * 3 + 1, none⟩ = some (.int .i64 b.t) ∧ w.cell? ⟨g, off + i * 3 + 2, none⟩ = some (amt b.n 0)
theorem BuRow.still {w w' : World} {A : Option Addr} {bs : List Bu} (h : BuRow w A bs) (hm : Moved w w' []) : BuRow w' A bs := by
  intro i b hb
  obtain ⟨g, off, e, h1, h2, h3⟩ := h i b hb
  exact ⟨g, off, e, one_still hm h1, one_still hm h2, one_still hm h3⟩
/-- What is kept behind the first k. -/
def after (cap : Nat) (bs : List Bu) : Nat → List Sp
  | 0 => []
  | k + 1 => match bs[k]? with
    | some b => layL (view cap (after cap bs k)) b.f b.t b.n
    | none => after cap bs k
/-- All of it fits. -/
def Fit (cap : Nat) (bs : List Bu) : Prop := ∀ k b, bs[k]? = some b → (after cap bs k).length ≤ 100000 ∧ May cap (view cap (after cap bs k)) b.f b.t b.n
theorem after_at {cap : Nat} {bs : List Bu} {k : Nat} {b : Bu} (h : bs[k]? = some b) : after cap bs (k + 1) = layL (view cap (after cap bs k)) b.f b.t b.n := by rw [after, h]
theorem Moved.since {w w1 w2 : World} {p : Nat} (h : Moved w w1 []) (g : Moved w1 w2 [p]) (hp : w.heap.size ≤ p) : Moved w w2 [] := h.trans g (fun k hk => .inr (by simp at hk; omega))
set_option maxRecDepth 100000 in
set_option maxHeartbeats 2000000 in
theorem new_any (cap : Nat) (hcap : cap ≤ 2) (A : Option Addr) (m c : Nat) (bs : List Bu) (w : World) (hm : bs.length = m) (hml : m ≤ 1048576) (hB : BuRow w A bs) (hF : Fit cap bs) :
    Calls Try.prog 20 #[amt cap 0, .slice A m c] w fun e w' => ∃ p, e = .returned (.tuple #[.pointer (some ⟨p, 0, none⟩), .int .i64 0]) ∧ PAt w' p cap (after cap bs m) ∧ w.heap.size ≤ p ∧ Moved w w' [] := by
  obtain ⟨x, y, hx⟩ := amt_parts cap
  have HSUM : Hid (Calls Try.prog 27 #[.slice (some ⟨w.heap.size, 0, none⟩) 1 1] (w.alloc (.cells #[.complex .f64 x y] 25)) fun e w' => e = .returned (.tuple #[.complex .f64 x y, .int .i64 0]) ∧ (w.alloc (.cells #[.complex .f64 x y] 25)) = w') := by
    rw [← hx]
    exact sum_one cap hcap w.heap.size _ (by rw [hx]; exact cell_own w _ _)
  have HX := Lib.hid hx
  have HB := Lib.hid hB
  have HF := Lib.hid hF
  have HM := Lib.hid hm
  rw [hx]
  clear hx hB hF hm
  go_enter Try.func20, Try.ntmps20
  go_wp2_with fail
  refine HSUM.out.mono ?_
  rintro e w1 ⟨rfl, rfl⟩
  go_wp2_with fail
  obtain ⟨W, hW⟩ : ∃ W, W = (w.alloc (.cells #[.complex .f64 x y] 25)).alloc (.cells #[.complex .f64 x y, .slice none 0 0] 63) := ⟨_, rfl⟩
  obtain ⟨p, hp⟩ : ∃ p, p = (w.alloc (.cells #[.complex .f64 x y] 25)).heap.size := ⟨_, rfl⟩
  have hp1 : p = w.heap.size + 1 := by rw [hp]; simp
  have hMW : Moved w W [] := by rw [hW]; exact ((Moved.refl w []).alloc _).alloc _
  have hPW : PAt W p cap [] := by
    refine ⟨none, 0, ?_, fun i s hs => by simp at hs, by simp, by omega, fun _ => rfl⟩
    rw [hW, hp, HX.out]
    exact heap_alloc_new _ _
  have HMW := Lib.hid hMW
  have HPW := Lib.hid hPW
  have HW := Lib.hid hW
  have HPP := Lib.hid hp
  have HP1 := Lib.hid hp1
  rw [← hp1, ← hW]
  clear hW hp hp1 hMW hPW
  go_loopw [26] (fun i wr => ∃ k : Nat, i = .int .i64 k ∧ k ≤ m ∧ Hid (PAt wr p cap (after cap bs k)) ∧ Hid (Moved w wr [])) (fun i _ => m - (intOf i).toNat)
  case atStart => exact ⟨0, rfl, by omega, HPW.out, HMW.out⟩
  case round =>
    obtain ⟨k, rfl, hk, HPR, HMR⟩ := hrel
    by_cases hlt : k < m
    · obtain ⟨b, hb⟩ : ∃ b, bs[k]? = some b := ⟨bs[k]'(by have := HM.out; omega), List.getElem?_eq_getElem _⟩
      obtain ⟨g, off, rfl, c1, c2, c3⟩ := (HB.out.still HMR.out) k b hb
      obtain ⟨hlen, hmay⟩ := HF.out k b hb
      obtain ⟨x1, y1, hx1⟩ := amt_parts b.n
      have HT : Hid (∀ W, Moved wr W [] → Calls Try.prog 28 #[.pointer (some ⟨p, 0, none⟩), .agg #[.int .i64 b.f, .int .i64 b.t, .complex .f64 x1 y1]] W fun e w' => e = .returned (.int .i64 0) ∧ PAt w' p cap (after cap bs (k + 1)) ∧ Moved W w' [p]) := by
        intro W hW
        rw [← hx1, after_at hb]
        exact take_any p cap _ b.f b.t b.n W (HPR.out.still hW) hlen hmay
      rw [hx1] at c3
      obtain ⟨F, hF⟩ : ∃ F : Int, F = b.f := ⟨_, rfl⟩
      obtain ⟨T, hT⟩ : ∃ T : Int, T = b.t := ⟨_, rfl⟩
      rw [← hF] at c1 HT
      rw [← hT] at c2 HT
      clear hb hlen hmay hx1 hF hT
      go_wp2_with fail
      refine (HT.out _ (by exact (Moved.refl wr []).alloc _)).mono ?_
      rintro e w2 ⟨rfl, h1, h2⟩
      have H1 := Lib.hid h1
      have H2 := Lib.hid (Moved.since (HMR.out.alloc _) h2 (by have := HP1.out; omega) : Moved w w2 [])
      clear h1 h2
      go_wp2
      go_round
      case rel => exact ⟨k + 1, by go_num, by omega, H1.out, H2.out⟩
      case measure => simp [intOf]; omega
    · obtain rfl : k = m := by omega
      go_wp2
      go_ret2
      exact ⟨p, rfl, HPR.out, by have := HP1.out; omega, HMR.out⟩
end Pf
end Go.Proofs.Ytnabnoaephjceaa
