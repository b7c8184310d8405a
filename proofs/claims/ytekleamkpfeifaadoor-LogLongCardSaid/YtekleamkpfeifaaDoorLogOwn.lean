/-
  The program's Log in memory: its records are never changed, each stands behind the one ahead of it; CONTRACTS of its add and of sealed.
-/
import Derived.Test.YtekleamkpfeifaaDoorLogParts
import Derived.Test.YtekleamkpfeifaaDoorLogLaws
import Derived.Test.YtekleamkpfeifaaDoorPackStr
import Derived.Test.YtekleamkpfeifaaDoorTextPlain
import Derived.BigRegion
import Derived.Deep.QuietTactic
import Derived.BigQuiet
import Derived.Deep.RegionLaw
import Derived.Deep.RegionHeld3
namespace Go.Proofs.YtekleamkpfeifaaDoor
namespace Lg
open Go.RowKit Dk Fr
/-- A record: its block, its text. -/
structure Rc where
  b : Nat
  t : ByteArray
def rptr : List Rc → Value
  | [] => .pointer none
  | c :: _ => .pointer (some ⟨c.b, 0, none⟩)
def rblks : List Rc → List Nat
  | [] => []
  | c :: r => c.b :: rblks r
def RcAt (w : World) : List Rc → Prop
  | [] => True
  | c :: r => w.heap[c.b]? = some (.cells #[rptr r, .string c.t] 76 (0, 0)) ∧ (∀ k ∈ rblks r, k < c.b) ∧ RcAt w r
/-- The records, the first one first. -/
def rtexts : List Rc → List (List Int)
  | [] => []
  | c :: r => rtexts r ++ [Pk.nums c.t]
theorem rblks_append : ∀ (a b : List Rc), rblks (a ++ b) = rblks a ++ rblks b
  | [], b => rfl
  | c :: r, b => by rw [List.cons_append, rblks, rblks, rblks_append r b]; rfl
theorem rtexts_append : ∀ (a b : List Rc), rtexts (a ++ b) = rtexts b ++ rtexts a
  | [], b => by simp [rtexts]
  | c :: r, b => by rw [List.cons_append, rtexts, rtexts, rtexts_append r b, List.append_assoc]
theorem rtexts_len : ∀ (R : List Rc), (rtexts R).length = R.length
  | [] => rfl
  | c :: r => by rw [rtexts, List.length_append, rtexts_len r]; rfl
theorem RcAt.tail {w : World} : ∀ {a b : List Rc}, RcAt w (a ++ b) → RcAt w b
  | [], _, h => h
  | _ :: _, _, h => RcAt.tail h.2.2
theorem RcAt.lt {w : World} : ∀ {R : List Rc}, RcAt w R → ∀ k ∈ rblks R, k < w.heap.size
  | [], _, k, hk => by cases hk
  | c :: r, h, k, hk => by
    rcases List.mem_cons.1 hk with rfl | hk
    · exact lt_of_block h.1
    · exact RcAt.lt h.2.2 k hk
theorem RcAt.stays {w w' : World} : ∀ {R : List Rc}, RcAt w R → (∀ k ∈ rblks R, w'.heap[k]? = w.heap[k]?) → RcAt w' R
  | [], _, _ => trivial
  | c :: r, h, hk => ⟨by rw [hk c.b (by simp [rblks])]; exact h.1, h.2.1, RcAt.stays h.2.2 (fun k hm => hk k (by simp [rblks, hm]))⟩
/-- The Log at block l, cell by cell. -/
structure GRaw (w : World) (l p : Nat) (S : ByteArray) (R : List Rc) : Prop where
  at_ : w.heap[l]? = some (.cells #[.pointer (some ⟨p, 0, none⟩), .string S, rptr R] 69 (0, 0))
  rcs : RcAt w R
  ne : l ∉ rblks R
def GObj (w : World) (l p : Nat) (fl : List Nat) (sn : List Int) (rs : List (List Int)) (m : Nat) : Prop :=
  ∃ S R, fl = l :: rblks R ∧ GRaw w l p S R ∧ Pk.nums S = sn ∧ rtexts R = rs ∧ sn.length + 9 * rs.length + rs.flatten.length ≤ m
section
variable {w w' : World} {l p : Nat} {S : ByteArray} {R : List Rc}
theorem GRaw.stays (h : GRaw w l p S R) (hk : ∀ k ∈ l :: rblks R, w'.heap[k]? = w.heap[k]?) : GRaw w' l p S R :=
  ⟨by rw [hk l (by simp)]; exact h.at_, h.rcs.stays (fun k hm => hk k (by simp [hm])), h.ne⟩
theorem GRaw.lt (h : GRaw w l p S R) : ∀ k ∈ l :: rblks R, k < w.heap.size := fun k hk => by
  rcases List.mem_cons.1 hk with rfl | hk
  · exact lt_of_block h.at_
  · exact h.rcs.lt k hk
theorem GRaw.still (h : GRaw w l p S R) (hM : Moved w w' []) : GRaw w' l p S R := h.stays fun k hk => hM.block k (h.lt k hk) (fun h => by cases h)
theorem GRaw.drewN (h : GRaw w l p S R) (n : Nat) : GRaw (w.drewN n) l p S R := h.stays fun _ _ => rfl
theorem rset (h : RcAt w R) (hne : l ∉ rblks R) (i : Nat) (x : Value) : RcAt (w.setCell ⟨l, i, none⟩ x) R :=
  h.stays fun k hk => Below.heap_setCell w ⟨l, i, none⟩ x k (fun e => by subst e; exact hne hk)
theorem GRaw.set1 (h : GRaw w l p S R) (T : ByteArray) : GRaw (w.setCell ⟨l, 1, none⟩ (.string T)) l p T R :=
  ⟨by rw [heap_setCell_same w l 1 _ _ _ h.at_]; rfl, rset h.rcs h.ne _ _, h.ne⟩
theorem GRaw.set2 (h : GRaw w l p S R) {T : List Rc} (hT : RcAt w T) (hne : l ∉ rblks T) : GRaw (w.setCell ⟨l, 2, none⟩ (rptr T)) l p S T :=
  ⟨by rw [heap_setCell_same w l 2 _ _ _ h.at_]; rfl, rset hT hne _ _, hne⟩
/-- A record more, in a block that was made last. -/
theorem GRaw.more (h : GRaw w l p S R) (t : ByteArray) : GRaw ((w.alloc (.cells #[rptr R, .string t] 76)).setCell ⟨l, 2, none⟩ (.pointer (some ⟨w.heap.size, 0, none⟩))) l p S (⟨w.heap.size, t⟩ :: R) := by
  have hl := h.lt l (by simp)
  refine (h.still ((Moved.refl w []).alloc _)).set2 (T := ⟨w.heap.size, t⟩ :: R) ⟨heap_alloc_new w _, fun k hk => h.rcs.lt k hk, h.rcs.stays (fun k hk => Below.heap_alloc w _ k (h.rcs.lt k hk))⟩ ?_
  intro hm
  rcases List.mem_cons.1 hm with rfl | hm
  · exact absurd hl (by simp)
  · exact h.ne hm
end
theorem rptr_is (R : List Rc) : ∃ a, rptr R = .pointer a := by cases R <;> exact ⟨_, rfl⟩
theorem GObj.stays {w w' : World} {l p : Nat} {fl : List Nat} {sn : List Int} {rs : List (List Int)} {m : Nat} (h : GObj w l p fl sn rs m) (hk : ∀ k ∈ fl, w'.heap[k]? = w.heap[k]?) : GObj w' l p fl sn rs m := by
  obtain ⟨S, R, rfl, hr, r⟩ := h
  exact ⟨S, R, rfl, hr.stays hk, r⟩
theorem GObj.lt {w : World} {l p : Nat} {fl : List Nat} {sn : List Int} {rs : List (List Int)} {m : Nat} (h : GObj w l p fl sn rs m) : ∀ k ∈ fl, k < w.heap.size := by
  obtain ⟨S, R, rfl, hr, r⟩ := h
  exact hr.lt
theorem GObj.more {w : World} {l p : Nat} {fl : List Nat} {sn : List Int} {rs : List (List Int)} {m m' : Nat} (h : GObj w l p fl sn rs m) (hm : m ≤ m') : GObj w l p fl sn rs m' := by
  obtain ⟨S, R, h1, h2, h3, h4, h5⟩ := h
  exact ⟨S, R, h1, h2, h3, h4, Nat.le_trans h5 hm⟩
/-- A record was laid behind the others. -/
def Added (l p : Nat) (S : ByteArray) (R : List Rc) (t : ByteArray) (w : World) (r : Ending) (w' : World) : Prop :=
  r = .returned (.tuple #[]) ∧ ∃ b, w.heap.size ≤ b ∧ GRaw w' l p S (⟨b, t⟩ :: R) ∧ Moved w w' [l]
set_option maxRecDepth 100000 in
set_option maxHeartbeats 1000000 in
theorem add_any (l p : Nat) (S : ByteArray) (R : List Rc) (A : Option Addr) (n c : Nat) (ys : List Int) (w : World) (hG : GRaw w l p S R) (hA : NRow .u8 w A ys) (hn : ys.length = n) :
    Calls Tryd.prog 54 #[.pointer (some ⟨l, 0, none⟩), .slice A n c] w (Added l p S R (strOfNums ys) w) := by
  obtain ⟨a, ha⟩ := rptr_is R
  have c2 := cell_at hG.at_ 2 (v := .pointer a) (by rw [← ha]; rfl)
  have f2 := free_at hG.at_ 2
  have hcv := run_convert_nrow (P := Tryd.prog) w.drew 27 9 5 Tryd.underlying27 Tryd.underlying5 Tryd.underlying9 A n c ys hA.drew hn
  obtain ⟨s, hs⟩ : ∃ s, s = strOfNums ys := ⟨_, rfl⟩
  rw [← hs] at hcv
  have HS := Lib.hid hs
  have HG := Lib.hid hG
  have HA := Lib.hid ha
  have hp2 := (hG.still ((Moved.refl w []).alloc (.cells #[.pointer a, .string s] 76)).drew).at_
  have d2 := cell_at hp2 2 (v := .pointer a) (by rw [← ha]; rfl)
  have g2 := free_at hp2 2
  clear hA hn hs hG ha hp2 f2
  go_enter Tryd.func54, Tryd.ntmps54
  go_wp2
  go_region
  go_end0
  rw [← HS.out]
  refine ⟨rfl, w.heap.size, Nat.le_refl _, ?_, (((Moved.refl w [l]).alloc _).setCell (.inl (by simp)) _).drew⟩
  have h := HG.out.more s
  rw [HA.out] at h
  exact h.stays (fun _ _ => rfl)
set_option maxRecDepth 100000 in
set_option maxHeartbeats 1000000 in
theorem gsnap_any (l p : Nat) (fl : List Nat) (sn : List Int) (rs : List (List Int)) (m : Nat) (w : World) (hG : GObj w l p fl sn rs m) (hm : m ≤ 1073741824) :
    Calls Tryd.prog 37 #[.pointer (some ⟨l, 0, none⟩)] w fun r w' => ∃ v fl', r = .returned v ∧ TRow w' v sn.length sn ∧ (∀ k ∈ rowOf v, w.heap.size ≤ k ∧ k ∉ fl') ∧ GObj w' l p fl' sn rs m ∧ Step w w' fl fl' := by
  have HG := Lib.hid hG
  obtain ⟨S, R, hfl, hr, rfl, hrs, hb⟩ := hG
  have c1 := cell_at hr.at_ 1 (v := .string S) rfl
  have HT := Lib.hid (TRow.of_string w S (by unfold maxLen; rw [← Pk.nums_len]; omega))
  have hcv := run_bytes_of_string (P := Tryd.prog) w 9 27 5 S Tryd.underlying9 Tryd.underlying27 Tryd.underlying5
  clear hr hrs hfl hb
  go_enter Tryd.func37, Tryd.ntmps37
  go_wp2
  go_ret
  refine ⟨_, fl, rfl, ?_, ?_, HG.out.stays (fun k hk => Below.heap_alloc w _ k (HG.out.lt k hk)), ((Moved.refl w fl).alloc _).drew, fun _ h => .inl h⟩
  · rw [Pk.nums_len]
    exact t_stays HT.out (fun _ _ => rfl)
  · intro k hk
    have h1 : w.heap.size = k := (by simpa [mem_rowOf, Value.ownBlock] using hk)
    exact ⟨by omega, fun h => by have := HG.out.lt k h; omega⟩
end Lg
end Go.Proofs.YtekleamkpfeifaaDoor
