/-
  5 texts in one: LogOwn, FrameShift, FrameWord, FrameConcat, FrameSeal.
-/
import Derived.Test.YtekleamkpfeifaaDoorKB03
import Derived.Test.YtekleamkpfeifaaDoorKB04
import Derived.BigRegion
import Derived.Deep.QuietTactic
import Derived.BigQuiet
import Derived.Deep.RegionLaw
import Derived.Deep.RegionHeld3
import Derived.Test.YtekleamkpfeifaaDoorKB01
import Derived.Laws.BitsLemmas
import Derived.Test.YtekleamkpfeifaaDoorKB02
import Derived.Lib.SliceRun
import Derived.Lib.AppendZeros

/-
  The program's Log in memory: its records are never changed, each stands behind the one ahead of it; CONTRACTS of its add and of sealed.
-/
namespace Go.Proofs.YtekleamkpfeifaaDoor
namespace Lg
open Go.RowKit Dk Fr
/-- A record: its block, its text. -/
structure Rc where
  b : Nat
  t : ByteArray
def rptr : List Rc → Value
  | [] => .pointer none
  | c :: _ => .pointer (some ⟨c.b, 0, none⟩)
def rblks : List Rc → List Nat
  | [] => []
  | c :: r => c.b :: rblks r
def RcAt (w : World) : List Rc → Prop
  | [] => True
  | c :: r => w.heap[c.b]? = some (.cells #[rptr r, .string c.t] 76 (0, 0)) ∧ (∀ k ∈ rblks r, k < c.b) ∧ RcAt w r
/-- The records, the first one first. -/
def rtexts : List Rc → List (List Int)
  | [] => []
  | c :: r => rtexts r ++ [Pk.nums c.t]
theorem rblks_append : ∀ (a b : List Rc), rblks (a ++ b) = rblks a ++ rblks b
  | [], b => rfl
  | c :: r, b => by rw [List.cons_append, rblks, rblks, rblks_append r b]; rfl
theorem rtexts_append : ∀ (a b : List Rc), rtexts (a ++ b) = rtexts b ++ rtexts a
  | [], b => by simp [rtexts]
  | c :: r, b => by rw [List.cons_append, rtexts, rtexts, rtexts_append r b, List.append_assoc]
theorem rtexts_len : ∀ (R : List Rc), (rtexts R).length = R.length
  | [] => rfl
  | c :: r => by rw [rtexts, List.length_append, rtexts_len r]; rfl
theorem RcAt.tail {w : World} : ∀ {a b : List Rc}, RcAt w (a ++ b) → RcAt w b
  | [], _, h => h
  | _ :: _, _, h => RcAt.tail h.2.2
theorem RcAt.lt {w : World} : ∀ {R : List Rc}, RcAt w R → ∀ k ∈ rblks R, k < w.heap.size
  | [], _, k, hk => by cases hk
  | c :: r, h, k, hk => by
    rcases List.mem_cons.1 hk with rfl | hk
    · exact lt_of_block h.1
    · exact RcAt.lt h.2.2 k hk
theorem RcAt.stays {w w' : World} : ∀ {R : List Rc}, RcAt w R → (∀ k ∈ rblks R, w'.heap[k]? = w.heap[k]?) → RcAt w' R
  | [], _, _ => trivial
  | c :: r, h, hk => ⟨by rw [hk c.b (by simp [rblks])]; exact h.1, h.2.1, RcAt.stays h.2.2 (fun k hm => hk k (by simp [rblks, hm]))⟩
/-- The Log at block l, cell by cell. -/
structure GRaw (w : World) (l p : Nat) (S : ByteArray) (R : List Rc) : Prop where
  at_ : w.heap[l]? = some (.cells #[.pointer (some ⟨p, 0, none⟩), .string S, rptr R] 69 (0, 0))
  rcs : RcAt w R
  ne : l ∉ rblks R
def GObj (w : World) (l p : Nat) (fl : List Nat) (sn : List Int) (rs : List (List Int)) (m : Nat) : Prop :=
  ∃ S R, fl = l :: rblks R ∧ GRaw w l p S R ∧ Pk.nums S = sn ∧ rtexts R = rs ∧ sn.length + 9 * rs.length + rs.flatten.length ≤ m
section
variable {w w' : World} {l p : Nat} {S : ByteArray} {R : List Rc}
theorem GRaw.stays (h : GRaw w l p S R) (hk : ∀ k ∈ l :: rblks R, w'.heap[k]? = w.heap[k]?) : GRaw w' l p S R :=
  ⟨by rw [hk l (by simp)]; exact h.at_, h.rcs.stays (fun k hm => hk k (by simp [hm])), h.ne⟩
theorem GRaw.lt (h : GRaw w l p S R) : ∀ k ∈ l :: rblks R, k < w.heap.size := fun k hk => by
  rcases List.mem_cons.1 hk with rfl | hk
  · exact lt_of_block h.at_
  · exact h.rcs.lt k hk
theorem GRaw.still (h : GRaw w l p S R) (hM : Moved w w' []) : GRaw w' l p S R := h.stays fun k hk => hM.block k (h.lt k hk) (fun h => by cases h)
theorem GRaw.drewN (h : GRaw w l p S R) (n : Nat) : GRaw (w.drewN n) l p S R := h.stays fun _ _ => rfl
theorem rset (h : RcAt w R) (hne : l ∉ rblks R) (i : Nat) (x : Value) : RcAt (w.setCell ⟨l, i, none⟩ x) R :=
  h.stays fun k hk => Below.heap_setCell w ⟨l, i, none⟩ x k (fun e => by subst e; exact hne hk)
theorem GRaw.set1 (h : GRaw w l p S R) (T : ByteArray) : GRaw (w.setCell ⟨l, 1, none⟩ (.string T)) l p T R :=
  ⟨by rw [heap_setCell_same w l 1 _ _ _ h.at_]; rfl, rset h.rcs h.ne _ _, h.ne⟩
theorem GRaw.set2 (h : GRaw w l p S R) {T : List Rc} (hT : RcAt w T) (hne : l ∉ rblks T) : GRaw (w.setCell ⟨l, 2, none⟩ (rptr T)) l p S T :=
  ⟨by rw [heap_setCell_same w l 2 _ _ _ h.at_]; rfl, rset hT hne _ _, hne⟩
/-- A record more, in a block that was made last. -/
theorem GRaw.more (h : GRaw w l p S R) (t : ByteArray) : GRaw ((w.alloc (.cells #[rptr R, .string t] 76)).setCell ⟨l, 2, none⟩ (.pointer (some ⟨w.heap.size, 0, none⟩))) l p S (⟨w.heap.size, t⟩ :: R) := by
  have hl := h.lt l (by simp)
  refine (h.still ((Moved.refl w []).alloc _)).set2 (T := ⟨w.heap.size, t⟩ :: R) ⟨heap_alloc_new w _, fun k hk => h.rcs.lt k hk, h.rcs.stays (fun k hk => Below.heap_alloc w _ k (h.rcs.lt k hk))⟩ ?_
  intro hm
  rcases List.mem_cons.1 hm with rfl | hm
  · exact absurd hl (by simp)
  · exact h.ne hm
end
theorem rptr_is (R : List Rc) : ∃ a, rptr R = .pointer a := by cases R <;> exact ⟨_, rfl⟩
theorem GObj.stays {w w' : World} {l p : Nat} {fl : List Nat} {sn : List Int} {rs : List (List Int)} {m : Nat} (h : GObj w l p fl sn rs m) (hk : ∀ k ∈ fl, w'.heap[k]? = w.heap[k]?) : GObj w' l p fl sn rs m := by
  obtain ⟨S, R, rfl, hr, r⟩ := h
  exact ⟨S, R, rfl, hr.stays hk, r⟩
theorem GObj.lt {w : World} {l p : Nat} {fl : List Nat} {sn : List Int} {rs : List (List Int)} {m : Nat} (h : GObj w l p fl sn rs m) : ∀ k ∈ fl, k < w.heap.size := by
  obtain ⟨S, R, rfl, hr, r⟩ := h
  exact hr.lt
theorem GObj.more {w : World} {l p : Nat} {fl : List Nat} {sn : List Int} {rs : List (List Int)} {m m' : Nat} (h : GObj w l p fl sn rs m) (hm : m ≤ m') : GObj w l p fl sn rs m' := by
  obtain ⟨S, R, h1, h2, h3, h4, h5⟩ := h
  exact ⟨S, R, h1, h2, h3, h4, Nat.le_trans h5 hm⟩
/-- A record was laid behind the others. -/
def Added (l p : Nat) (S : ByteArray) (R : List Rc) (t : ByteArray) (w : World) (r : Ending) (w' : World) : Prop :=
  r = .returned (.tuple #[]) ∧ ∃ b, w.heap.size ≤ b ∧ GRaw w' l p S (⟨b, t⟩ :: R) ∧ Moved w w' [l]
set_option maxRecDepth 100000 in
set_option maxHeartbeats 1000000 in
theorem add_any (l p : Nat) (S : ByteArray) (R : List Rc) (A : Option Addr) (n c : Nat) (ys : List Int) (w : World) (hG : GRaw w l p S R) (hA : NRow .u8 w A ys) (hn : ys.length = n) :
    Calls Tryd.prog 54 #[.pointer (some ⟨l, 0, none⟩), .slice A n c] w (Added l p S R (strOfNums ys) w) := by
  obtain ⟨a, ha⟩ := rptr_is R
  have c2 := cell_at hG.at_ 2 (v := .pointer a) (by rw [← ha]; rfl)
  have f2 := free_at hG.at_ 2
  have hcv := run_convert_nrow (P := Tryd.prog) w.drew 27 9 5 Tryd.underlying27 Tryd.underlying5 Tryd.underlying9 A n c ys hA.drew hn
  obtain ⟨s, hs⟩ : ∃ s, s = strOfNums ys := ⟨_, rfl⟩
  rw [← hs] at hcv
  have HS := Lib.hid hs
  have HG := Lib.hid hG
  have HA := Lib.hid ha
  have hp2 := (hG.still ((Moved.refl w []).alloc (.cells #[.pointer a, .string s] 76)).drew).at_
  have d2 := cell_at hp2 2 (v := .pointer a) (by rw [← ha]; rfl)
  have g2 := free_at hp2 2
  clear hA hn hs hG ha hp2 f2
  go_enter Tryd.func54, Tryd.ntmps54
  go_wp2
  go_region
  go_end0
  rw [← HS.out]
  refine ⟨rfl, w.heap.size, Nat.le_refl _, ?_, (((Moved.refl w [l]).alloc _).setCell (.inl (by simp)) _).drew⟩
  have h := HG.out.more s
  rw [HA.out] at h
  exact h.stays (fun _ _ => rfl)
set_option maxRecDepth 100000 in
set_option maxHeartbeats 1000000 in
theorem gsnap_any (l p : Nat) (fl : List Nat) (sn : List Int) (rs : List (List Int)) (m : Nat) (w : World) (hG : GObj w l p fl sn rs m) (hm : m ≤ 1073741824) :
    Calls Tryd.prog 37 #[.pointer (some ⟨l, 0, none⟩)] w fun r w' => ∃ v fl', r = .returned v ∧ TRow w' v sn.length sn ∧ (∀ k ∈ rowOf v, w.heap.size ≤ k ∧ k ∉ fl') ∧ GObj w' l p fl' sn rs m ∧ Step w w' fl fl' := by
  have HG := Lib.hid hG
  obtain ⟨S, R, hfl, hr, rfl, hrs, hb⟩ := hG
  have c1 := cell_at hr.at_ 1 (v := .string S) rfl
  have HT := Lib.hid (TRow.of_string w S (by unfold maxLen; rw [← Pk.nums_len]; omega))
  have hcv := run_bytes_of_string (P := Tryd.prog) w 9 27 5 S Tryd.underlying9 Tryd.underlying27 Tryd.underlying5
  clear hr hrs hfl hb
  go_enter Tryd.func37, Tryd.ntmps37
  go_wp2
  go_ret
  refine ⟨_, fl, rfl, ?_, ?_, HG.out.stays (fun k hk => Below.heap_alloc w _ k (HG.out.lt k hk)), ((Moved.refl w fl).alloc _).drew, fun _ h => .inl h⟩
  · rw [Pk.nums_len]
    exact t_stays HT.out (fun _ _ => rfl)
  · intro k hk
    have h1 : w.heap.size = k := (by simpa [mem_rowOf, Value.ownBlock] using hk)
    exact ⟨by omega, fun h => by have := HG.out.lt k h; omega⟩
end Lg
end Go.Proofs.YtekleamkpfeifaaDoor

/-
  CONTRACTS of package frame's shift and Sum, as the developers wrote them.
-/
namespace Go.Proofs.YtekleamkpfeifaaDoor
namespace Fr
open Go.RowKit
set_option maxRecDepth 100000 in
set_option maxHeartbeats 1000000 in
theorem shift_any (r : Nat) (w : World) (hr : r < 4294967296) (hld : Ld w) :
    Calls Tryd.prog 73 #[.int .u32 r] w fun e w' => e = .returned (.int .u32 (ticks 4 r : Nat)) ∧ w = w' := by
  have hc := hld (r % 16) _ (tab_at _ (Nat.mod_lt _ (by omega)))
  have ht : ticks 4 (r % 16) < 4294967296 := ticks_lt 4 _ (by omega)
  have H4 := Lib.hid (ticks_four r)
  obtain ⟨x, hx⟩ : ∃ x, x = ticks 4 (r % 16) := ⟨_, rfl⟩
  rw [← hx] at hc ht H4
  have hxor : bits BinOp.xor IntKind.u32 ((r : Int) / 16) (x : Int) = ((r / 16 ^^^ x : Nat) : Int) := by
    rw [show ((r : Int) / 16) = ((r / 16 : Nat) : Int) by omega]
    exact u32_xor_nat (r / 16) x (by omega) ht
  clear hld hx
  go_enter Tryd.func73, Tryd.ntmps73
  go_wp2
  go_ret
  exact ⟨by rw [H4.out]; rfl, rfl⟩
theorem shift_two (v : Nat) : ticks 4 (ticks 4 v) = ticks 8 v := (ticks_add 4 4 v).symm
theorem nats_app (xs ys : List Int) : nats (xs ++ ys) = nats xs ++ nats ys := by simp [nats]
theorem crc_part {ps : List (List Int)} {k v : Nat} {p : List Int} (hp : ps[k]? = some p) : crc v (nats (ps.drop k).flatten) = crc (crc v (nats p)) (nats (ps.drop (k + 1)).flatten) := by
  obtain ⟨hk, he⟩ := List.getElem?_eq_some_iff.1 hp
  rw [List.drop_eq_getElem_cons hk, he, List.flatten_cons, nats_app, crc_append]
theorem turn_all {v : Nat} (hv : v < 4294967296) : bits BinOp.xor IntKind.u32 IntKind.u32.max (v : Int) = (4294967295 : Int) - v := by
  rw [show IntKind.u32.max = ((4294967295 : Nat) : Int) by decide, u32_xor_nat 4294967295 v (by omega) hv]
  have h : 4294967295 ^^^ v = 4294967295 - v := by
    apply Nat.eq_of_testBit_eq
    intro i
    rw [show 4294967295 - v = 2 ^ 32 - (v + 1) by omega, Nat.testBit_two_pow_sub_succ (by omega), Nat.testBit_xor, show 4294967295 = 2 ^ 32 - 1 from rfl, Nat.testBit_two_pow_sub_one]
    by_cases hi : i < 32
    · simp [hi]
    · have hz : v.testBit i = false := Nat.testBit_lt_two_pow (Nat.lt_of_lt_of_le hv (show 2 ^ 32 ≤ 2 ^ i from Nat.pow_le_pow_right (by omega) (by omega)))
      simp [hi, hz]
  rw [h]; omega
theorem byte_xor {s y : Nat} (hs : s < 4294967296) (hy : y < 256) : bits BinOp.xor IntKind.u32 (s : Int) (y : Int) = ((s ^^^ y : Nat) : Int) ∧ s ^^^ y < 4294967296 :=
  ⟨u32_xor_nat s y hs (by omega), Nat.xor_lt_two_pow (n := 32) (by omega) (by omega)⟩
set_option maxRecDepth 100000 in
set_option maxHeartbeats 2000000 in
theorem sum_any (A : Option Addr) (n c : Nat) (vs : List Value) (ps : List (List Int)) (w : World) (hA : BRows w A vs ps) (hn : ps.length = n) (hb : ∀ p ∈ ps, ByteList p) (hlen : n ≤ 1099511627776) (hld : Ld w) :
    Calls Tryd.prog 69 #[.slice A n c] w fun e w' => e = .returned (.int .u32 (sumOf (nats ps.flatten) : Nat)) ∧ w = w' := by
  subst hn
  have HA := Lib.hid hA
  have HB := Lib.hid hb
  have HLD := Lib.hid hld
  clear hA hb hld
  go_enter Tryd.func69, Tryd.ntmps69
  go_wp2
  go_loop [3, 10] (fun r i => ∃ (k v : Nat), r = .int .u32 v ∧ i = .int .i64 k ∧ k ≤ ps.length ∧ v < 4294967296 ∧ Hid (crc 4294967295 (nats ps.flatten) = crc v (nats (ps.drop k).flatten))) (fun _ i => ps.length - (intOf i).toNat)
  case atStart => exact ⟨0, 4294967295, rfl, rfl, by omega, by omega, rfl⟩
  case round =>
    obtain ⟨k, v, rfl, rfl, hk, hv, H⟩ := hrel
    by_cases hlt : k < ps.length
    · obtain ⟨b1, o1, B1, c1, p, rfl, hp1, hc1, hr1, hn1, hcp⟩ := HA.out.at_ (i := k) hlt
      have HX := Lib.hid (H.out.trans (crc_part hp1))
      have HBP := Lib.hid (HB.out p (List.mem_of_getElem? hp1))
      have HR1 := Lib.hid hr1
      have hpl : p.length ≤ 9223372036854775807 := by omega
      clear hp1 hr1 hn1 H hcp
      go_wp2
      go_loop [3, 16] (fun r i => ∃ (j s : Nat), r = .int .u32 s ∧ i = .int .i64 j ∧ j ≤ p.length ∧ s < 4294967296 ∧ Hid (crc v (nats p) = crc s (nats (p.drop j)))) (fun _ i => p.length - (intOf i).toNat)
      case atStart => exact ⟨0, v, rfl, rfl, by omega, hv, rfl⟩
      case round =>
        obtain ⟨j, s, rfl, rfl, hj, hs, HS⟩ := hrel
        by_cases hjl : j < p.length
        · obtain ⟨x, hx⟩ : ∃ x, p[j]? = some x := ⟨p[j], List.getElem?_eq_getElem hjl⟩
          obtain ⟨hx0, hx1⟩ := HBP.out x (List.mem_of_getElem? hx)
          obtain ⟨b, off, rfl, hc⟩ := HR1.out j x hx
          obtain ⟨y, rfl⟩ : ∃ y : Nat, x = y := ⟨x.toNat, by omega⟩
          have HN := Lib.hid (HS.out.trans (crc_at hx))
          obtain ⟨hxor, hxl⟩ := byte_xor hs (show y < 256 by omega)
          have ht1 : ticks 4 (s ^^^ y) < 4294967296 := ticks_lt 4 _ hxl
          have ht2 := ticks_lt 4 _ ht1
          obtain ⟨t1, ht⟩ : ∃ t1, t1 = ticks 4 (s ^^^ y) := ⟨_, rfl⟩
          have HT := Lib.hid ht
          have H2 := Lib.hid (shift_two (s ^^^ y))
          rw [← ht] at ht1 ht2
          clear hx ht HS
          go_wp2_with (fail)
          refine (shift_any _ w hxl HLD.out).mono ?_
          rintro e w1 ⟨rfl, rfl⟩
          rw [← HT.out]
          go_wp2_with (fail)
          refine (shift_any _ w ht1 HLD.out).mono ?_
          rintro e w1 ⟨rfl, rfl⟩
          go_wp2
          go_round
          case rel => exact ⟨j + 1, ticks 4 t1, rfl, by go_num, by omega, ht2, by rw [HT.out, H2.out]; exact HN.out⟩
          case measure => simp [intOf]; omega
        · have HE := Lib.hid (HS.out.trans (by rw [List.drop_of_length_le (by omega)]; rfl : _ = s))
          go_wp2
          go_round
          case rel => exact ⟨k + 1, s, rfl, by go_num, by omega, hs, by show _ = _; rw [HX.out, HE.out]⟩
          case measure => simp [intOf]; omega
    · have HE := Lib.hid (H.out.trans (by rw [List.drop_of_length_le (by omega)]; rfl : _ = v))
      go_wp2
      go_ret
      exact ⟨ret_u32 ((turn_all hv).trans (sum_end HE.out hv)), rfl⟩
end Fr
end Go.Proofs.YtekleamkpfeifaaDoor

/-
  CONTRACTS of package frame's word and number.
-/
namespace Go.Proofs.YtekleamkpfeifaaDoor
namespace Fr
open Go.RowKit
set_option maxRecDepth 100000 in
set_option maxHeartbeats 1000000 in
theorem word_any (v : Nat) (w : World) (hv : v < 4294967296) :
    Calls Tryd.prog 68 #[.int .u32 v] w (NewBytes (be4 v) w) := by
  go_enter Tryd.func68, Tryd.ntmps68
  go_wp2
  go_ret
  have E := own_lit (w := w) (e := 5) (be4 v) (by rw [be4_len]; decide) #[.int .u8 ((v : Int) / 16777216), .int .u8 ((v : Int) / 65536 % 256), .int .u8 ((v : Int) / 256 % 256), .int .u8 ((v : Int) % 256)] (by
    simp only [be4, List.map_cons, List.map_nil]
    rw [show ((v / 16777216 : Nat) : Int) = (v : Int) / 16777216 by omega, show ((v / 65536 % 256 : Nat) : Int) = (v : Int) / 65536 % 256 by omega, show ((v / 256 % 256 : Nat) : Int) = (v : Int) / 256 % 256 by omega, show ((v % 256 : Nat) : Int) = (v : Int) % 256 by omega])
  exact ⟨_, rfl, E.1, E.2⟩
theorem or_join {i : Nat} {x y : Int} (h0 : 0 ≤ x) (h1 : x % 2 ^ i = 0) (h2 : x < 4294967296) (h3 : 0 ≤ y) (h4 : y < 2 ^ i) (h5 : y < 4294967296) : bits .or .u32 x y = x + y :=
  bits_join .u32 32 (by decide) (fun n h h' => by rw [IntKind.wrap_u32']; omega) i x y h0 h1 h2 h3 h4 h5
set_option maxRecDepth 100000 in
set_option maxHeartbeats 1000000 in
theorem number_any (A : Option Addr) (n c : Nat) (xs : List Int) (w : World) (hA : NRow .u8 w A xs) (hn : xs.length = n) (hb : ByteList xs) (h4 : 4 ≤ n) (hn2 : n ≤ 1099511627776) :
    Calls Tryd.prog 71 #[.slice A n c] w fun e w' => e = .returned (.int .u32 (numB xs)) ∧ ∃ m, w' = w.drewN m := by
  obtain ⟨x0, x1, x2, x3, r, rfl⟩ : ∃ x0 x1 x2 x3 r, xs = x0 :: x1 :: x2 :: x3 :: r := by
    rcases xs with _ | ⟨x0, _ | ⟨x1, _ | ⟨x2, _ | ⟨x3, r⟩⟩⟩⟩ <;> simp only [List.length_nil, List.length_cons] at hn
    · omega
    · omega
    · omega
    · omega
    · exact ⟨x0, x1, x2, x3, r, rfl⟩
  obtain ⟨b, off, rfl, c0⟩ := hA 0 x0 rfl
  obtain ⟨b1, off1, e1, c1⟩ := hA 1 x1 rfl
  obtain ⟨b2, off2, e2, c2⟩ := hA 2 x2 rfl
  obtain ⟨b3, off3, e3, c3⟩ := hA 3 x3 rfl
  injection e1 with e1
  injection e1 with e11 e12
  injection e2 with e2
  injection e2 with e21 e22
  injection e3 with e3
  injection e3 with e31 e32
  subst e11 e12 e21 e22 e31 e32
  obtain ⟨g00, g01⟩ := hb x0 (by simp)
  obtain ⟨g10, g11⟩ := hb x1 (by simp)
  obtain ⟨g20, g21⟩ := hb x2 (by simp)
  obtain ⟨g30, g31⟩ := hb x3 (by simp)
  have HN := Lib.hid hn
  have c0 : w.cell? ⟨b, off, none⟩ = some (.int .u8 x0) := c0
  have i0 : 0 < n := by omega
  have i1 : (1 : Int) < n := by omega
  have i2 : (2 : Int) < n := by omega
  have i3 : (3 : Int) < n := by omega
  have p0 : IntKind.u32.wrap x0 = x0 := by rw [IntKind.wrap_u32']; omega
  have p1 : IntKind.u32.wrap x1 = x1 := by rw [IntKind.wrap_u32']; omega
  have p2 : IntKind.u32.wrap x2 = x2 := by rw [IntKind.wrap_u32']; omega
  have p3 : IntKind.u32.wrap x3 = x3 := by rw [IntKind.wrap_u32']; omega
  have q0 : IntKind.u32.wrap (x0 * 16777216) = x0 * 16777216 := by rw [IntKind.wrap_u32']; omega
  have q1 : IntKind.u32.wrap (x1 * 65536) = x1 * 65536 := by rw [IntKind.wrap_u32']; omega
  have q2 : IntKind.u32.wrap (x2 * 256) = x2 * 256 := by rw [IntKind.wrap_u32']; omega
  have r0 : bits BinOp.or IntKind.u32 (x0 * 16777216) (x1 * 65536) = x0 * 16777216 + x1 * 65536 := or_join (i := 24) (by omega) (by omega) (by omega) (by omega) (by omega) (by omega)
  have r1 : bits BinOp.or IntKind.u32 (x0 * 16777216 + x1 * 65536) (x2 * 256) = x0 * 16777216 + x1 * 65536 + x2 * 256 := or_join (i := 16) (by omega) (by omega) (by omega) (by omega) (by omega) (by omega)
  have r2 : bits BinOp.or IntKind.u32 (x0 * 16777216 + x1 * 65536 + x2 * 256) x3 = x0 * 16777216 + x1 * 65536 + x2 * 256 + x3 := or_join (i := 8) (by omega) (by omega) (by omega) (by omega) (by omega) (by omega)
  clear hA hb hn g00 g01 g10 g11 g20 g21 g30 g31
  go_enter Tryd.func71, Tryd.ntmps71
  go_wp2
  go_quiet (fail)
  go_wp2
  go_ret
  exact ⟨rfl, _, rfl⟩
end Fr
end Go.Proofs.YtekleamkpfeifaaDoor

/-
  CONTRACTS of the library's bytes.Clone, slices.Grow (of nil) and slices.Concat, over bytes.
-/
namespace Go.Proofs.YtekleamkpfeifaaDoor
namespace Fr
open Go.RowKit
set_option maxRecDepth 100000 in
set_option maxHeartbeats 1000000 in
theorem clone_any (ad : Addr) (n c : Nat) (xs : List Int) (w : World) (hA : NRow .u8 w (some ad) xs) (hn : xs.length = n) (hlen : n ≤ 70368744177664) :
    Calls Tryd.prog 72 #[.slice (some ad) n c] w (NewBytes xs w) := by
  subst hn
  obtain ⟨i0, hi, hz0, hz1, hz2⟩ := info_parts info_u8
  have q : ∀ (w : World) (a : Option Addr) (n c n' c' : Nat), (binOp .eql 27 (.slice a n c) (.slice none n' c')).run Tryd.prog w = .ok (.bool a.isNone) w := fun w a n c n' c' => Lib.run_eql_slice_nil w _ _ a n c n' c' Tryd.underlying27
  have HA := Lib.hid (hA.alloc (.cells #[] 5))
  have HE := Lib.hid (own_lit (w := w) (e := 5) [] (by decide) #[] rfl)
  clear hA
  go_enter Tryd.func72, Tryd.ntmps72
  go_wp2_with (at_builtin; refine wpList_append_row rfl _ _ 27 rfl 5 i0 .u8 1 Tryd.underlying27 hi hz0 hz1 hz2 (.slice (some ⟨w.heap.size, 0, none⟩) 0 0) 0 [] rfl HE.out.1 _ _ _ _ rfl rfl HA.out (fun h => by cases h) (by unfold maxLen; omega) (by omega) ?_)
  intro v' w1 hown hst
  have HO := Lib.hid hown
  have HST := Lib.hid (show Step w w1 [] (rowOf v') from ⟨HE.out.2.1.trans hst.1 (fun k hk => .inr ((HE.out.2.2 k hk).elim (fun h => by cases h) id)), fun k hk => .inr ((hst.2 k hk).elim (fun h => (HE.out.2.2 k h).elim (fun h => by cases h) id) (fun h => by simp at h; omega))⟩)
  clear hown hst
  go_wp2
  go_ret
  exact ⟨v', rfl, by simpa using HO.out, HST.out⟩
set_option maxRecDepth 100000 in
set_option maxHeartbeats 1000000 in
theorem grow_nil (k : Nat) (w : World) (hk : k ≤ 70368744177664) :
    Calls Tryd.prog 70 #[.slice none 0 0, .int .i64 k] w (NewBytes [] w) := by
  obtain ⟨i0, hi, hz0, hz1, hz2⟩ := info_parts info_u8
  by_cases h0 : k = 0
  · subst h0
    go_enter Tryd.func70, Tryd.ntmps70
    go_wp2
    go_ret
    exact ⟨_, rfl, World.ownsRow_nil _ _ _ _, Step.refl _ _⟩
  · have hpos : 0 < k := by omega
    have hr := fun ty => Lib.run_append_nil_zeros (P := Tryd.prog) w 27 3 ty 5 i0 (.int .u8 0) .i64 .i64 Tryd.underlying27 Tryd.underlying3 hi hz0 k hpos (by omega) (by omega) (by rw [hz2]; omega)
    have hge := grownCap_ge w k 0 5
    have hle := grownCap_le_maxLen w k 0 5 (by unfold maxLen; omega)
    obtain ⟨G, hG⟩ : ∃ G, G = grownCap w k 0 5 := ⟨_, rfl⟩
    rw [← hG] at hr hge hle
    obtain ⟨cs, hcs⟩ : ∃ cs, cs = Builtin.zeroCells (Value.int .u8 0).cells k ++ Builtin.zeroCells (Value.int .u8 0).cells (G - k) := ⟨_, rfl⟩
    have HCS := Lib.hid (show cs.size = G by rw [hcs]; simp [Builtin.zeroCells, Value.cells]; omega)
    rw [← hcs] at hr
    have hG63 : G ≤ 9223372036854775807 := by unfold maxLen at hle; omega
    have HLE := Lib.hid hle
    clear hcs hG hle
    go_enter Tryd.func70, Tryd.ntmps70
    go_wp2_with (at_builtin; refine Lib.wpList_append_run _ rfl _ _ _ _ rfl _ _ rfl rfl _ _ (hr _) ?_)
    all_goals
      go_ret
      exact ⟨_, rfl, ⟨rfl, .inr ⟨w.heap.size, G, cs, rfl, Nat.zero_le _, heap_alloc_new w.drew _, Nat.zero_le _, HLE.out, by simpa using HCS.out, rfl⟩⟩, (Moved.refl w []).drew.alloc _, fun j hj => .inr (by have h1 : w.heap.size = j := (by simpa [mem_rowOf, Value.ownBlock] using hj); omega)⟩
theorem flat_take_len {ps : List (List Int)} {k : Nat} {p : List Int} (hp : ps[k]? = some p) : (ps.take (k + 1)).flatten.length = (ps.take k).flatten.length + p.length := by
  rw [flat_step hp, List.length_append]
set_option maxRecDepth 100000 in
set_option maxHeartbeats 2000000 in
theorem concat_any (A : Option Addr) (n c : Nat) (vs : List Value) (ps : List (List Int)) (w : World) (hA : BRows w A vs ps) (hn : ps.length = n) (hl : n ≤ 1099511627776) (hfl : ps.flatten.length ≤ 1099511627776) :
    Calls Tryd.prog 64 #[.slice A n c] w (NewBytes ps.flatten w) := by
  subst hn
  obtain ⟨i0, hi, hz0, hz1, hz2⟩ := info_parts info_u8
  have HA := Lib.hid hA
  clear hA
  go_enter Tryd.func64, Tryd.ntmps64
  go_wp2
  go_loop [3, 11] (fun s i => ∃ (k sz : Nat), s = .int .i64 sz ∧ i = .int .i64 k ∧ k ≤ ps.length ∧ sz ≤ 1099511627776 ∧ Hid (sz = (ps.take k).flatten.length)) (fun _ i => ps.length - (intOf i).toNat)
  case atStart => exact ⟨0, 0, rfl, rfl, by omega, by omega, by simp [Hid]⟩
  case round =>
    obtain ⟨k, sz, rfl, rfl, hk, hsz, HSZ⟩ := hrel
    by_cases hlt : k < ps.length
    · obtain ⟨b1, o1, B1, c1, p, rfl, hp1, hc1, hr1, hn1, hcp⟩ := HA.out.at_ (i := k) hlt
      have HT := Lib.hid (flat_take_len hp1)
      have hle : sz + p.length ≤ 1099511627776 := by
        have h1 := HT.out
        rw [← HSZ.out] at h1
        have h2 := flat_take_le (ps := ps) (k + 1)
        omega
      clear hp1 hr1 hn1 hcp
      go_wp2
      go_round
      case rel => exact ⟨k + 1, sz + p.length, by go_num, by go_num, by omega, hle, by show _ = _; rw [HT.out, HSZ.out]⟩
      case measure => simp [intOf]; omega
    · have hkl : ps.take k = ps := List.take_of_length_le (by omega)
      clear HSZ hkl
      go_wp2_with fail
      refine (grow_nil sz w (by omega)).mono ?_
      rintro e w1 ⟨v1, rfl, hO1, hS1⟩
      have HO1 := Lib.hid hO1
      have HS1 := Lib.hid hS1
      clear hO1 hS1
      go_wp2
      go_loopw [6, 27] (fun v i wr => ∃ (k : Nat) (al : List Int), i = .int .i64 k ∧ k ≤ ps.length ∧ al.length ≤ 1099511627776 ∧ Hid (al = (ps.take k).flatten) ∧ wr.ownsRow 0 5 1 v al.length (al.map (Value.int .u8)) ∧ Step w wr [] (rowOf v)) (fun _ i _ => ps.length - (intOf i).toNat)
      case atStart => exact ⟨0, [], rfl, by omega, by simp, by simp [Hid], HO1.out, HS1.out⟩
      case round =>
        obtain ⟨k, al, rfl, hk, has, HAS, hO, hS⟩ := hrel
        obtain ⟨Ao, co, rfl, -⟩ := own_shape hO
        have HO := Lib.hid hO
        have HS := Lib.hid hS
        have HA3 := Lib.hid (HA.out.moved hS.1 (fun _ _ h => by cases h))
        clear hO hS
        by_cases hlt : k < ps.length
        · obtain ⟨b1, o1, B1, c1, p, rfl, hp1, hc1, hr1, hn1, -⟩ := HA3.out.at_ (i := k) hlt
          have HT := Lib.hid (show al ++ p = (ps.take (k + 1)).flatten by rw [HAS.out, flat_step hp1])
          have hle : al.length + p.length ≤ 1099511627776 := by
            have h1 := congrArg List.length HT.out
            rw [List.length_append] at h1
            have h2 := flat_take_le (ps := ps) (k + 1)
            omega
          have HR1 := Lib.hid hr1
          have HN1 := Lib.hid hn1
          clear hp1 hr1 hn1
          go_wp2_with (at_builtin; refine wpList_append_row rfl _ _ 27 rfl 5 i0 .u8 1 Tryd.underlying27 hi hz0 hz1 hz2 (.slice Ao al.length co) _ _ rfl HO.out B1 p.length c1 p rfl rfl HR1.out HN1.out (by unfold maxLen; omega) (by omega) ?_)
          intro v2 w3 hown hst
          have HO3 := Lib.hid (show w3.ownsRow 0 5 1 v2 (al ++ p).length ((al ++ p).map (Value.int .u8)) by rw [List.length_append, List.map_append]; exact hown)
          have HS3 := Lib.hid (show Step w w3 [] (rowOf v2) from ⟨HS.out.1.trans hst.1 (fun b hb => .inr (Step.new HS.out b hb)), fun b hb => .inr ((hst.2 b hb).elim (Step.new HS.out b) (fun h => Nat.le_trans HS.out.1.size h))⟩)
          clear hown hst
          obtain ⟨A3, c3, rfl, -⟩ := own_shape HO3.out
          go_wp2
          go_roundw
          case rel => exact ⟨k + 1, al ++ p, by go_num, by omega, by simp; omega, HT.out, HO3.out, HS3.out⟩
          case measure => simp [intOf]; omega
        · have HAS2 := Lib.hid (show al = ps.flatten by rw [HAS.out, List.take_of_length_le (by omega)])
          go_wp2
          go_ret
          exact ⟨_, rfl, by rw [← HAS2.out]; exact HO.out, HS.out⟩
end Fr
end Go.Proofs.YtekleamkpfeifaaDoor

/-
  CONTRACT of package frame's Seal.
-/
namespace Go.Proofs.YtekleamkpfeifaaDoor
namespace Fr
open Go.RowKit
set_option maxRecDepth 100000 in
set_option maxHeartbeats 2000000 in
theorem seal_any (A : Option Addr) (n c : Nat) (xs : List Int) (w : World) (hA : NRow .u8 w A xs) (hn : xs.length = n) (hb : ByteList xs) (hnil : A = none → c = 0) (hc : n ≤ c) (hc2 : c ≤ 9223372036854775807) (hlen : n ≤ 1099511627776) (hld : Ld w) :
    Calls Tryd.prog 63 #[.slice A n c] w (ToldB (sealOut xs) (sealErr xs) w) := by
  subst hn
  by_cases hbig : 131072 < xs.length
  · have ho : sealOut xs = [] := by rw [sealOut, if_pos hbig]
    have he : sealErr xs = 5 := by rw [sealErr, if_pos hbig]
    rw [ho, he]
    clear ho he
    go_enter Tryd.func63, Tryd.ntmps63
    go_wp2
    go_ret2
    exact ⟨.slice none 0 0, rfl, World.ownsRow_nil _ _ _ _, Step.refl _ _⟩
  · have ho : sealOut xs = frameOf xs := by rw [sealOut, if_neg hbig]
    have he : sealErr xs = 0 := by rw [sealErr, if_neg hbig]
    rw [ho, he]
    clear ho he
    have HBX := Lib.hid (show Bites w (.slice A xs.length c) xs from ⟨A, c, rfl, hA, hnil, hc, hc2⟩)
    have HB := Lib.hid hb
    have HLD := Lib.hid hld
    clear hA hb hnil hld
    go_enter Tryd.func63, Tryd.ntmps63
    go_wp2_with fail
    refine (word_any xs.length w (by omega)).mono ?_
    rintro e w1 ⟨v1, rfl, hO1, hS1⟩
    obtain ⟨A1, c1, rfl, -⟩ := own_shape hO1
    have HB1 := Lib.hid (Bites.of_own hO1)
    have HS1 := Lib.hid hS1
    have HX1 := Lib.hid (HBX.out.stays (fun b hb => hS1.1.block b (HBX.out.lt b hb) (fun h => by cases h)))
    have HBR := Lib.hid (brows_two 27 HB1.out HX1.out)
    have HL1 := Lib.hid ((HLD.out.moved hS1.1).alloc (.cells #[.slice A1 (be4 xs.length).length c1, .slice A xs.length c] 27))
    have HM2 := Lib.hid (hS1.1.alloc (.cells #[.slice A1 (be4 xs.length).length c1, .slice A xs.length c] 27))
    have HB12 := Lib.hid (bites_alloc HB1.out (.cells #[.slice A1 (be4 xs.length).length c1, .slice A xs.length c] 27))
    clear hO1 hS1
    go_wp2_with fail
    refine (sum_any _ 2 2 _ [be4 xs.length, xs] _ (by exact HBR.out) rfl (fun p hp => by
      rcases List.mem_cons.1 hp with rfl | hp
      · exact be4_bytes (by omega)
      · simp at hp; subst hp; exact HB.out) (by omega) (by exact HL1.out)).mono ?_
    rintro e w2 ⟨rfl, hw2⟩
    rw [hw2] at HM2 HB12
    clear hw2
    rw [show ([be4 xs.length, xs] : List (List Int)).flatten = be4 xs.length ++ xs by simp]
    obtain ⟨sm, hsm⟩ : ∃ sm, sm = sumOf (nats (be4 xs.length ++ xs)) := ⟨_, rfl⟩
    have hsm2 : sm < 4294967296 := by rw [hsm]; exact sumOf_lt _
    have HFR := Lib.hid (show [be4 xs.length, be4 sm, xs].flatten = frameOf xs by rw [frameOf, hsm]; simp)
    rw [← hsm]
    clear hsm
    go_wp2_with fail
    refine (word_any sm w2 hsm2).mono ?_
    rintro e w3 ⟨v3, rfl, hO3, hS3⟩
    obtain ⟨A3, c3, rfl, -⟩ := own_shape hO3
    have HM3 := Lib.hid (HM2.out.trans hS3.1 (fun _ h => by cases h))
    have HB13 := Lib.hid (HB12.out.stays (fun b hb => hS3.1.block b (HB12.out.lt b hb) (fun h => by cases h)))
    have HX3 := Lib.hid (HBX.out.stays (fun b hb => HM3.out.block b (HBX.out.lt b hb) (fun h => by cases h)))
    have HB3 := Lib.hid (brows_three 27 HB13.out (Bites.of_own hO3) HX3.out)
    have HM4 := Lib.hid (HM3.out.alloc (.cells #[.slice A1 (be4 xs.length).length c1, .slice A3 (be4 sm).length c3, .slice A xs.length c] 27))
    have hfl : [be4 xs.length, be4 sm, xs].flatten.length ≤ 1048576 := by simp [be4_len]; omega
    clear hO3 hS3
    go_wp2_with fail
    refine (concat_any _ 3 3 _ [be4 xs.length, be4 sm, xs] _ (by exact HB3.out) rfl (by omega) (Nat.le_trans hfl (by omega))).mono ?_
    rintro e w5 ⟨v5, rfl, hO5, hS5⟩
    rw [HFR.out] at hO5
    have HO5 := Lib.hid hO5
    have HS5 := Lib.hid (show Step w w5 [] (rowOf v5) from ⟨HM4.out.trans hS5.1 (fun _ h => by cases h), fun k hk => .inr (Nat.le_trans HM4.out.size (Step.new hS5 k hk))⟩)
    clear hO5 hS5
    go_wp2
    go_ret2
    exact ⟨v5, rfl, HO5.out, HS5.out⟩
end Fr
end Go.Proofs.YtekleamkpfeifaaDoor
