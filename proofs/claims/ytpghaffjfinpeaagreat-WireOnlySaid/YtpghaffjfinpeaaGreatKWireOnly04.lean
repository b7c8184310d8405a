/-
  5 texts in one: PackRText, PackRAmount, ReadSt, WireKinds, WireObj.
-/
import Derived.Test.YtpghaffjfinpeaaGreatKWireOnly03
import Derived.Test.YtpghaffjfinpeaaGreatKWireOnly02
import Derived.Deep.RegionHeld3
import Derived.Laws.Tables
import Derived.Test.YtpghaffjfinpeaaGreatKWireOnly01
import Derived.Deep.WholeRow
import Derived.Deep.MidRow
import Derived.Test.YtpghaffjfinpeaaGreatKWireOnly00

/-
  CONTRACTS of (*pack.Reader).Text and of pack.NewReader.
-/
namespace Go.Proofs.YtpghaffjfinpeaaGreat
namespace Pk
open Go.RowKit
theorem rtells_none {p : Nat} {fp fp' : List Nat} {st : St} {w w' : World} (h : RObj w' p fp' st) (hS : Step w w' fp fp') : Tells RObj p fp st [] w (.returned (.slice none 0 0)) w' :=
  ⟨_, fp', rfl, ⟨rfl, .inl ⟨rfl, rfl⟩⟩, by simp [rowOf, Value.ownBlock], h, hS⟩
/-- The text is a new row; then the Reader goes on. -/
theorem rtells_some {p n : Nat} {s : ByteArray} {w w1 : World} (hp : w1.heap[p]? = some (.cells #[.string s, .int .i64 0] 151 (0, 0))) (hs : s.size ≤ 70368744177664) (hn : n ≤ s.size) (hS : Step w w1 [p] [p]) {W2 : World} {v : Value}
    (hv : v = .slice (some ⟨w1.heap.size, 0, none⟩) (s.extract 0 n).size (grownCap w1 (s.extract 0 n).size 0 5))
    (hW : W2 = (w1.drew.alloc (.cells (bytesRow (s.extract 0 n) (grownCap w1 (s.extract 0 n).size 0 5)) 5 ((bytesRow (s.extract 0 n) (grownCap w1 (s.extract 0 n).size 0 5)).size, (bytesRow (s.extract 0 n) (grownCap w1 (s.extract 0 n).size 0 5)).size + 1)))) :
    Tells RObj p [p] (.ok ((nums s).drop n)) ((nums s).take n) w (.returned v) (W2.setCell ⟨p, 0, none⟩ (.string (s.extract n s.size))) := by
  have hT := TRow.of_string w1 (s.extract 0 n) (by unfold maxLen; simp; omega)
  rw [← hv, ← hW, show (s.extract 0 n).data.toList.map (fun b => (b.toNat : Int)) = (nums s).take n from nums_to s n] at hT
  have hlp := lt_of_block hp
  have hM : Moved w1 W2 [] := by rw [hW]; exact ((Moved.refl w1 []).drew).alloc _
  have hp2 : W2.heap[p]? = some (.cells #[.string s, .int .i64 0] 151 (0, 0)) := (hM.block p hlp (by simp)).trans hp
  have hro : ∀ k ∈ rowOf v, k = w1.heap.size := fun k hk => by subst hv; simpa [mem_rowOf, Value.ownBlock, eq_comm] using hk
  have R := r_next (n := n) hp2 hs
  have hl : ((nums s).take n).length = (s.extract 0 n).size := by rw [← nums_to, nums_len]
  refine ⟨v, [p], rfl, ?_, fun k hk => ?_, R.1, ?_⟩
  · rw [hl]
    exact t_stays hT (fun k hk => Below.heap_setCell _ _ _ k (by have := hro k hk; show k ≠ p; omega))
  · have := hro k hk
    have := hS.1.size
    exact ⟨by omega, by simp; omega⟩
  · exact (hS.trans (⟨hM.mono (fun _ h => by cases h), fun _ h => .inl h⟩ : Step w1 W2 [p] [p])).trans R.2
set_option maxRecDepth 100000 in
set_option maxHeartbeats 2000000 in
theorem rtext_any (p : Nat) (fp : List Nat) (st : St) (w : World) (hR : RObj w p fp st) :
    Calls Tryz.prog 55 #[.pointer (some ⟨p, 0, none⟩)] w (Tells RObj p fp st.text.2 st.text.1 w) := by
  obtain rfl : fp = [p] := hR.1
  have HR := Lib.hid hR
  clear hR
  go_enter Tryz.func55, Tryz.ntmps55
  go_wp2_with fail
  refine (ruint_any p _ st _ HR.out).mono ?_
  rintro e1 w1 ⟨rfl, fp1, hR1, hS1⟩
  have HS1 := Lib.hid hS1
  clear hS1
  rcases uint_split st with ⟨e, hu⟩ | ⟨n, bs, hu⟩
  · have HT := Lib.hid (text_bad hu)
    rw [hu] at hR1 ⊢
    have HR1 := Lib.hid hR1
    obtain ⟨rfl, s, e1, hp, hs, he1, he2, rfl⟩ := hR1
    have c0 := cell_at hp 0 (v := .string ByteArray.empty) rfl
    have c1 := cell_at hp 1 (v := .int .i64 e1) rfl
    have he3 : (e1 != 0) = true := by rw [he1]; simpa using he2
    clear hu hp he1 he2
    go_wp2
    go_ret
    rw [HT.out]
    exact rtells_none HR1.out HS1.out
  · have HU := Lib.hid hu
    have hn64 : n < 18446744073709551616 := by have := robj_bound HR.out; rw [hu] at this; exact this
    have HN64 := Lib.hid hn64
    rw [hu] at hR1 ⊢
    obtain ⟨rfl, s, e1, hp, hs, rfl, rfl⟩ := hR1
    have c0 := cell_at hp 0 (v := .string s) rfl
    have c1 := cell_at hp 1 (v := .int .i64 0) rfl
    have HP := Lib.hid hp
    clear hu hp hn64
    by_cases h5 : 131072 < n
    · have HT := Lib.hid (text_long HU.out h5)
      go_wp2_with (go_at_call 77; refine (rfail_new p s 5 _ HP.out (by omega)).mono ?_; rintro e2 w2 ⟨rfl, hR2, hS2⟩; have HR2 := Lib.hid hR2; have HS2 := Lib.hid (HS1.out.trans hS2); clear hS2; obtain ⟨-, s2, e2, hp2, -, rfl, -, rfl⟩ := hR2; have d1 := cell_at hp2 1 (v := .int .i64 5) rfl; clear hp2)
      go_ret
      rw [HT.out]
      exact rtells_none HR2.out HS2.out
    · by_cases h4 : s.size < n
      · have HT := Lib.hid (text_short HU.out h5 (by rw [nums_len]; exact h4))
        go_wp2_with (go_at_call 77; refine (rfail_new p s 4 _ HP.out (by omega)).mono ?_; rintro e2 w2 ⟨rfl, hR2, hS2⟩; have HR2 := Lib.hid hR2; have HS2 := Lib.hid (HS1.out.trans hS2); clear hS2; obtain ⟨-, s2, e2, hp2, -, rfl, -, rfl⟩ := hR2; have d1 := cell_at hp2 1 (v := .int .i64 4) rfl; clear hp2)
        go_ret
        rw [HT.out]
        exact rtells_none HR2.out HS2.out
      · have HT := Lib.hid (text_fine HU.out h5 (by rw [nums_len]; exact h4))
        have hcv := run_bytes_of_string (P := Tryz.prog) w1 9 22 5 (s.extract 0 n) Tryz.underlying9 Tryz.underlying22 Tryz.underlying5
        obtain ⟨W2, hW2⟩ : ∃ W2, W2 = (w1.drew.alloc (.cells (bytesRow (s.extract 0 n) (grownCap w1 (s.extract 0 n).size 0 5)) 5 ((bytesRow (s.extract 0 n) (grownCap w1 (s.extract 0 n).size 0 5)).size, (bytesRow (s.extract 0 n) (grownCap w1 (s.extract 0 n).size 0 5)).size + 1))) := ⟨_, rfl⟩
        obtain ⟨v2, hv2⟩ : ∃ v2, v2 = Value.slice (some ⟨w1.heap.size, 0, none⟩) (s.extract 0 n).size (grownCap w1 (s.extract 0 n).size 0 5) := ⟨_, rfl⟩
        rw [← hW2, ← hv2] at hcv
        have hM : Moved w1 W2 [] := by rw [hW2]; exact ((Moved.refl w1 []).drew).alloc _
        have hp2 : W2.heap[p]? = some (.cells #[.string s, .int .i64 0] 151 (0, 0)) := (hM.block p (lt_of_block HP.out) (by simp)).trans HP.out
        have d0 := cell_at hp2 0 (v := .string s) rfl
        have g0 := free_at hp2 0
        have HW2 := Lib.hid hW2
        have HV2 := Lib.hid hv2
        clear hW2 hv2 hM hp2
        go_wp2
        go_ret
        rw [HT.out]
        exact rtells_some HP.out hs (by omega) HS1.out HV2.out HW2.out
set_option maxRecDepth 100000 in
theorem rnew_any (A : Option Addr) (n c : Nat) (xs : List Int) (w : World) (hA : NRow .u8 w A xs) (hn : xs.length = n) (hb : ByteList xs) (hlen : n ≤ 70368744177664) :
    Calls Tryz.prog 31 #[.slice A n c] w fun r w' => ∃ p fp, r = .returned (.pointer (some ⟨p, 0, none⟩)) ∧ RObj w' p fp (.ok xs) ∧ Step w w' [] fp := by
  have hcv := run_convert_nrow (P := Tryz.prog) w 22 9 5 Tryz.underlying22 Tryz.underlying5 Tryz.underlying9 A n c xs hA hn
  have HB := Lib.hid hb
  have HL : Hid ((strOfNums xs).size ≤ 70368744177664) := by show _ ≤ _; rw [← nums_len, nums_str hb, hn]; exact hlen
  obtain ⟨s, hs⟩ : ∃ s, s = strOfNums xs := ⟨_, rfl⟩
  rw [← hs] at hcv HL
  have HS := Lib.hid hs
  clear hA hn hb hs
  go_enter Tryz.func31, Tryz.ntmps31
  go_wp2
  go_ret
  exact ⟨w.heap.size, [w.heap.size], rfl, ⟨rfl, s, 0, heap_alloc_new w _, HL.out, rfl, by rw [HS.out]; exact nums_str HB.out⟩, (Moved.refl _ _).alloc _, fun k hk => .inr (by simp at hk; omega)⟩
end Pk
end Go.Proofs.YtpghaffjfinpeaaGreat

/-
  CONTRACTS of amount.Make and of (*pack.Reader).Amount; what the statements' walks ask of the Reader is had.
-/
namespace Go.Proofs.YtpghaffjfinpeaaGreat
namespace Pk
open Go.RowKit Am
theorem count_any (n : Int) (w : World) (b : Bool) (hb : cnt n = b) :
    Calls Tryz.prog 95 #[.int .i64 n] w fun e w' => e = .returned (.bool b) ∧ w = w' := by
  by_cases h : cnt n = true
  · obtain rfl : b = true := by rw [← hb, h]
    obtain ⟨h1, h2⟩ := cnt_yes h
    clear hb h
    go_enter Tryz.func95, Tryz.ntmps95
    go_wp2
    go_ret
    exact ⟨rfl, rfl⟩
  · obtain rfl : b = false := by rw [← hb]; simpa using h
    have h' := cnt_no h
    clear hb h
    rcases h' with h | h
    · go_enter Tryz.func95, Tryz.ntmps95
      go_wp2
      go_ret
      exact ⟨rfl, rfl⟩
    · have hd : decide (n ≤ 1048576) = false := by simp; omega
      have h0 : 0 ≤ n := by omega
      go_enter Tryz.func95, Tryz.ntmps95
      go_wp2
      go_ret
      exact ⟨rfl, rfl⟩
set_option maxRecDepth 100000 in
theorem make_ok (n l : Int) (w : World) (hn : 0 ≤ n ∧ n ≤ 1048576) (hl : 0 ≤ l ∧ l ≤ 1048576) :
    Calls Tryz.prog 85 #[.int .i64 n, .int .i64 l] w fun e w' => e = .returned (.tuple #[amt n l, .int .i64 0]) ∧ w = w' := by
  have HN : Hid (cnt n = true) := by show cnt n = true; simp [cnt, hn]
  have HL : Hid (cnt l = true) := by show cnt l = true; simp [cnt, hl]
  obtain ⟨h1, h2⟩ := hn
  obtain ⟨h3, h4⟩ := hl
  go_enter Tryz.func85, Tryz.ntmps85
  go_wp2_with fail
  refine (count_any n _ true HN.out).mono ?_
  rintro e1 w1 ⟨rfl, rfl⟩
  go_wp2_with fail
  refine (count_any l _ true HL.out).mono ?_
  rintro e1 w1 ⟨rfl, rfl⟩
  go_wp2
  go_ret2
  exact ⟨rfl, rfl⟩
set_option maxRecDepth 100000 in
theorem make_no (n l : Int) (w : World) (h : cnt n = false ∨ cnt l = false) :
    Calls Tryz.prog 85 #[.int .i64 n, .int .i64 l] w fun e w' => e = .returned (.tuple #[.complex .f64 0 0, .int .i64 2]) ∧ w = w' := by
  by_cases hn : cnt n = false
  · have HN := Lib.hid hn
    clear h hn
    go_enter Tryz.func85, Tryz.ntmps85
    go_wp2_with fail
    refine (count_any n _ false HN.out).mono ?_
    rintro e1 w1 ⟨rfl, rfl⟩
    go_wp2
    go_ret2
    exact ⟨rfl, rfl⟩
  · have HN : Hid (cnt n = true) := by show cnt n = true; simpa using hn
    have HL : Hid (cnt l = false) := by rcases h with h | h; exact absurd h hn; exact h
    clear h hn
    go_enter Tryz.func85, Tryz.ntmps85
    go_wp2_with fail
    refine (count_any n _ true HN.out).mono ?_
    rintro e1 w1 ⟨rfl, rfl⟩
    go_wp2_with fail
    refine (count_any l _ false HL.out).mono ?_
    rintro e1 w1 ⟨rfl, rfl⟩
    go_wp2
    go_ret2
    exact ⟨rfl, rfl⟩
theorem cnt_big {n : Nat} (h64 : n < 18446744073709551616) (h : 1048576 < n) : cnt (wrap64 (n : Int)) = false := by
  unfold cnt wrap64
  simp only [decide_eq_false_iff_not]
  omega
set_option maxRecDepth 100000 in
set_option maxHeartbeats 2000000 in
theorem ramount_any (p : Nat) (fp : List Nat) (st : St) (w : World) (hR : RObj w p fp st) :
    Calls Tryz.prog 57 #[.pointer (some ⟨p, 0, none⟩)] w (Goes RObj p fp st.amount.2 (amt st.amount.1.1 st.amount.1.2) w) := by
  obtain rfl : fp = [p] := hR.1
  have HB := Lib.hid (robj_bound hR)
  have HR := Lib.hid hR
  clear hR
  obtain ⟨n, hn⟩ : ∃ n, st.uint.1 = n := ⟨_, rfl⟩
  obtain ⟨s1, hs1⟩ : ∃ s1, st.uint.2 = s1 := ⟨_, rfl⟩
  have HN := Lib.hid hn
  have HS := Lib.hid hs1
  clear hn hs1
  go_enter Tryz.func57, Tryz.ntmps57
  go_wp2_with fail
  refine (ruint_any p _ st _ HR.out).mono ?_
  rintro e1 w1 ⟨rfl, fp1, hR1, hS1⟩
  rw [HS.out] at hR1
  rw [HN.out]
  have HR1 := Lib.hid hR1
  have HS1 := Lib.hid hS1
  clear hS1 hR1
  go_wp2_with fail
  refine (ruint_any p _ s1 _ HR1.out).mono ?_
  rintro e2 w2 ⟨rfl, fp2, hR2, hS2⟩
  have HS2 := Lib.hid (HS1.out.trans hS2)
  clear hS2
  rcases uint_split s1 with ⟨e, hu⟩ | ⟨k, bs, hu⟩
  · have HT := Lib.hid (amount_bad (s := st) (by rw [HS.out]; exact hu))
    rw [hu] at hR2 ⊢
    have HR2 := Lib.hid hR2
    obtain ⟨rfl, s, e1, hp, hs, he1, he2, rfl⟩ := hR2
    have c1 := cell_at hp 1 (v := .int .i64 e1) rfl
    have he3 : (e1 != 0) = true := by rw [he1]; simpa using he2
    clear hu hp he1 he2
    go_wp2
    go_ret
    rw [HT.out]
    exact ⟨by rw [← amt_zero]; rfl, _, HR2.out, HS2.out⟩
  · have HU := Lib.hid hu
    have HB2 := Lib.hid (robj_bound HR1.out)
    rw [hu] at hR2 HB2 ⊢
    have HR2 := Lib.hid hR2
    obtain ⟨rfl, s, e1, hp, hs, rfl, hbs⟩ := hR2
    have c1 := cell_at hp 1 (v := .int .i64 0) rfl
    have HP := Lib.hid hp
    clear hu hp hbs hs
    by_cases h5 : 1048576 < n ∨ 1048576 < k
    · have HT := Lib.hid (amount_big HN.out (by rw [HS.out]; exact HU.out) h5)
      have HC : Hid (cnt (wrap64 (n : Int)) = false ∨ cnt (wrap64 (k : Int)) = false) := by
        rcases h5 with h5 | h5
        · exact .inl (cnt_big (by rw [← HN.out]; exact HB.out) h5)
        · exact .inr (cnt_big HB2.out h5)
      clear h5
      go_wp2_with (first
        | (go_at_call 85; refine (make_no _ _ _ HC.out).mono ?_; rintro e3 w3 ⟨rfl, rfl⟩)
        | (go_at_call 77; refine (rfail_new p _ 2 _ HP.out (by omega)).mono ?_; rintro e3 w3 ⟨rfl, hR3, hS3⟩; have HR3 := Lib.hid hR3; have HS3 := Lib.hid (HS2.out.trans hS3); clear hR3 hS3))
      go_ret
      rw [HT.out]
      exact ⟨by rw [← amt_zero]; rfl, _, HR3.out, HS3.out⟩
    · have HT := Lib.hid (amount_fine HN.out (by rw [HS.out]; exact HU.out) h5)
      have h6 : n ≤ 1048576 := by omega
      have h7 : k ≤ 1048576 := by omega
      clear h5
      go_wp2_with (go_at_call 85; refine (make_ok _ _ _ (by omega) (by omega)).mono ?_; rintro e3 w3 ⟨rfl, rfl⟩)
      go_ret
      rw [HT.out]
      exact ⟨rfl, _, HR2.out, HS2.out⟩
theorem rlaws : RLaws RObj where
  stays := RObj.stays
  lt := RObj.lt
  bytes := fun h => by obtain ⟨_, s, _, _, _, _, rfl⟩ := h; exact nums_bytes s
  len := fun h => by obtain ⟨_, s, _, _, hs, _, rfl⟩ := h; rw [nums_len]; exact hs
  fine := fun h => by obtain ⟨_, s, _, _, _, rfl, he, _⟩ := h; exact he
  new := fun A n c xs w hA hn hb _ hlen => rnew_any A n c xs w hA hn hb hlen
  uint := ruint_any
  int := rint_any
  mark := rmark_any
  text := rtext_any
  amount := ramount_any
  done := rdone_any
end Pk
end Go.Proofs.YtpghaffjfinpeaaGreat

/-
  A wire.reader in a walk: its Reader's state, its mark; what a call of it has read so far; the contracts of the Reader's methods in these words.
-/
namespace Go.Proofs.YtpghaffjfinpeaaGreat
namespace Wi
open Go.RowKit Pk Am
/-- At block q stands a wire.reader whose Reader stands at block p; both are in the state x. -/
structure Rd (w : World) (q p : Nat) (x : Rs) : Prop where
  blk : w.heap[q]? = some (.cells #[.pointer (some ⟨p, 0, none⟩), .bool x.t] 93 (0, 0))
  obj : RObj w p [p] x.s
  ne : p ≠ q
theorem Rd.ltq {w : World} {q p : Nat} {x : Rs} (h : Rd w q p x) : q < w.heap.size := lt_of_block h.blk
theorem Rd.ltp {w : World} {q p : Nat} {x : Rs} (h : Rd w q p x) : p < w.heap.size := rlaws.lt h.obj p (by simp)
theorem Rd.stays {w w' : World} {q p : Nat} {x : Rs} (h : Rd w q p x) (hk : ∀ k, k < w.heap.size → w'.heap[k]? = w.heap[k]?) : Rd w' q p x :=
  ⟨(hk q h.ltq).trans h.blk, h.obj.stays (fun k hm => by simp at hm; subst hm; exact hk _ h.ltp), h.ne⟩
theorem Rd.cell {w : World} {q p : Nat} {x : Rs} (h : Rd w q p x) : w.cell? ⟨q, 0, none⟩ = some (.pointer (some ⟨p, 0, none⟩)) := cell_at h.blk 0 rfl
theorem Rd.bytes {w : World} {q p : Nat} {x : Rs} (h : Rd w q p x) : St.Bytes x.s := by
  cases hs : x.s with
  | bad e => trivial
  | ok bs => have := h.obj; rw [hs] at this; exact rlaws.bytes this
/-- The blocks that were laid between two worlds. -/
def New (a b : World) (k : Nat) : Prop := a.heap.size ≤ k ∧ k < b.heap.size
/-- From the world w on ds were read, which vs hold; now the reader is in the state y. -/
structure Got (q p : Nat) (x : Rs) (w : World) (K : List Kind) (vs : List Value) (ds : List Dat) (y : Rs) (w' : World) : Prop where
  rd : Rd w' q p y
  moved : Moved w w' [p, q]
  start : p < w.heap.size ∧ q < w.heap.size
  data : HoldsDs w' (New w w') K vs ds
  back : Back x ds y
theorem Got.refl {q p : Nat} {x : Rs} {w : World} (h : Rd w q p x) : Got q p x w [] [] [] x w := ⟨h, Moved.refl _ _, ⟨h.ltp, h.ltq⟩, HoldsDs.none_ _ _, Back.refl x⟩
theorem Got.trans {q p : Nat} {x y z : Rs} {w w1 w1' w2 : World} {K K2 : List Kind} {vs v2 : List Value} {ds d2 : List Dat} (h : Got q p x w K vs ds y w1) (a : Moved w1 w1' []) (g : Got q p y w1' K2 v2 d2 z w2) :
    Got q p x w (K ++ K2) (vs ++ v2) (ds ++ d2) z w2 := by
  have hm : Moved w1 w2 [p, q] := (a.mono (fun _ h => by cases h)).trans g.moved (fun k hk => .inl hk)
  have hs := hm.size
  have h1 := h.moved.size
  refine ⟨g.rd, h.moved.trans hm (fun k hk => .inl hk), h.start, HoldsDs.append ?_ ?_, h.back.trans g.back⟩
  · exact HoldsDs.to (fun k hk => ⟨hm.block k hk.2 (by
      have h3 := h.start
      have h4 := hk.1
      simp only [List.mem_cons, List.not_mem_nil, or_false, not_or]
      omega), hk.1, by have := hk.2; omega⟩) _ _ _ h.data
  · exact HoldsDs.to (fun k hk => ⟨rfl, by have := hk.1; have := a.size; omega, hk.2⟩) _ _ _ g.data
theorem Got.of {q p : Nat} {x : Rs} {w w' : World} {K : Kind} {v : Value} {d : Dat} {s' : St} (h : Rd w q p x) {fp' : List Nat} (ho : RObj w' p fp' s') (hS : Step w w' [p] fp') (hd : HoldsD w' (New w w') K v d) (hb : Back x [d] ⟨s', x.t⟩) : Got q p x w [K] [v] [d] ⟨s', x.t⟩ w' := by
  obtain ⟨rfl, _⟩ := id ho
  refine ⟨⟨(hS.1.block q h.ltq (by simp; exact h.ne.symm)).trans h.blk, ho, h.ne⟩, hS.1.mono (fun k hk => by simp at hk; simp [hk]), ⟨h.ltp, h.ltq⟩, HoldsDs.one hd, hb⟩
theorem g_int (q p : Nat) (x : Rs) (w : World) (h : Rd w q p x) :
    Calls Tryz.prog 33 #[.pointer (some ⟨p, 0, none⟩)] w fun r w' => ∃ n y, r = .returned (.int .i64 n) ∧ Got q p x w [.num] [.int .i64 n] [.num n] y w' := by
  refine (rlaws.int p [p] x.s w h.obj).mono ?_
  rintro e w1 ⟨rfl, fp', hO, hS⟩
  have hb := robj_bound h.obj
  refine ⟨_, _, rfl, Got.of h hO hS ?_ (back_int (s := x.s) (t := x.t) h.bytes)⟩
  rw [HoldsD]
  refine ⟨_, rfl, rfl, ?_⟩
  unfold St.int unzig
  simp only
  split <;> omega
theorem g_mark (q p : Nat) (x : Rs) (w : World) (h : Rd w q p x) :
    Calls Tryz.prog 35 #[.pointer (some ⟨p, 0, none⟩)] w fun r w' => ∃ c y, r = .returned (.bool c) ∧ Got q p x w [.mark] [.bool c] [.mark c] y w' := by
  refine (rlaws.mark p [p] x.s w h.obj).mono ?_
  rintro e w1 ⟨rfl, fp', hO, hS⟩
  exact ⟨_, _, rfl, Got.of h hO hS (by rw [HoldsD]; exact ⟨_, rfl, rfl⟩) (back_mark (s := x.s) (t := x.t) h.bytes)⟩
theorem g_amount (q p : Nat) (x : Rs) (w : World) (h : Rd w q p x) :
    Calls Tryz.prog 57 #[.pointer (some ⟨p, 0, none⟩)] w fun r w' => ∃ (n l W V : Nat) (y : Rs), r = .returned (.complex .f64 W V) ∧ Got q p x w [.amt] [.complex .f64 W V] [.amt n l] y w' := by
  refine (rlaws.amount p [p] x.s w h.obj).mono ?_
  rintro e w1 ⟨rfl, fp', hO, hS⟩
  exact ⟨_, _, _, _, _, rfl, Got.of h hO hS (by rw [HoldsD]; exact ⟨_, _, rfl, rfl, amount_le x.s⟩) (back_amount (s := x.s) (t := x.t) h.bytes)⟩
theorem g_text (q p : Nat) (x : Rs) (w : World) (h : Rd w q p x) :
    Calls Tryz.prog 55 #[.pointer (some ⟨p, 0, none⟩)] w fun r w' => ∃ A n c l y, r = .returned (.slice A n c) ∧ Got q p x w [.text] [.slice A n c] [.text l] y w' := by
  have hlen : x.s.text.1.length ≤ 131072 := by
    unfold St.text
    split
    · simp
    · rename_i n bs hu
      split
      · simp
      · split
        · simp
        · simp only [List.length_take]; omega
  refine (rlaws.text p [p] x.s w h.obj).mono ?_
  rintro e w1 ⟨v, fp', rfl, hT, hf, hO, hS⟩
  obtain ⟨A, c, rfl, hc, -⟩ := t_shape hT
  refine ⟨A, _, c, x.s.text.1, _, rfl, Got.of h hO hS ?_ (back_text (s := x.s) (t := x.t) h.bytes)⟩
  rw [HoldsD]
  exact ⟨A, _, c, _, rfl, rfl, hT.nrow, rfl, hc, fun k hk => ⟨(hf k (rowX_rowOf hk)).1, t_lt hT k (rowX_rowOf hk)⟩, by omega⟩
/-- A number is read: how many elements follow. -/
theorem g_uint (q p : Nat) (x : Rs) (w : World) (h : Rd w q p x) :
    Calls Tryz.prog 53 #[.pointer (some ⟨p, 0, none⟩)] w fun r w' => ∃ (n : Nat) (y : Rs), r = .returned (.int .u64 n) ∧ n < 18446744073709551616 ∧ Rd w' q p y ∧ Moved w w' [p, q] ∧ y.t = x.t ∧ (∀ bs, y.s = .ok bs → x.s = .ok (enc n ++ bs)) := by
  have hb := robj_bound h.obj
  refine (rlaws.uint p [p] x.s w h.obj).mono ?_
  rintro e w1 ⟨rfl, fp', hO, hS⟩
  obtain ⟨rfl, _⟩ := id hO
  exact ⟨_, ⟨x.s.uint.2, x.t⟩, rfl, hb, ⟨(hS.1.block q h.ltq (by simp; exact h.ne.symm)).trans h.blk, hO, h.ne⟩, hS.1.mono (fun k hk => by simp at hk; simp [hk]), rfl, fun bs h1 => back_uint h.bytes bs h1⟩
end Wi
end Go.Proofs.YtpghaffjfinpeaaGreat

/-
  PLAIN: the kinds of the fields of each struct that package wire writes.
-/
namespace Go.Proofs.YtpghaffjfinpeaaGreat
namespace Wi
open Go.RowKit Pk Am
abbrev Kint : List Kind := [.num]
abbrev Kid : List Kind := [.num, .num]
abbrev Kspan : List Kind := [.num, .num]
abbrev Kpart : List Kind := [.num, .num, .num]
abbrev Kuse : List Kind := [.num, .num, .num]
abbrev Kslot : List Kind := [.num, .num, .num]
abbrev Kbusy : List Kind := [.num, .num, .amt]
abbrev Koffer : List Kind := [.num, .list 8 Kspan]
abbrev Kjob : List Kind := [.num, .num, .num, .amt, .num, .num, .num, .num, .list 8 Kint, .mark]
abbrev Kresv : List Kind := [.num, .num, .num, .num, .num, .amt, .mark, .num]
abbrev Kcopy : List Kind := [.num, .num, .num, .amt, .num, .num, .num, .num, .list 8 Kint, .mark, .num, .num, .num, .num, .num, .num, .num]
abbrev Kown : List Kind := [.num, .num, .num, .amt, .num, .num, .num, .num, .list 8 Kint, .mark, .num, .num, .num, .mark, .num, .num, .num, .num, .list 8 Kint, .list 8 Koffer, .list 8 Kpart]
abbrev Kmsg : List Kind := [.num, .num, .num, .num, .num, .num, .mark, .num, .num, .num, .amt, .num, .num, .num, .num, .list 8 Kint, .mark, .list 8 Kspan]
abbrev Krec : List Kind := [.num, .num, .num, .num, .num, .num, .num, .num, .mark, .num, .num, .num, .amt, .num, .num, .num, .num, .list 8 Kint, .mark, .num, .num, .amt, .list 8 Kspan, .list 256 Kslot]
abbrev Kreply : List Kind := [.num, .num, .num, .num, .num, .num, .num]
abbrev Kframe : List Kind := [.num, .num, .num, .num, .num, .num, .text]
abbrev Kstate : List Kind := [.num, .amt, .num, .mark, .num, .num, .list 1024 Kown, .list 1024 Kcopy, .list 1024 Kresv, .list 1024 Kslot, .list 1024 Kuse, .num]
/-- A whole struct into the block that was made last. -/
theorem wpList_store_new {P : Program} {ops : Array Oper} {rest : List Oper} {op : Oper} {a : Act} {w : World} {Q : Exit → Act → World → Prop} (hgd : op.guard = none) (ty : TypeId) (x y : Operand) (ho : op.op = .store ty x y)
    (c cells : Array Value) (hx : a.eval x = .pointer (some ⟨w.heap.size, 0, none⟩)) (hy : a.eval y = .agg cells) (hi : (P.info? ty).map (·.size) = some cells.size) (hs : c.size = cells.size) (h1 : cells.all (·.oneCell') = true)
    (h : wpList P ops Q rest (a.put op.dst undef) (w.alloc (.cells cells ty))) : wpList P ops Q (op :: rest) a (w.alloc (.cells c ty)) :=
  wpList_plain hgd fun _ hK => by
    unfold Oper.wp execOp
    simp only [ho, hx, hy, Sem.run_bind, run_storeAt_new w ty c cells hi hs h1, Result.andThen_ok]
    exact hK _ _ h
theorem range_new (w : World) (vs : List Value) (T : TypeId) : (w.alloc (.cells vs.toArray T)).rangeAt w.heap.size 0 vs := fun j v hv => by
  rw [Nat.zero_add, cell_of_row _ _ _ _ _ _ (heap_alloc_new w _)]; simpa using hv
mutual
theorem Holds.one {w : World} {b : Nat} : ∀ (K : Kind) (v : Value) (d : Dat), Holds w b K v d → v.oneCell' = true
  | .num, v, d, h => by rw [Holds] at h; obtain ⟨_, _, rfl, _⟩ := h; rfl
  | .mark, v, d, h => by rw [Holds] at h; obtain ⟨_, _, rfl⟩ := h; rfl
  | .amt, v, d, h => by rw [Holds] at h; obtain ⟨_, _, _, rfl, _⟩ := h; rfl
  | .text, v, d, h => by rw [Holds] at h; obtain ⟨_, _, _, _, _, rfl, _⟩ := h; rfl
  | .list most K, v, d, h => by rw [Holds] at h; obtain ⟨_, _, _, _, _, rfl, _⟩ := h; rfl
theorem HoldsAll.one {w : World} {b : Nat} : ∀ (K : List Kind) (vs : List Value) (ds : List Dat), HoldsAll w b K vs ds → vs.all (·.oneCell') = true
  | [], vs, ds, h => by rw [HoldsAll] at h; obtain ⟨rfl, _⟩ := h; rfl
  | k :: ks, vs, ds, h => by
    rw [HoldsAll] at h
    obtain ⟨v, vs', d, ds', rfl, rfl, h3, h4⟩ := h
    rw [List.all_cons, Holds.one k v d h3, HoldsAll.one ks vs' ds' h4]; rfl
end
theorem HoldsAll.num {w : World} {b : Nat} {ks : List Kind} {vs : List Value} {ds : List Dat} (h : HoldsAll w b (.num :: ks) vs ds) : ∃ n vs' ds', vs = .int .i64 n :: vs' ∧ ds = .num n :: ds' ∧ (-9223372036854775808 ≤ n ∧ n ≤ 9223372036854775807) ∧ HoldsAll w b ks vs' ds' := by
  rw [HoldsAll] at h
  obtain ⟨v, vs', d, ds', rfl, rfl, h3, h4⟩ := h
  rw [Holds] at h3
  obtain ⟨n, rfl, rfl, h5⟩ := h3
  exact ⟨n, vs', ds', rfl, rfl, h5, h4⟩
theorem HoldsAll.mark {w : World} {b : Nat} {ks : List Kind} {vs : List Value} {ds : List Dat} (h : HoldsAll w b (.mark :: ks) vs ds) : ∃ c vs' ds', vs = .bool c :: vs' ∧ ds = .mark c :: ds' ∧ HoldsAll w b ks vs' ds' := by
  rw [HoldsAll] at h
  obtain ⟨v, vs', d, ds', rfl, rfl, h3, h4⟩ := h
  rw [Holds] at h3
  obtain ⟨c, rfl, rfl⟩ := h3
  exact ⟨c, vs', ds', rfl, rfl, h4⟩
theorem HoldsAll.amt {w : World} {b : Nat} {ks : List Kind} {vs : List Value} {ds : List Dat} (h : HoldsAll w b (.amt :: ks) vs ds) : ∃ (n l : Nat) (vs' : List Value) (ds' : List Dat), vs = Am.amt n l :: vs' ∧ ds = .amt n l :: ds' ∧ (n ≤ 1048576 ∧ l ≤ 1048576) ∧ HoldsAll w b ks vs' ds' := by
  rw [HoldsAll] at h
  obtain ⟨v, vs', d, ds', rfl, rfl, h3, h4⟩ := h
  rw [Holds] at h3
  obtain ⟨n, l, rfl, rfl, h5⟩ := h3
  exact ⟨n, l, vs', ds', rfl, rfl, h5, h4⟩
theorem HoldsAll.list {w : World} {b most : Nat} {K ks : List Kind} {vs : List Value} {ds : List Dat} (h : HoldsAll w b (.list most K :: ks) vs ds) : ∃ A n c rows vs' ds', vs = .slice A n c :: vs' ∧ ds = .list most rows :: ds' ∧ Holds w b (.list most K) (.slice A n c) (.list most rows) ∧ HoldsAll w b ks vs' ds' := by
  rw [HoldsAll] at h
  obtain ⟨v, vs', d, ds', rfl, rfl, h3, h4⟩ := h
  have h3' := h3
  rw [Holds] at h3
  obtain ⟨A, n, c, rows, rfl, rfl, _⟩ := h3
  exact ⟨A, n, c, rows, vs', ds', rfl, rfl, h3', h4⟩
theorem HoldsAll.text {w : World} {b : Nat} {ks : List Kind} {vs : List Value} {ds : List Dat} (h : HoldsAll w b (.text :: ks) vs ds) : ∃ A n c l vs' ds', vs = .slice A n c :: vs' ∧ ds = .text l :: ds' ∧ Holds w b .text (.slice A n c) (.text l) ∧ HoldsAll w b ks vs' ds' := by
  rw [HoldsAll] at h
  obtain ⟨v, vs', d, ds', rfl, rfl, h3, h4⟩ := h
  have h3' := h3
  rw [Holds] at h3
  obtain ⟨A, n, c, l, rfl, rfl, _⟩ := h3
  exact ⟨A, n, c, l, vs', ds', rfl, rfl, h3', h4⟩
theorem HoldsAll.nil {w : World} {b : Nat} {vs : List Value} {ds : List Dat} (h : HoldsAll w b [] vs ds) : vs = [] ∧ ds = [] := by rw [HoldsAll] at h; exact h
theorem hZ {w : World} {b : Nat} : HoldsAll w b [] [] [] := by rw [HoldsAll]; exact ⟨rfl, rfl⟩
theorem hN {w : World} {b : Nat} {ks : List Kind} {vs : List Value} {ds : List Dat} {n : Int} (i : -9223372036854775808 ≤ n ∧ n ≤ 9223372036854775807) (h : HoldsAll w b ks vs ds) : HoldsAll w b (.num :: ks) (.int .i64 n :: vs) (.num n :: ds) := by
  rw [HoldsAll]; exact ⟨_, _, _, _, rfl, rfl, by rw [Holds]; exact ⟨n, rfl, rfl, i⟩, h⟩
theorem hM {w : World} {b : Nat} {ks : List Kind} {vs : List Value} {ds : List Dat} {c : Bool} (h : HoldsAll w b ks vs ds) : HoldsAll w b (.mark :: ks) (.bool c :: vs) (.mark c :: ds) := by
  rw [HoldsAll]; exact ⟨_, _, _, _, rfl, rfl, by rw [Holds]; exact ⟨c, rfl, rfl⟩, h⟩
theorem hA {w : World} {b : Nat} {ks : List Kind} {vs : List Value} {ds : List Dat} {n l : Nat} (i : n ≤ 1048576 ∧ l ≤ 1048576) (h : HoldsAll w b ks vs ds) : HoldsAll w b (.amt :: ks) (Am.amt n l :: vs) (.amt n l :: ds) := by
  rw [HoldsAll]; exact ⟨_, _, _, _, rfl, rfl, by rw [Holds]; exact ⟨n, l, rfl, rfl, i⟩, h⟩
theorem hAv {w : World} {b : Nat} {ks : List Kind} {vs : List Value} {ds : List Dat} {n l : Nat} {a : Value} (e : a = Am.amt n l) (i : n ≤ 1048576 ∧ l ≤ 1048576) (h : HoldsAll w b ks vs ds) : HoldsAll w b (.amt :: ks) (a :: vs) (.amt n l :: ds) := by
  subst e
  exact hA i h
theorem hL {w : World} {b most : Nat} {K ks : List Kind} {v : Value} {d : Dat} {vs : List Value} {ds : List Dat} (i : Holds w b (.list most K) v d) (h : HoldsAll w b ks vs ds) : HoldsAll w b (.list most K :: ks) (v :: vs) (d :: ds) := by
  rw [HoldsAll]; exact ⟨_, _, _, _, rfl, rfl, i, h⟩
theorem nrow_lits {k : IntKind} {w : World} {g : Nat} (hg : w.heap.size = g) (l : List Int) {cs : Array Value} (e : TypeId) (h : cs = (l.map (Value.int k)).toArray) : NRow k (w.alloc (.cells cs e)) (some ⟨g, 0, none⟩) l := by
  subst h hg
  intro i x hx
  exact ⟨w.heap.size, 0, rfl, by rw [cell_of_row _ _ _ _ _ _ (heap_alloc_new w _)]; simp [hx]⟩
theorem rowX_new {w : World} {g : Nat} (hg : w.heap.size = g) {l : List Int} {fp : List Nat} (h : ∀ k ∈ fp, k < w.heap.size) : ∀ k ∈ rowX (some ⟨g, 0, none⟩) l, k ∉ fp := by
  subst hg
  intro k hk hf
  obtain ⟨a, e, _, rfl⟩ := mem_rowX.1 hk
  injection e with e
  subst e
  have := h _ hf
  simp at this
end Wi
end Go.Proofs.YtpghaffjfinpeaaGreat

/-
  (The Writer within a wire.writer, whose mark is t.)
  A pack.Writer in memory: its row of bytes, its error, its room. (Its struct: the bytes, the error, a pointer to the room; the room: its owner, from where on it is free.)
-/
namespace Go.Proofs.YtpghaffjfinpeaaGreat
namespace Wi
open Go.RowKit Pk
variable {t : Bool}

/-- At block p stands a Writer in the state s that keeps at most m bytes; fp are its blocks. -/
def WObj (t : Bool) (w : World) (p : Nat) (fp : List Nat) (s : WSt) (m : Nat) : Prop :=
  match s with
  | .bad e => fp = [p] ∧ e ≠ 0 ∧ w.heap[p]? = some (.cells #[.slice none 0 0, .int .i64 e, .pointer none, .bool t] 70 (0, 0))
  | .ok bs => bs.length ≤ m ∧ ((bs = [] ∧ fp = [p] ∧ w.heap[p]? = some (.cells #[.slice none 0 0, .int .i64 0, .pointer none, .bool t] 70 (0, 0))) ∨
      ∃ v q, fp = p :: q :: rowOf v ∧ w.heap[p]? = some (.cells #[v, .int .i64 0, .pointer (some ⟨q, 0, none⟩), .bool t] 70 (0, 0)) ∧
        w.heap[q]? = some (.cells #[.pointer (some ⟨p, 0, none⟩), .int .i64 bs.length] 180 (0, 0)) ∧ w.ownsRow 0 5 1 v bs.length (bs.map (Value.int .u8)) ∧ q ≠ p ∧ v.ownBlock ≠ some p ∧ v.ownBlock ≠ some q)
theorem WObj.stays {w w' : World} {p : Nat} {fp : List Nat} {s : WSt} {m : Nat} (h : WObj t w p fp s m) (hk : ∀ k ∈ fp, w'.heap[k]? = w.heap[k]?) : WObj t w' p fp s m := by
  cases s with
  | bad e =>
    obtain ⟨rfl, he, hp⟩ := h
    exact ⟨rfl, he, by rw [hk p (by simp)]; exact hp⟩
  | ok bs =>
    obtain ⟨hm, ⟨rfl, rfl, hp⟩ | ⟨v, q, rfl, hp, hq, hr, h1, h2, h3⟩⟩ := h
    · exact ⟨hm, .inl ⟨rfl, rfl, by rw [hk p (by simp)]; exact hp⟩⟩
    · exact ⟨hm, .inr ⟨v, q, rfl, by rw [hk p (by simp)]; exact hp, by rw [hk q (by simp)]; exact hq, own_stays hr (fun k hm => hk k (by simp [hm])), h1, h2, h3⟩⟩
theorem WObj.lt {w : World} {p : Nat} {fp : List Nat} {s : WSt} {m : Nat} (h : WObj t w p fp s m) : ∀ k ∈ fp, k < w.heap.size := by
  cases s with
  | bad e =>
    obtain ⟨rfl, he, hp⟩ := h
    intro k hk
    simp at hk
    subst hk
    exact lt_of_block hp
  | ok bs =>
    obtain ⟨hm, ⟨rfl, rfl, hp⟩ | ⟨v, q, rfl, hp, hq, hr, h1, h2, h3⟩⟩ := h
    · intro k hk
      simp at hk
      subst hk
      exact lt_of_block hp
    · intro k hk
      simp only [List.mem_cons] at hk
      rcases hk with rfl | rfl | hk
      · exact lt_of_block hp
      · exact lt_of_block hq
      · exact own_lt hr k hk
theorem WObj.more {w : World} {p : Nat} {fp : List Nat} {s : WSt} {m m' : Nat} (h : WObj t w p fp s m) (hm : m ≤ m') : WObj t w p fp s m' := by
  cases s with
  | bad e => exact h
  | ok bs => exact ⟨Nat.le_trans h.1 hm, h.2⟩
theorem WObj.new (w : World) : WObj t (w.alloc (.cells #[.slice none 0 0, .int .i64 0, .pointer none, .bool t] 70)) w.heap.size [w.heap.size] (.ok []) 0 :=
  ⟨Nat.le_refl _, .inl ⟨rfl, rfl, heap_alloc_new w _⟩⟩
/-- What storing the row and the room's place behind an append leaves. -/
theorem WObj.stored {w w1 w2 : World} {p q m n : Nat} {bs ys : List Int} {v v' : Value} {k0 : Int}
    (hp : w.heap[p]? = some (.cells #[v, .int .i64 0, .pointer (some ⟨q, 0, none⟩), .bool t] 70 (0, 0))) (hq : w.heap[q]? = some (.cells #[.pointer (some ⟨p, 0, none⟩), .int .i64 k0] 180 (0, 0)))
    (hqp : q ≠ p) (hnp : v.ownBlock ≠ some p) (hnq : v.ownBlock ≠ some q) (hm : n ≤ m)
    (hown : w1.ownsRow 0 5 1 v' n (bs.map (Value.int .u8) ++ ys.map (Value.int .u8))) (hst : Step w w1 (rowOf v) (rowOf v')) (h2 : w2 = (w1.setCell ⟨p, 0, none⟩ v').setCell ⟨q, 1, none⟩ (.int .i64 n)) :
    ∃ fp', WObj t w2 p fp' (.ok (bs ++ ys)) m ∧ Step w w2 (p :: q :: rowOf v) fp' := by
  subst h2
  have hlt := lt_of_block hp
  have hltq := lt_of_block hq
  have hp1 : w1.heap[p]? = some (.cells #[v, .int .i64 0, .pointer (some ⟨q, 0, none⟩), .bool t] 70 (0, 0)) := by
    rw [hst.1.block p hlt (fun h => hnp (mem_rowOf.1 h))]; exact hp
  have hq1 : w1.heap[q]? = some (.cells #[.pointer (some ⟨p, 0, none⟩), .int .i64 k0] 180 (0, 0)) := by
    rw [hst.1.block q hltq (fun h => hnq (mem_rowOf.1 h))]; exact hq
  have hne : ∀ b, b < w.heap.size → v.ownBlock ≠ some b → v'.ownBlock ≠ some b := by
    intro b hb hv h
    rcases hst.2 b (mem_rowOf.2 h) with h' | h'
    · exact hv (mem_rowOf.1 h')
    · omega
  have hnp' := hne p hlt hnp
  have hnq' := hne q hltq hnq
  have hl : (bs ++ ys).length = n := by have := hown.1; simpa using this
  have hp2 : (w1.setCell ⟨p, 0, none⟩ v').heap[p]? = some (.cells #[v', .int .i64 0, .pointer (some ⟨q, 0, none⟩), .bool t] 70 (0, 0)) := by
    rw [heap_setCell_same w1 p 0 _ _ v' hp1]; rfl
  have hq2 : (w1.setCell ⟨p, 0, none⟩ v').heap[q]? = some (.cells #[.pointer (some ⟨p, 0, none⟩), .int .i64 k0] 180 (0, 0)) := by
    rw [Below.heap_setCell _ _ _ q (by exact hqp)]; exact hq1
  refine ⟨p :: q :: rowOf v', ⟨by omega, .inr ⟨v', q, rfl, ?_, ?_, ?_, hqp, hnp', hnq'⟩⟩, ?_, ?_⟩
  · rw [Below.heap_setCell _ _ _ p (by exact hqp.symm)]; exact hp2
  · rw [heap_setCell_same _ q 1 _ _ _ hq2, hl]; rfl
  · rw [hl, List.map_append]
    exact ownsRow_setCell_other (ownsRow_setCell_other hown (a := ⟨p, 0, none⟩) hnp' v') (a := ⟨q, 1, none⟩) hnq' _
  · exact Moved.setCell (Moved.setCell (hst.1.mono fun k hk => by simp [hk]) (.inl (by simp)) _) (.inl (by simp)) _
  · intro k hk
    simp only [List.mem_cons] at hk
    rcases hk with rfl | rfl | hk
    · exact .inl (by simp)
    · exact .inl (by simp)
    · rcases hst.2 k hk with h | h
      · exact .inl (by simp [h])
      · exact .inr h
end Wi
end Go.Proofs.YtpghaffjfinpeaaGreat
