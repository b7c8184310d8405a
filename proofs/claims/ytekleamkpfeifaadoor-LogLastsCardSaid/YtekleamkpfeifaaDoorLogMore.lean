/-
  Rows that stay while a Disk or a Log moves; Read, Synced beside them.
-/
import Derived.Test.YtekleamkpfeifaaDoorLogWakes
import Derived.Test.YtekleamkpfeifaaDoorKB01
namespace Go.Proofs.YtekleamkpfeifaaDoor
namespace Lg
open Go.RowKit Dk Fr
/-- These blocks are there, and are none of those. -/
def Free (w : World) (fr fd : List Nat) : Prop := ∀ k ∈ fr, k < w.heap.size ∧ k ∉ fd
theorem Free.step {w w' : World} {fr S T : List Nat} (h : Free w fr S) (hS : Step w w' S T) : Free w' fr T := fun k hk =>
  ⟨Nat.lt_of_lt_of_le (h k hk).1 hS.1.size, fun ht => (hS.2 k ht).elim (h k hk).2 (fun h' => by have := (h k hk).1; omega)⟩
theorem Free.mono {w : World} {fr S T : List Nat} (h : Free w fr S) (ht : ∀ k ∈ T, k ∈ S) : Free w fr T := fun k hk => ⟨(h k hk).1, fun h' => (h k hk).2 (ht k h')⟩
theorem Free.brows {w w' : World} {A : Option Addr} {vs : List Value} {ps : List (List Int)} {fr S T : List Nat} (h : Free w fr S) (hr : ∀ b ∈ rowsOf A vs ps, b ∈ fr) (hB : BRows w A vs ps) (hS : Step w w' S T) : BRows w' A vs ps := hB.moved hS.1 (fun b hb hm => (h b (hr b hb)).2 hm)
theorem Free.nrow {w w' : World} {A : Option Addr} {n c : Nat} {xs : List Int} {S T : List Nat} (h : Free w (rowOf (.slice A n c)) S) (hA : NRow .u8 w A xs) (hS : Step w w' S T) : NRow .u8 w' A xs := nrowx_moved hA hS.1 (fun b hb hm => (h b (rowX_rowOf hb)).2 hm)
theorem Free.on {w w' : World} {fr fd T : List Nat} (h : Free w fr fd) (hS : Step w w' [] T) : Free w' fr fd := fun k hk => ⟨Nat.lt_of_lt_of_le (h k hk).1 hS.1.size, (h k hk).2⟩
/-- What is new is none of what was there. -/
theorem free_new {w w1 : World} {fp T : List Nat} (hfp : ∀ k ∈ fp, k < w.heap.size) (hS : Step w w1 [] T) (hT : ∀ k ∈ T, k < w1.heap.size) : Free w1 T fp := fun k hk => ⟨hT k hk, fun h => by have := hfp k h; have := Step.new hS k hk; omega⟩
theorem Free.lent {w : World} {fd : List Nat} {A : Option Addr} {n c : Nat} {ys : List Int} (h : Free w (rowOf (.slice A n c)) fd) (hA : NRow .u8 w A ys) (hl : ys.length = n) (hn : A = none → c = 0) (hc : n ≤ c ∧ c ≤ 9223372036854775807) (hb : ByteList ys) : Lent w fd A n c ys :=
  ⟨hA, hl, hn, hc, hb, fun k hk => (h k (rowX_rowOf hk)).2⟩
theorem row_const (w : World) (xs : List Int) (cs : Array Value) (e : TypeId) (fr : Nat × Nat) (hcs : cs.toList = xs.map (Value.int .u8)) : NRow .u8 (w.alloc (.cells cs e fr)) (some ⟨w.heap.size, 0, none⟩) xs := fun i x hx => ⟨w.heap.size, 0, rfl, by
  rw [cell_of_row _ _ _ _ _ _ (heap_alloc_new w _), ← Array.getElem?_toList, hcs, List.getElem?_map, Nat.zero_add, hx]
  rfl⟩
theorem Free.grow {w w' : World} {fr fd : List Nat} (h : Free w fr fd) (hs : w.heap.size ≤ w'.heap.size) : Free w' fr fd := fun k hk => ⟨Nat.lt_of_lt_of_le (h k hk).1 hs, (h k hk).2⟩
theorem Free.own {w w' : World} {base : Nat} {e : TypeId} {v : Value} {n : Nat} {xs : List Value} {S T : List Nat} (h : Free w (rowOf v) S) (ho : w.ownsRow base e 1 v n xs) (hS : Step w w' S T) : w'.ownsRow base e 1 v n xs := own_moved ho hS.1 (fun b hb hm => (h b hb).2 hm)
theorem brows_lt {w : World} {A : Option Addr} {vs : List Value} {ps : List (List Int)} (h : BRows w A vs ps) : ∀ b ∈ rowsOf A vs ps, b < w.heap.size := h.lt
/-- The k-th of rows that came in, in a later world. -/
theorem elem_was {W w : World} {A : Option Addr} {vs : List Value} {ps : List (List Int)} {k : Nat} (h : BRows W A vs ps) (hM : Moved W w []) (hb : ∀ p ∈ ps, ByteList p) (hk : k < ps.length) :
    ∃ b off B c q, A = some ⟨b, off, none⟩ ∧ ps[k]? = some q ∧ w.cell? ⟨b, off + k, none⟩ = some (.slice B q.length c) ∧ Was W B q.length c q ∧ vs[k]? = some (.slice B q.length c) := by
  obtain ⟨b, off, B, c, q, rfl, hq, hc, hr, hn, h1, h2, hv⟩ := h.at_ hk
  refine ⟨b, off, B, c, q, rfl, hq, ?_, ⟨hr, rfl, hn, ⟨h1, h2⟩, hb q (List.mem_of_getElem? hq)⟩, hv⟩
  rw [World.cell?_of_block (w := W) (hM.block _ (World.block_lt_of_cell? W _ hc) (fun h => by cases h))]
  exact hc
theorem cut_ok {xs : List Int} {safe j : Nat} (h : j ≤ xs.length) : DSt.cut (j : Int) ⟨xs, safe, false, none⟩ = (0, ⟨xs.take j, j, false, none⟩) := by
  unfold DSt.cut
  rw [if_neg (by simp), if_neg (by dsimp only; omega)]
  unfold DSt.stroke
  simp
theorem open_just {rs : List (List Int)} (h : ∀ r ∈ rs, r.length ≤ 131071) (k : Nat) : openSt ⟨recFrames rs, k, false, none⟩ = (0, ⟨recFrames rs, k, false, none⟩) := by
  unfold openSt
  rw [if_neg (by simp)]
  dsimp only
  rw [log_just h]
  dsimp only
  rw [if_neg (by omega)]
theorem open_log {ys sn : List Int} {rs : List (List Int)} (h : logOf ys = (sn, rs, ys.length)) (k : Nat) : openSt ⟨ys, k, false, none⟩ = (0, ⟨ys, k, false, none⟩) := by
  unfold openSt
  rw [if_neg (by simp)]
  dsimp only
  rw [h]
  dsimp only
  rw [if_neg (by omega)]
theorem left_all (xs : List Int) (k : Int) : left xs xs.length k = xs := by unfold left; rw [if_neg (by omega)]
section
variable {D : World → Nat → List Nat → DSt → Nat → Prop} {G : World → Nat → Nat → List Nat → List Int → List (List Int) → Nat → Prop} {W w : World} {p l : Nat} {fp fd fl : List Nat} {s s' : DSt} {sn : List Int} {rs : List (List Int)} {m : Nat}
variable (L : LLaws D G)
include L
theorem at_drewN (h : At D W w p fp s m) (n : Nat) : At D W (w.drewN n) p fp s m := ⟨L.disk.stays h.on (fun _ _ => rfl), h.old.drewN n, h.new⟩
/-- What Read leaves: new bytes, and the Disk. -/
theorem readS {e : Int} {out : List Int} (h : At D W w p fp s m) (he : s.off = e) (ho : s.read = out) (hm : m ≤ 35184372088832) :
    Calls Tryd.prog 29 #[.pointer (some ⟨p, 0, none⟩)] w fun r w' => ∃ A c fp', r = .returned (.tuple #[.slice A out.length c, .int .i64 e]) ∧ TRow w' (.slice A out.length c) out.length out ∧ (A = none → c = 0) ∧ (out.length ≤ c ∧ c ≤ 9223372036854775807) ∧ (∀ k ∈ rowOf (.slice A out.length c), w.heap.size ≤ k) ∧ Free w' (rowOf (.slice A out.length c)) fp' ∧ At D W w' p fp' s m ∧ Step w w' fp fp' := by
  subst he ho
  refine (L.disk.read p fp s m w h.on hm).mono ?_
  rintro r w' ⟨v, fp', rfl, hT, hn, hD, hS⟩
  obtain ⟨A, c, rfl, h1, h2⟩ := t_shape hT
  exact ⟨A, c, fp', rfl, hT, h1, h2, fun k hk => (hn k hk).1, fun k hk => ⟨t_lt hT k hk, (hn k hk).2⟩, h.step hD hS, hS⟩
theorem readL {e : Int} {out : List Int} (h : LAt D G W w p l fd fl s sn rs m) (he : s.off = e) (ho : s.read = out) (hm : m ≤ 35184372088832) :
    Calls Tryd.prog 29 #[.pointer (some ⟨p, 0, none⟩)] w fun r w' => ∃ A c fd', r = .returned (.tuple #[.slice A out.length c, .int .i64 e]) ∧ TRow w' (.slice A out.length c) out.length out ∧ (A = none → c = 0) ∧ (out.length ≤ c ∧ c ≤ 9223372036854775807) ∧ (∀ k ∈ rowOf (.slice A out.length c), w.heap.size ≤ k) ∧ Free w' (rowOf (.slice A out.length c)) (fd' ++ fl) ∧ LAt D G W w' p l fd' fl s sn rs m ∧ Step w w' fd fd' := by
  refine (readS L h.at_ he ho hm).mono ?_
  rintro r w' ⟨A, c, fd', rfl, hT, h1, h2, hn, hF, hD, hS⟩
  exact ⟨A, c, fd', rfl, hT, h1, h2, hn, fun k hk => ⟨(hF k hk).1, fun h' => (List.mem_append.1 h').elim (hF k hk).2 (fun h' => by have := L.lt h.log k h'; have := hn k hk; omega)⟩, h.side L hD.on hS, hS⟩
theorem syncedL {k : Nat} (h : LAt D G W w p l fd fl s sn rs m) (hs : s.safe = k) (hm : m ≤ 35184372088832) :
    Calls Tryd.prog 39 #[.pointer (some ⟨p, 0, none⟩)] w fun r w' => r = .returned (.int .i64 k) ∧ ∃ fd', LAt D G W w' p l fd' fl s sn rs m ∧ Step w w' fd fd' := by
  subst hs
  refine (L.disk.synced p fd s m w h.disk hm).mono ?_
  rintro r w' ⟨rfl, f1, h1, hS⟩
  exact ⟨rfl, f1, h.side L h1 hS, hS⟩
theorem syncedS {k : Nat} (h : At D W w p fp s m) (hs : s.safe = k) (hm : m ≤ 35184372088832) :
    Calls Tryd.prog 39 #[.pointer (some ⟨p, 0, none⟩)] w fun r w' => r = .returned (.int .i64 k) ∧ ∃ fp', At D W w' p fp' s m ∧ Step w w' fp fp' := by
  subst hs
  refine (L.disk.synced p fp s m w h.on hm).mono ?_
  rintro r w' ⟨rfl, f1, h1, hS⟩
  exact ⟨rfl, f1, h.step h1 hS, hS⟩
/-- The rows that Recs answers are free of the Log and of its Disk. -/
theorem recsS (h : LAt D G W w p l fd fl s sn rs m) (hm : m ≤ 1073741824) :
    Calls Tryd.prog 35 #[.pointer (some ⟨l, 0, none⟩)] w fun r w' => ∃ A c vs fl' fr, r = .returned (.slice A rs.length c) ∧ TRows w' (.slice A rs.length c) rs fr ∧ BRows w' A vs rs ∧ (A = none → c = 0) ∧ (rs.length ≤ c ∧ c ≤ 9223372036854775807) ∧ (∀ b ∈ rowsOf A vs rs, b ∈ fr) ∧ (∀ k ∈ fr, w.heap.size ≤ k) ∧ Free w' fr (fd ++ fl') ∧ LAt D G W w' p l fd fl' s sn rs m ∧ Step w w' fl fl' := by
  refine (h.recs L hm).mono ?_
  rintro r w' ⟨A, c, vs, fl', fr, rfl, hT, hB, hn, hc, hr, hf, hl, hS⟩
  obtain ⟨_, _, _, _, _, _, _, _, _, _, _, hlt, -⟩ := id hT
  exact ⟨A, c, vs, fl', fr, rfl, hT, hB, hn, hc, hr, fun k hk => (hf k hk).1, fun k hk => ⟨hlt k hk, fun h' => (List.mem_append.1 h').elim (hf k hk).2.2 (hf k hk).2.1⟩, hl, hS⟩
theorem at_on (h : At D W w p fp s m) {w1 : World} {T : List Nat} (hS : Step w w1 [] T) : At D W w1 p fp s m := h.keeps L.disk.still hS (fun _ h => by cases h) (fun _ h => by cases h)
theorem appendS {A : Option Addr} {n c : Nat} {ys : List Int} {e : Int} (h : At D W w p fp s m) (hY : Lent w fp A n c ys) (he : s.off = e) (hs : s.add ys = s') (hm : m + n ≤ 35184372088832) :
    Calls Tryd.prog 23 #[.pointer (some ⟨p, 0, none⟩), .slice A n c] w fun r w' => r = .returned (.int .i64 e) ∧ ∃ fp', At D W w' p fp' s' (m + n) ∧ Step w w' fp fp' := by
  subst he hs
  refine (L.disk.append p fp s m A n c ys w h.on hY hm).mono ?_
  rintro r w' ⟨rfl, f1, hD, hS⟩
  exact ⟨rfl, f1, h.step hD hS, hS⟩
theorem crashS {k : Int} (h : At D W w p fp s m) (hs : s.crash k = s') (hm : m ≤ 35184372088832) (h0 : -9223372036854775808 ≤ k) (h1 : k ≤ 9223372036854775807) :
    Calls Tryd.prog 21 #[.pointer (some ⟨p, 0, none⟩), .int .i64 k] w fun r w' => r = .returned (.tuple #[]) ∧ ∃ fp', At D W w' p fp' s' m ∧ Step w w' fp fp' := by
  subst hs
  refine (L.disk.crash p fp s m k w h.on hm h0 h1).mono ?_
  rintro r w' ⟨rfl, f1, hD, hS⟩
  exact ⟨rfl, f1, h.step hD hS, hS⟩
theorem startS (h : At D W w p fp s m) (hs : s.start = s') (hm : m ≤ 35184372088832) :
    Calls Tryd.prog 34 #[.pointer (some ⟨p, 0, none⟩)] w fun r w' => r = .returned (.tuple #[]) ∧ ∃ fp', At D W w' p fp' s' m ∧ Step w w' fp fp' := by
  subst hs
  refine (L.disk.start p fp s m w h.on hm).mono ?_
  rintro r w' ⟨rfl, f1, hD, hS⟩
  exact ⟨rfl, f1, h.step hD hS, hS⟩
theorem tripL {k : Int} (h : LAt D G W w p l fd fl s sn rs m) (hs : s.arm k = s') (h0 : -9223372036854775808 ≤ k) (h1 : k ≤ 9223372036854775807) :
    Calls Tryd.prog 19 #[.pointer (some ⟨p, 0, none⟩), .int .i64 k] w fun r w' => r = .returned (.tuple #[]) ∧ ∃ fd', LAt D G W w' p l fd' fl s' sn rs m ∧ Step w w' fd fd' := by
  subst hs
  refine (L.disk.trip p fd s m k w h.disk h0 h1).mono ?_
  rintro r w' ⟨rfl, f1, hD, hS⟩
  exact ⟨rfl, f1, h.side L hD hS, hS⟩
end
end Lg
end Go.Proofs.YtekleamkpfeifaaDoor
