/-
  In the middle of an act of LogExact: the Log and the page's Disk, which need not be in one state; and each act on the Log.
-/
import Derived.Test.YtekleamkpfeifaaDoorLogSame
import Derived.Test.YtekleamkpfeifaaDoorLogWakes
namespace Go.Proofs.YtekleamkpfeifaaDoor
namespace Lg
open Go.RowKit Dk Fr
/-- The Log tells sn and rs where it is still good; the page's Disk is in the state t. -/
structure Mid (D : World → Nat → List Nat → DSt → Nat → Prop) (G : World → Nat → Nat → List Nat → List Int → List (List Int) → Nat → Prop) (good : Prop) (W w : World) (p l : Nat) (fd fl : List Nat) (q : Nat) (fq : List Nat) (s : DSt) (sn : List Int) (rs : List (List Int)) (m : Nat) (t : DSt) (km : Nat) : Prop where
  disk : D w p fd s m
  log : good → G w l p fl sn rs m
  page : QObj w q fq t km
  apart : ∀ k ∈ fl, k ∉ fd
  far : ∀ k ∈ fd ++ fl, k ∉ fq
  lt : ∀ k ∈ fl, k < w.heap.size
  old : Moved W w []
  new : ∀ k ∈ fd ++ fl, W.heap.size ≤ k
  newq : ∀ k ∈ fq, W.heap.size ≤ k
section
variable {D : World → Nat → List Nat → DSt → Nat → Prop} {G : World → Nat → Nat → List Nat → List Int → List (List Int) → Nat → Prop} {W w w1 : World} {p l : Nat} {fd fl fd1 fl1 : List Nat} {q : Nat} {fq : List Nat} {s s1 t t1 : DSt} {sn sn1 : List Int} {rs rs1 : List (List Int)} {m m1 km k1 : Nat} {good good1 : Prop}
theorem Mid.at2 (h : Mid D G good W w p l fd fl q fq s sn rs m t km) : At2 D QObj W w p fd s m q fq t km :=
  ⟨⟨h.disk, h.old, fun k hk => h.new k (List.mem_append.2 (.inl hk))⟩, ⟨h.page, h.old, h.newq⟩, fun k hk => h.far k (List.mem_append.2 (.inl hk))⟩
theorem Mid.whole (h : Mid D G good W w p l fd fl q fq s sn rs m s m) (hg : good) (hl : s.dead = false) (hc : logOf s.bs = (sn, rs, s.bs.length)) : PAt D G W w p l fd fl q fq s sn rs m :=
  ⟨⟨h.disk, h.log hg, h.apart, h.old, fun k hk => h.new k (List.mem_append.2 (.inl hk)), fun k hk => h.new k (List.mem_append.2 (.inr hk))⟩, ⟨h.page, h.old, h.newq⟩, h.far, hl, hc⟩
variable (L : LLaws D G)
include L
theorem Mid.below (h : Mid D G good W w p l fd fl q fq s sn rs m t km) : ∀ k ∈ fd ++ fl, k < w.heap.size := fun k hk => (List.mem_append.1 hk).elim (L.disk.lt h.disk k) (h.lt k)
/-- Something that belongs to none of them moves. -/
theorem Mid.keeps (h : Mid D G good W w p l fd fl q fq s sn rs m t km) {S : List Nat} (hM : Moved w w1 S) (hn : ∀ k ∈ S, W.heap.size ≤ k ∧ k ∉ fd ++ fl ∧ k ∉ fq) : Mid D G good W w1 p l fd fl q fq s sn rs m t km :=
  ⟨L.disk.stays h.disk (fun k hk => hM.block k (L.disk.lt h.disk k hk) (fun hm => (hn k hm).2.1 (List.mem_append.2 (.inl hk)))),
   fun hg => L.stays (h.log hg) (fun k hk => hM.block k (h.lt k hk) (fun hm => (hn k hm).2.1 (List.mem_append.2 (.inr hk)))),
   QObj.stays h.page (fun k hk => hM.block k (QObj.lt h.page k hk) (fun hm => (hn k hm).2.2 hk)), h.apart, h.far, fun k hk => Nat.lt_of_lt_of_le (h.lt k hk) hM.size, h.old.trans hM (fun k hk => .inr (hn k hk).1), h.new, h.newq⟩
/-- The page's Disk moves. -/
theorem Mid.pages (h : Mid D G good W w p l fd fl q fq s sn rs m t km) {fq1 : List Nat} (h1 : QObj w1 q fq1 t1 k1) (hS : Step w w1 fq fq1) : Mid D G good W w1 p l fd fl q fq1 s sn rs m t1 k1 :=
  ⟨L.disk.stays h.disk (fun k hk => hS.1.block k (L.disk.lt h.disk k hk) (h.far k (List.mem_append.2 (.inl hk)))),
   fun hg => L.stays (h.log hg) (fun k hk => hS.1.block k (h.lt k hk) (h.far k (List.mem_append.2 (.inr hk)))), h1, h.apart,
   fun k hk hf => (hS.2 k hf).elim (fun h' => h.far k hk h') (fun h' => by have := h.below L k hk; omega), fun k hk => Nat.lt_of_lt_of_le (h.lt k hk) hS.1.size, moved_on h.old hS h.newq, h.new, new_on h.old hS h.newq⟩
theorem Mid.does (h : Mid D G good W w p l fd fl q fq s sn rs m t km) {r0 : Value} {r : Ending} (hd : Does QObj q fq t1 k1 r0 w r w1) : r = .returned r0 ∧ ∃ fq1, Mid D G good W w1 p l fd fl q fq1 s sn rs m t1 k1 ∧ Step w w1 fq fq1 := by
  obtain ⟨rfl, f1, h1, hS⟩ := hd
  exact ⟨rfl, f1, h.pages L h1 hS, hS⟩
omit L in
/-- The Log and its Disk move. -/
theorem PAt.mid (h : PAt D G W w p l fd fl q fq s sn rs m) (h1 : D w1 p fd1 s1 m1) (h2 : good1 → G w1 l p fl1 sn1 rs1 m1) (h3 : ∀ k ∈ fl1, k ∉ fd1) (h4 : ∀ k ∈ fl1, k < w1.heap.size) (hS : Step w w1 (fd ++ fl) (fd1 ++ fl1)) : Mid D G good1 W w1 p l fd1 fl1 q fq s1 sn1 rs1 m1 s m :=
  ⟨h1, h2, QObj.stays h.page.on (fun k hk => hS.1.block k (QObj.lt h.page.on k hk) (fun hm => h.apart k hm hk)), h3,
   fun k hk hf => (hS.2 k hk).elim (fun h' => h.apart k h' hf) (fun h' => by have := QObj.lt h.page.on k hf; omega), h4, moved_on h.log.old hS h.log.all, new_on h.log.old hS h.log.all, h.page.new⟩
/-- The Disk moves alone. -/
theorem PAt.side (h : PAt D G W w p l fd fl q fq s sn rs m) (h1 : D w1 p fd1 s1 m1) (hS : Step w w1 fd fd1) : Mid D G (m1 = m) W w1 p l fd1 fl q fq s1 sn rs m1 s m ∧ Step w w1 (fd ++ fl) (fd1 ++ fl) := by
  have hS2 : Step w w1 (fd ++ fl) (fd1 ++ fl) := ⟨hS.1.mono (fun k hk => List.mem_append.2 (.inl hk)), fun k hk => by
    rcases List.mem_append.1 hk with hk | hk
    · exact (hS.2 k hk).elim (fun h' => .inl (List.mem_append.2 (.inl h'))) .inr
    · exact .inl (List.mem_append.2 (.inr hk))⟩
  have hG : G w1 l p fl sn rs m := L.stays h.log.log (fun k hk => hS.1.block k (L.lt h.log.log k hk) (h.log.apart k hk))
  exact ⟨h.mid h1 (fun hm => by rw [hm]; exact hG) (fun k hk hf => (hS.2 k hf).elim (fun h' => h.log.apart k hk h') (fun h' => by have := L.lt h.log.log k hk; omega)) (L.lt hG) hS2, hS2⟩
theorem PAt.sideDoes (h : PAt D G W w p l fd fl q fq s sn rs m) {r0 : Value} {r : Ending} (hd : Does D p fd s1 m1 r0 w r w1) : r = .returned r0 ∧ ∃ fd1, Mid D G (m1 = m) W w1 p l fd1 fl q fq s1 sn rs m1 s m ∧ Step w w1 (fd ++ fl) (fd1 ++ fl) := by
  obtain ⟨rfl, f1, h1, hS⟩ := hd
  exact ⟨rfl, f1, h.side L h1 hS⟩
/-- What an act on the Log leaves. -/
def Acted (D : World → Nat → List Nat → DSt → Nat → Prop) (G : World → Nat → Nat → List Nat → List Int → List (List Int) → Nat → Prop) (W w : World) (p l : Nat) (fd fl : List Nat) (q : Nat) (fq : List Nat) (s : DSt) (m : Nat) (e : Int) (good : Prop) (s1 : DSt) (sn1 : List Int) (rs1 : List (List Int)) (m1 : Nat) (r : Ending) (w1 : World) : Prop :=
  r = .returned (.int .i64 e) ∧ ∃ fd1 fl1, Mid D G good W w1 p l fd1 fl1 q fq s1 sn1 rs1 m1 s m ∧ Step w w1 (fd ++ fl) (fd1 ++ fl1)
theorem PAt.append (h : PAt D G W w p l fd fl q fq s sn rs m) (hld : Ld W) {A : Option Addr} {n c : Nat} {ys : List Int} (hY : Lent w (fd ++ fl) A n c ys) (hm : m + n + 9 ≤ 1073741824) :
    Calls Tryd.prog 25 #[.pointer (some ⟨l, 0, none⟩), .slice A n c] w (Acted D G W w p l fd fl q fq s m (if 131071 < n then 5 else 0) True (if 131071 < n then s else s.add (recFrame ys)) sn (if 131071 < n then rs else rs ++ [ys]) (m + n + 9)) := by
  refine (L.append l p fd fl s sn rs m A n c ys w h.log.disk h.log.log h.log.apart hY h.live hm (hld.moved h.log.old)).mono ?_
  rintro r w' ⟨fd', fl', hS, ha, hif⟩
  by_cases hn : 131071 < n
  · rw [if_pos hn] at hif
    unfold Acted
    rw [if_pos hn, if_pos hn, if_pos hn]
    exact ⟨hif.1, fd', fl', h.mid hif.2.1 (fun _ => hif.2.2) ha (L.lt hif.2.2) hS, hS⟩
  · rw [if_neg hn] at hif
    unfold Acted
    rw [if_neg hn, if_neg hn, if_neg hn]
    exact ⟨hif.1, fd', fl', h.mid hif.2.1 (fun _ => hif.2.2) ha (L.lt hif.2.2) hS, hS⟩
omit L in
/-- Less than all blocks. -/
theorem step_less {S T T' : List Nat} (hS : Step w w1 S T) (h : ∀ k ∈ T', k ∈ T) : Step w w1 S T' := ⟨hS.1, fun k hk => hS.2 k (h k hk)⟩
theorem PAt.sync (h : PAt D G W w p l fd fl q fq s sn rs m) (hm : m ≤ 1073741824) :
    Calls Tryd.prog 15 #[.pointer (some ⟨l, 0, none⟩)] w (Acted D G W w p l fd fl q fq s m s.sync.1 (s.sync.1 = 0) s.sync.2 sn rs m) := by
  refine (L.sync l p fd fl s sn rs m w h.log.disk h.log.log h.log.apart h.live hm).mono ?_
  rintro r w' ⟨fd', fl', hS, ha, h1, h2, h3⟩
  by_cases he : s.sync.1 = 0
  · exact ⟨h1, fd', fl', h.mid h2 h3 ha (L.lt (h3 he)) hS, hS⟩
  · have hS2 := step_less hS (T' := fd' ++ []) (fun k hk => by simp at hk; exact List.mem_append.2 (.inl hk))
    exact ⟨h1, fd', [], h.mid h2 (fun h' => absurd h' he) (fun _ h => by cases h) (fun _ h => by cases h) hS2, hS2⟩
theorem PAt.compact (h : PAt D G W w p l fd fl q fq s sn rs m) (hld : Ld W) {A : Option Addr} {n c : Nat} {ys : List Int} (hY : Lent w (fd ++ fl) A n c ys) (hm : m + n + 9 ≤ 1073741824) :
    Calls Tryd.prog 17 #[.pointer (some ⟨l, 0, none⟩), .slice A n c] w (Acted D G W w p l fd fl q fq s m (if 131071 < n then 5 else (s.swap (snapFrame ys)).1) (131071 < n ∨ (s.swap (snapFrame ys)).1 = 0) (if 131071 < n then s else (s.swap (snapFrame ys)).2) (if 131071 < n then sn else ys) (if 131071 < n then rs else []) (m + n + 9)) := by
  refine (L.compact l p fd fl s sn rs m A n c ys w h.log.disk h.log.log h.log.apart hY h.live hm (hld.moved h.log.old)).mono ?_
  rintro r w' ⟨fd', fl', hS, ha, hif⟩
  by_cases hn : 131071 < n
  · rw [if_pos hn] at hif
    unfold Acted
    rw [if_pos hn, if_pos hn, if_pos hn, if_pos hn]
    exact ⟨hif.1, fd', fl', h.mid hif.2.1 (fun _ => hif.2.2) ha (L.lt hif.2.2) hS, hS⟩
  · rw [if_neg hn] at hif
    unfold Acted
    rw [if_neg hn, if_neg hn, if_neg hn, if_neg hn]
    by_cases he : (s.swap (snapFrame ys)).1 = 0
    · exact ⟨hif.1, fd', fl', h.mid hif.2.1 (fun _ => hif.2.2 he) ha (L.lt (hif.2.2 he)) hS, hS⟩
    · have hS2 := step_less hS (T' := fd' ++ []) (fun k hk => by simp at hk; exact List.mem_append.2 (.inl hk))
      exact ⟨hif.1, fd', [], h.mid hif.2.1 (fun h' => h'.elim (fun h' => absurd h' hn) (fun h' => absurd h' he)) (fun _ h => by cases h) (fun _ h => by cases h) hS2, hS2⟩
end
/-- Plain: what becomes of a journal's bytes where the power stays. -/
theorem clean_add {s : DSt} {sn ys : List Int} {rs : List (List Int)} {n : Nat} (hl : s.dead = false) (hc : logOf s.bs = (sn, rs, s.bs.length)) (hy : ys.length = n) :
    (if 131071 < n then s else s.add (recFrame ys)).dead = false ∧ logOf (if 131071 < n then s else s.add (recFrame ys)).bs = (sn, (if 131071 < n then rs else rs ++ [ys]), (if 131071 < n then s else s.add (recFrame ys)).bs.length) := by
  by_cases hn : 131071 < n
  · rw [if_pos hn, if_pos hn]; exact ⟨hl, hc⟩
  · rw [if_neg hn, if_neg hn]
    unfold DSt.add
    rw [if_neg (by rw [hl]; decide)]
    exact ⟨hl, log_add hc (by omega)⟩
theorem clean_sync {s : DSt} {sn : List Int} {rs : List (List Int)} (hl : s.dead = false) (hc : logOf s.bs = (sn, rs, s.bs.length)) :
    (s.sync.1 = 0 ∧ s.sync.2.dead = false ∧ logOf s.sync.2.bs = (sn, rs, s.sync.2.bs.length)) ∨ (s.sync.1 = 7 ∧ s.sync.2.dead = true) := by
  obtain ⟨bs, safe, dead, trip⟩ := s
  obtain rfl : dead = false := hl
  cases trip with
  | none => exact .inl ⟨rfl, rfl, hc⟩
  | some k => exact .inr ⟨rfl, rfl⟩
theorem clean_swap {s : DSt} {ys : List Int} (hl : s.dead = false) (hy : ys.length ≤ 131071) :
    ((s.swap (snapFrame ys)).1 = 0 ∧ (s.swap (snapFrame ys)).2.dead = false ∧ logOf (s.swap (snapFrame ys)).2.bs = (ys, [], (s.swap (snapFrame ys)).2.bs.length)) ∨ ((s.swap (snapFrame ys)).1 = 7 ∧ (s.swap (snapFrame ys)).2.dead = true) := by
  obtain ⟨bs, safe, dead, trip⟩ := s
  obtain rfl : dead = false := hl
  cases trip with
  | none => exact .inl ⟨rfl, rfl, log_one hy⟩
  | some k => exact .inr ⟨rfl, rfl⟩
theorem clean_compact {s : DSt} {sn ys : List Int} {rs : List (List Int)} {n : Nat} (hl : s.dead = false) (hc : logOf s.bs = (sn, rs, s.bs.length)) (hy : ys.length = n) :
    ((131071 < n ∨ (s.swap (snapFrame ys)).1 = 0) ∧ (if 131071 < n then s else (s.swap (snapFrame ys)).2).dead = false ∧ logOf (if 131071 < n then s else (s.swap (snapFrame ys)).2).bs = ((if 131071 < n then sn else ys), (if 131071 < n then rs else []), (if 131071 < n then s else (s.swap (snapFrame ys)).2).bs.length)) ∨ (if 131071 < n then s else (s.swap (snapFrame ys)).2).dead = true := by
  by_cases hn : 131071 < n
  · rw [if_pos hn, if_pos hn, if_pos hn]; exact .inl ⟨.inl hn, hl, hc⟩
  · rw [if_neg hn, if_neg hn, if_neg hn]
    rcases clean_swap (s := s) (ys := ys) hl (by omega) with ⟨h1, h2, h3⟩ | ⟨_, h⟩
    · exact .inl ⟨.inr h1, h2, h3⟩
    · exact .inr h
theorem _root_.Go.Proofs.YtekleamkpfeifaaDoor.Dk.Lent.less {w : World} {S T : List Nat} {A : Option Addr} {n c : Nat} {ys : List Int} (h : Lent w S A n c ys) (hs : ∀ k ∈ T, k ∈ S) : Lent w T A n c ys := ⟨h.row, h.len, h.nil, h.room, h.bytes, fun k hk hf => h.far k hk (hs k hf)⟩
theorem clean_arm {s : DSt} {sn : List Int} {rs : List (List Int)} (k : Int) (hl : s.dead = false) (hc : logOf s.bs = (sn, rs, s.bs.length)) :
    (s.arm k).dead = false ∧ logOf (s.arm k).bs = (sn, rs, (s.arm k).bs.length) := by
  unfold DSt.arm
  rw [if_neg (by rw [hl]; decide)]
  exact ⟨hl, hc⟩
theorem crash_dead {s : DSt} (k : Int) (hl : s.dead = false) : (s.crash k).dead = true := by
  unfold DSt.crash
  rw [if_neg (by rw [hl]; decide)]
theorem add_live {s : DSt} {ys : List Int} (hl : s.dead = false) : (s.add ys).dead = false := by
  unfold DSt.add
  rw [if_neg (by rw [hl]; decide)]
  exact hl
theorem off_live {s : DSt} (hl : s.dead = false) : s.off = 0 := by unfold DSt.off; rw [if_neg (by rw [hl]; decide)]
theorem read_live {s : DSt} (hl : s.dead = false) : s.read = s.bs := by unfold DSt.read; rw [if_neg (by rw [hl]; decide)]
/-- What lies beside them: the act in its box, and the bytes that are handed in. -/
structure Kept (w : World) (g : Nat) (cs : Array Value) (T : TypeId) (v : Value) (n : Nat) (ys : List Int) (X Y : List Nat) : Prop where
  box : w.heap[g]? = some (.cells cs T (0, 0))
  row : TRow w v n ys
  one : g ∉ rowOf v
  left : ∀ j ∈ g :: rowOf v, j ∉ X
  right : ∀ j ∈ g :: rowOf v, j ∉ Y
section
variable {w w1 : World} {g : Nat} {cs : Array Value} {T : TypeId} {v : Value} {n : Nat} {ys : List Int} {X Y X1 Y1 : List Nat}
theorem Kept.lt (h : Kept w g cs T v n ys X Y) : ∀ j ∈ g :: rowOf v, j < w.heap.size := fun j hj => by
  rcases List.mem_cons.1 hj with rfl | hj
  · exact lt_of_block h.box
  · exact t_lt h.row j hj
theorem Kept.on (h : Kept w g cs T v n ys X Y) (hM : Moved w w1 []) : Kept w1 g cs T v n ys X Y :=
  ⟨(hM.block g (lt_of_block h.box) (fun h => by cases h)).trans h.box, t_stays h.row (fun j hj => hM.block j (t_lt h.row j hj) (fun h => by cases h)), h.one, h.left, h.right⟩
theorem Kept.stepX (h : Kept w g cs T v n ys X Y) (hS : Step w w1 X X1) : Kept w1 g cs T v n ys X1 Y :=
  ⟨(hS.1.block g (lt_of_block h.box) (h.left g (by simp))).trans h.box, t_stays h.row (fun j hj => hS.1.block j (t_lt h.row j hj) (h.left j (by simp [hj]))), h.one, fun j hj hx => (hS.2 j hx).elim (h.left j hj) (fun h' => by have := h.lt j hj; omega), h.right⟩
theorem Kept.stepY (h : Kept w g cs T v n ys X Y) (hS : Step w w1 Y Y1) : Kept w1 g cs T v n ys X Y1 :=
  ⟨(hS.1.block g (lt_of_block h.box) (h.right g (by simp))).trans h.box, t_stays h.row (fun j hj => hS.1.block j (t_lt h.row j hj) (h.right j (by simp [hj]))), h.one, h.left, fun j hj hx => (hS.2 j hx).elim (h.right j hj) (fun h' => by have := h.lt j hj; omega)⟩
/-- The box, behind what became of the row. -/
theorem Kept.spoilt (h : Kept w g cs T v n ys X Y) (hM : Moved w w1 (rowOf v)) : w1.heap[g]? = some (.cells cs T (0, 0)) := (hM.block g (lt_of_block h.box) h.one).trans h.box
end
end Lg
end Go.Proofs.YtekleamkpfeifaaDoor
