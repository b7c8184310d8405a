/-
  CONTRACT of (*wire.writer).all.
-/
import Derived.Test.YtpghaffjfinpeabWireWW
namespace Go.Proofs.Ytpghaffjfinpeab
namespace Wi
open Go.RowKit Pk Am
def Ws.out (x : Ws) : List Int := if x.t then [] else x.s.out
def Ws.err (x : Ws) : Int := if x.t then 6 else if x.s.err = 0 then 0 else 6
/-- New bytes and an error are answered. -/
def Told (out : List Int) (e : Int) (w : World) (r : Ending) (w' : World) : Prop :=
  ∃ v, r = .returned (.tuple #[v, .int .i64 e]) ∧ w'.ownsRow 0 5 1 v out.length (out.map (Value.int .u8)) ∧ Step w w' [] (rowOf v)
theorem WObj.fine {t : Bool} {w : World} {p : Nat} {fp : List Nat} {e : Int} {m : Nat} (h : WObj t w p fp (.bad e) m) : e ≠ 0 := h.2.1
set_option maxRecDepth 100000 in
set_option maxHeartbeats 1000000 in
theorem all_any (b p : Nat) (fp : List Nat) (x : Ws) (m : Nat) (w : World) (hW : WW b w p fp x m) (hm : m ≤ 35184372088832) :
    Calls Try.prog 9 #[.pointer (some ⟨p, 0, none⟩)] w (Told x.out x.err w) := by
  obtain ⟨s, t⟩ := x
  obtain ⟨c0, c1, c2, hblk⟩ := hW.obj.blk
  have k3 := cell_at hblk 3 (v := .bool t) rfl
  have hlt := lt_of_block hblk
  have HB := Lib.hid hblk
  cases t with
  | true =>
    have HW := Lib.hid hW
    clear hW hblk
    go_enter Try.func9, Try.ntmps9
    go_wp2_with fail
    refine (wbytes_any p fp s m _ (by exact HW.out.obj) (by omega)).mono ?_
    rintro e1 w1 ⟨v, rfl, hown, hst⟩
    have k3' : w1.cell? ⟨p, 3, none⟩ = some (.bool true) := by rw [World.cell?_of_block (w := w) (hst.1.block p hlt (by simp))]; exact k3
    have HST := Lib.hid hst
    clear k3 hst hown
    go_wp2
    go_ret2
    exact ⟨.slice none 0 0, rfl, World.ownsRow_nil _ _ _ _, HST.out.1, by simp [rowOf, Value.ownBlock]⟩
  | false =>
    cases s with
    | bad e =>
      have hne := hW.obj.fine
      have hd : (e != 0) = true := by simpa using hne
      have HE := Lib.hid (show (Ws.mk (.bad e) false).err = 6 by simp [Ws.err, WSt.err, hne])
      have HW := Lib.hid hW
      clear hW hblk hne
      go_enter Try.func9, Try.ntmps9
      go_wp2_with fail
      refine (wbytes_any p fp _ m _ (by exact HW.out.obj) (by omega)).mono ?_
      rintro e1 w1 ⟨v, rfl, hown, hst⟩
      have k3' : w1.cell? ⟨p, 3, none⟩ = some (.bool false) := by rw [World.cell?_of_block (w := w) (hst.1.block p hlt (by simp))]; exact k3
      have HST := Lib.hid hst
      clear k3 hst hown
      simp only [WSt.err]
      go_wp2
      go_ret2
      exact ⟨.slice none 0 0, by rw [HE.out]; rfl, World.ownsRow_nil _ _ _ _, HST.out.1, by simp [rowOf, Value.ownBlock]⟩
    | ok bs =>
      have HW := Lib.hid hW
      clear hW hblk
      go_enter Try.func9, Try.ntmps9
      go_wp2_with fail
      refine (wbytes_any p fp _ m _ (by exact HW.out.obj) (by omega)).mono ?_
      rintro e1 w1 ⟨v, rfl, hown, hst⟩
      have k3' : w1.cell? ⟨p, 3, none⟩ = some (.bool false) := by rw [World.cell?_of_block (w := w) (hst.1.block p hlt (by simp))]; exact k3
      obtain ⟨A, c, rfl, -⟩ := own_shape hown
      have HST := Lib.hid hst
      have HO := Lib.hid hown
      clear k3 hst hown
      simp only [WSt.err]
      go_wp2
      go_ret2
      exact ⟨_, rfl, HO.out, HST.out⟩
theorem WW.new (b : Nat) (w : World) (hb : b ≤ w.heap.size) : WW b (w.alloc (.cells #[.slice none 0 0, .int .i64 0, .pointer none, .bool false] 54)) w.heap.size [w.heap.size] ⟨.ok [], false⟩ 0 :=
  ⟨WObj.new w, fun k hk => by simp at hk; omega⟩
theorem Told.of {w w1 w2 : World} {fp fp1 : List Nat} {out : List Int} {e : Int} {r : Ending} (hS : Step w1 w2 fp fp1) (h0 : Step w w1 [] fp) {w3 : World} (hT : Told out e w2 r w3) : Told out e w r w3 := by
  obtain ⟨v, hr, hown, hst⟩ := hT
  have h1 := h0.trans hS
  refine ⟨v, hr, hown, (h1.1.trans hst.1 (fun k hk => by cases hk)), fun k hk => ?_⟩
  rcases hst.2 k hk with h | h
  · cases h
  · exact .inr (Nat.le_trans h1.1.size h)
end Wi
end Go.Proofs.Ytpghaffjfinpeab
