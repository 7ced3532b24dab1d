/-
  The law's room as it is made, up to its loop.
-/
import Derived.Test.YtjbpfhnagiacmaaGreatRmG
import Derived.Test.YtjbpfhnagiacmaaGreatNwF
namespace Go.Proofs.YtjbpfhnagiacmaaGreat
set_option linter.unusedVariables false
set_option linter.unusedSimpArgs false
set_option synthInstance.maxSize 20000
set_option maxHeartbeats 2000000
set_option maxRecDepth 20000
open Go.RowKit Go.Maps
structure RoI (w0 w : World) (o : Nat → Nat) (wb ob rr ra rx rb : Nat) (S T : St) (A X B : Rg) (na nx nb : Bool) (cs : List Value) : Prop where
  blk : Blk w wb 42 cs
  own : o wb = 9
  orc : OrcAt w o ob S
  rorc : ROrc w0 w o rr T
  a : na = true → RIs w o 10 ra ob A
  x : nx = true → RIs w o 11 rx ob X
  b : nb = true → RRIs w o 20 rb B
section
variable {w0 w w' : World} {o o' : Nat → Nat} {wb ob rr ra rx rb : Nat} {S T : St} {A X B : Rg} {na nx nb : Bool} {cs : List Value}
theorem RoI.orcS (h : RoI w0 w o wb ob rr ra rx rb S T A X B na nx nb cs) {S' : St} (m : Mv [1] w o w' o') (hO : OrcAt w' o' ob S') : RoI w0 w' o' wb ob rr ra rx rb S' T A X B na nx nb cs :=
  ⟨h.blk.block (m.block wb h.blk.lt (by rw [h.own]; decide)), by rw [m.ext wb h.blk.lt]; exact h.own, hO, h.rorc.mv m (by decide) (by decide), fun e => (h.a e).mv m (by decide) (by decide), fun e => (h.x e).mv m (by decide) (by decide), fun e => (h.b e).mv m (by decide) (by decide)⟩
theorem RoI.rorcS (h : RoI w0 w o wb ob rr ra rx rb S T A X B na nx nb cs) {T' : St} (m : Mv [8] w o w' o') (hO : ROrc w0 w' o' rr T') : RoI w0 w' o' wb ob rr ra rx rb S T' A X B na nx nb cs :=
  ⟨h.blk.block (m.block wb h.blk.lt (by rw [h.own]; decide)), by rw [m.ext wb h.blk.lt]; exact h.own, h.orc.mv m (by decide), hO, fun e => (h.a e).mv m (by decide) (by decide), fun e => (h.x e).mv m (by decide) (by decide), fun e => (h.b e).mv m (by decide) (by decide)⟩
theorem RoI.mv (h : RoI w0 w o wb ob rr ra rx rb S T A X B na nx nb cs) (m : Mv [] w o w' o') : RoI w0 w' o' wb ob rr ra rx rb S T A X B na nx nb cs :=
  ⟨h.blk.block (m.block wb h.blk.lt (by simp)), by rw [m.ext wb h.blk.lt]; exact h.own, h.orc.mv m (by simp), h.rorc.mv m (by simp) (by simp), fun e => (h.a e).mv m (by simp) (by simp), fun e => (h.x e).mv m (by simp) (by simp), fun e => (h.b e).mv m (by simp) (by simp)⟩
theorem RoI.set (h : RoI w0 w o wb ob rr ra rx rb S T A X B na nx nb cs) (i : Nat) (v : Value) : RoI w0 (w.setCell ⟨wb, i, none⟩ v) (newTo o w 9) wb ob rr ra rx rb S T A X B na nx nb (cs.set i v) := by
  have m : Mv [9] w o (w.setCell ⟨wb, i, none⟩ v) (newTo o w 9) := Mv.of_turn 9 (turn_grown (grown_setCell w wb i v)) (fun k hk _ => by
    simp at hk
    subst hk
    rw [h.own]; decide)
  exact ⟨h.blk.set i v, by rw [m.ext wb h.blk.lt]; exact h.own, h.orc.mv m (by decide), h.rorc.mv m (by decide) (by decide), fun e => (h.a e).mv m (by decide) (by decide), fun e => (h.x e).mv m (by decide) (by decide), fun e => (h.b e).mv m (by decide) (by decide)⟩
theorem RoI.ringA (h : RoI w0 w o wb ob rr ra rx rb S T A X B false nx nb cs) {b : Nat} (hb : Below w.heap.size w w') (hr : RIs w' (newTo o w 10) 10 b ob A) : RoI w0 w' (newTo o w 10) wb ob rr b rx rb S T A X B true nx nb cs := by
  have h2 := h.mv (Mv.of_below (I := []) 10 hb)
  exact ⟨h2.blk, h2.own, h2.orc, h2.rorc, fun _ => hr, h2.x, h2.b⟩
theorem RoI.ringX (h : RoI w0 w o wb ob rr ra rx rb S T A X B na false nb cs) {b : Nat} (hb : Below w.heap.size w w') (hr : RIs w' (newTo o w 11) 11 b ob X) : RoI w0 w' (newTo o w 11) wb ob rr ra b rb S T A X B na true nb cs := by
  have h2 := h.mv (Mv.of_below (I := []) 11 hb)
  exact ⟨h2.blk, h2.own, h2.orc, h2.rorc, h2.a, fun _ => hr, h2.b⟩
theorem RoI.ringB (h : RoI w0 w o wb ob rr ra rx rb S T A X B na nx false cs) {b : Nat} (hb : Below w.heap.size w w') (hr : RRIs w' (newTo o w 20) 20 b B) : RoI w0 w' (newTo o w 20) wb ob rr ra rx b S T A X B na nx true cs := by
  have h2 := h.mv (Mv.of_below (I := []) 20 hb)
  exact ⟨h2.blk, h2.own, h2.orc, h2.rorc, h2.a, h2.x, fun _ => hr⟩
theorem roi0 {w0 w2 : World} {o2 : Nat → Nat} {ob1 rr1 : Nat} {S : St} {A X B : Rg} (hO : OrcAt w2 o2 ob1 S) (hR : ROrc w0 w2 o2 rr1 S) : RoI w0 (w2.alloc (.cells #[ptr ob1, ptr rr1, .pointer none, .pointer none, .pointer none, .int .u64 0] 42)) (newTo o2 w2 9) w2.heap.size ob1 rr1 0 0 0 S S A X B false false false [ptr ob1, ptr rr1, .pointer none, .pointer none, .pointer none, .int .u64 0] := by
  have m : Mv [] w2 o2 (w2.alloc (.cells #[ptr ob1, ptr rr1, .pointer none, .pointer none, .pointer none, .int .u64 0] 42)) (newTo o2 w2 9) := Mv.of_below 9 (balloc (Below.refl _ _) _)
  exact ⟨blk_new w2 _ 42, newTo_new (Nat.le_refl _), hO.mv m (by simp), hR.mv m (by simp) (by simp), fun e => (by cases e), fun e => (by cases e), fun e => (by cases e)⟩
theorem RoI.done {p : Rp} {sv tv : Value} {M K : Sm} (h : RoI w0 w o p.wb p.ob p.rr p.ra p.rx p.rb S T A X B true true true (rcs p)) (hs : KpF mc w o sv M.l) (ht : KpF mc w o tv K.l) (hb : Below w.heap.size w w') (hsb : Blk w' p.sb 67 [sv, .int .i64 M.e]) (htb : Blk w' p.tb 71 [tv, .int .i64 K.e]) (h1 : w.heap.size ≤ p.sb) (h2 : w.heap.size ≤ p.tb) :
    RG w0 w' (newTo o w 7) p S T M K A X B sv tv := by
  have m : Mv [] w o w' (newTo o w 7) := Mv.of_below 7 hb
  have g := h.mv m
  exact ⟨g.blk, g.own, g.orc, g.rorc, hsb, newTo_new h1, htb, newTo_new h2, hs.mv m (by simp), ht.mv m (by simp), g.a rfl, g.x rfl, g.b rfl⟩
end
end Go.Proofs.YtjbpfhnagiacmaaGreat
