/-
  The law's room in memory: its block, both oracles, the rings, the states of the members, each under an owner of its own.
-/
import Derived.Test.YtjbpfhnagiacmaaGreatRmM
namespace Go.Proofs.YtjbpfhnagiacmaaGreat
set_option linter.unusedVariables false
set_option linter.unusedSimpArgs false
set_option synthInstance.maxSize 20000
set_option maxHeartbeats 2000000
set_option maxRecDepth 20000
open Go.RowKit Go.Maps
structure Rp where
  wb : Nat
  ob : Nat
  rr : Nat
  ra : Nat
  rx : Nat
  rb : Nat
  sb : Nat
  tb : Nat
  pk : Int
def rcs (p : Rp) : List Value := [ptr p.ob, ptr p.rr, ptr p.ra, ptr p.rx, ptr p.rb, .int .u64 p.pk]
structure RG (w0 w : World) (o : Nat → Nat) (p : Rp) (S T : St) (M K : Sm) (A X B : Rg) (sv tv : Value) : Prop where
  blk : Blk w p.wb 42 (rcs p)
  own : o p.wb = 9
  orc : OrcAt w o p.ob S
  rorc : ROrc w0 w o p.rr T
  sb : Blk w p.sb 67 [sv, .int .i64 M.e]
  sbo : o p.sb = 7
  tb : Blk w p.tb 71 [tv, .int .i64 K.e]
  tbo : o p.tb = 7
  s : KpF mc w o sv M.l
  t : KpF mc w o tv K.l
  a : RIs w o 10 p.ra p.ob A
  x : RIs w o 11 p.rx p.ob X
  b : RRIs w o 20 p.rb B
def rOwn : List Nat := [0, 1, 7, 8, 9, 10, 11, 20]
theorem RIs.reown {w : World} {o : Nat → Nat} {j rb ob c : Nat} {r : Rg} (h : RIs w o j rb ob r) (hc : j ≠ c) : RIs w (reown c o) j rb ob r := by
  obtain ⟨kv, ov, qs, hA, hr⟩ := h
  exact ⟨kv, ov, qs, ⟨hA.blk, by rw [reown_not (by rw [hA.own]; exact hc)]; exact hA.own, hA.krow, fun k hk => ⟨by rw [reown_not (by rw [(hA.kown k hk).1]; exact hc)]; exact (hA.kown k hk).1, (hA.kown k hk).2⟩, hA.orow, fun k hk => ⟨by rw [reown_not (by rw [(hA.oown k hk).1]; exact hc)]; exact (hA.oown k hk).1, (hA.oown k hk).2⟩, hA.apart, fun q hq => (hA.olds q hq).reown c⟩, hr⟩
theorem RRIs.reown {w : World} {o : Nat → Nat} {j rb c : Nat} {r : Rg} (h : RRIs w o j rb r) (hc : j ≠ c) : RRIs w (reown c o) j rb r := by
  obtain ⟨kv, ov, qs, hA, hr⟩ := h
  exact ⟨kv, ov, qs, ⟨hA.blk, by rw [reown_not (by rw [hA.own]; exact hc)]; exact hA.own, hA.krow, fun k hk => ⟨by rw [reown_not (by rw [(hA.kown k hk).1]; exact hc)]; exact (hA.kown k hk).1, (hA.kown k hk).2⟩, hA.orow, fun k hk => ⟨by rw [reown_not (by rw [(hA.oown k hk).1]; exact hc)]; exact (hA.oown k hk).1, (hA.oown k hk).2⟩, hA.apart, fun q hq => (hA.olds q hq).reown c⟩, hr⟩
section
variable {w0 w w' : World} {o o' : Nat → Nat} {p : Rp} {S T : St} {M K : Sm} {A X B : Rg} {sv tv : Value} {I : List Nat}
theorem RG.bel (h : RG w0 w o p S T M K A X B sv tv) : Below w0.heap.size w0 w := h.rorc.low.1
theorem RG.low (h : RG w0 w o p S T M K A X B sv tv) : ∀ k, k < w0.heap.size → o k = 0 := h.rorc.low.2
theorem RG.mv (h : RG w0 w o p S T M K A X B sv tv) (m : Mv I w o w' o') (hI : ∀ i ∈ I, i ∉ rOwn) : RG w0 w' o' p S T M K A X B sv tv := by
  have hn : ∀ x ∈ rOwn, x ∉ I := fun x hx e => hI x e hx
  exact ⟨h.blk.block (m.block _ h.blk.lt (by rw [h.own]; exact hn 9 (by decide))), by rw [m.ext _ h.blk.lt]; exact h.own, h.orc.mv m (hn 1 (by decide)), h.rorc.mv m (hn 0 (by decide)) (hn 8 (by decide)),
    h.sb.block (m.block _ h.sb.lt (by rw [h.sbo]; exact hn 7 (by decide))), by rw [m.ext _ h.sb.lt]; exact h.sbo, h.tb.block (m.block _ h.tb.lt (by rw [h.tbo]; exact hn 7 (by decide))), by rw [m.ext _ h.tb.lt]; exact h.tbo,
    h.s.mv m (hn 0 (by decide)), h.t.mv m (hn 0 (by decide)), h.a.mv m (hn 0 (by decide)) (hn 10 (by decide)), h.x.mv m (hn 0 (by decide)) (hn 11 (by decide)), h.b.mv m (hn 0 (by decide)) (hn 20 (by decide))⟩
theorem RG.below (h : RG w0 w o p S T M K A X B sv tv) (hb : Below w.heap.size w w') (j : Nat) : RG w0 w' (newTo o w j) p S T M K A X B sv tv := h.mv (Mv.of_below (I := []) j hb) (by simp)
theorem RG.reown (h : RG w0 w o p S T M K A X B sv tv) {c : Nat} (hc : 30 < c) : RG w0 w (reown c o) p S T M K A X B sv tv :=
  ⟨h.blk, by rw [reown_not (by rw [h.own]; omega)]; exact h.own, h.orc.reown (by omega), h.rorc.reown (by omega), h.sb, by rw [reown_not (by rw [h.sbo]; omega)]; exact h.sbo, h.tb, by rw [reown_not (by rw [h.tbo]; omega)]; exact h.tbo, h.s.reown c, h.t.reown c, h.a.reown (by omega), h.x.reown (by omega), h.b.reown (by omega)⟩
theorem RG.orcS (h : RG w0 w o p S T M K A X B sv tv) {S' : St} (m : Mv [1] w o w' o') (hO : OrcAt w' o' p.ob S') : RG w0 w' o' p S' T M K A X B sv tv :=
  ⟨h.blk.block (m.block _ h.blk.lt (by rw [h.own]; decide)), by rw [m.ext _ h.blk.lt]; exact h.own, hO, h.rorc.mv m (by decide) (by decide),
    h.sb.block (m.block _ h.sb.lt (by rw [h.sbo]; decide)), by rw [m.ext _ h.sb.lt]; exact h.sbo, h.tb.block (m.block _ h.tb.lt (by rw [h.tbo]; decide)), by rw [m.ext _ h.tb.lt]; exact h.tbo,
    h.s.mv m (by decide), h.t.mv m (by decide), h.a.mv m (by decide) (by decide), h.x.mv m (by decide) (by decide), h.b.mv m (by decide) (by decide)⟩
theorem RG.rorcS (h : RG w0 w o p S T M K A X B sv tv) {T' : St} (m : Mv [8] w o w' o') (hO : ROrc w0 w' o' p.rr T') : RG w0 w' o' p S T' M K A X B sv tv :=
  ⟨h.blk.block (m.block _ h.blk.lt (by rw [h.own]; decide)), by rw [m.ext _ h.blk.lt]; exact h.own, h.orc.mv m (by decide), hO,
    h.sb.block (m.block _ h.sb.lt (by rw [h.sbo]; decide)), by rw [m.ext _ h.sb.lt]; exact h.sbo, h.tb.block (m.block _ h.tb.lt (by rw [h.tbo]; decide)), by rw [m.ext _ h.tb.lt]; exact h.tbo,
    h.s.mv m (by decide), h.t.mv m (by decide), h.a.mv m (by decide) (by decide), h.x.mv m (by decide) (by decide), h.b.mv m (by decide) (by decide)⟩
theorem RG.ringA (h : RG w0 w o p S T M K A X B sv tv) {A' : Rg} (m : Mv [10] w o w' o') (hO : RIs w' o' 10 p.ra p.ob A') : RG w0 w' o' p S T M K A' X B sv tv :=
  ⟨h.blk.block (m.block _ h.blk.lt (by rw [h.own]; decide)), by rw [m.ext _ h.blk.lt]; exact h.own, h.orc.mv m (by decide), h.rorc.mv m (by decide) (by decide),
    h.sb.block (m.block _ h.sb.lt (by rw [h.sbo]; decide)), by rw [m.ext _ h.sb.lt]; exact h.sbo, h.tb.block (m.block _ h.tb.lt (by rw [h.tbo]; decide)), by rw [m.ext _ h.tb.lt]; exact h.tbo,
    h.s.mv m (by decide), h.t.mv m (by decide), hO, h.x.mv m (by decide) (by decide), h.b.mv m (by decide) (by decide)⟩
theorem RG.ringX (h : RG w0 w o p S T M K A X B sv tv) {X' : Rg} (m : Mv [11] w o w' o') (hO : RIs w' o' 11 p.rx p.ob X') : RG w0 w' o' p S T M K A X' B sv tv :=
  ⟨h.blk.block (m.block _ h.blk.lt (by rw [h.own]; decide)), by rw [m.ext _ h.blk.lt]; exact h.own, h.orc.mv m (by decide), h.rorc.mv m (by decide) (by decide),
    h.sb.block (m.block _ h.sb.lt (by rw [h.sbo]; decide)), by rw [m.ext _ h.sb.lt]; exact h.sbo, h.tb.block (m.block _ h.tb.lt (by rw [h.tbo]; decide)), by rw [m.ext _ h.tb.lt]; exact h.tbo,
    h.s.mv m (by decide), h.t.mv m (by decide), h.a.mv m (by decide) (by decide), hO, h.b.mv m (by decide) (by decide)⟩
theorem RG.ringB (h : RG w0 w o p S T M K A X B sv tv) {B' : Rg} (m : Mv [20] w o w' o') (hO : RRIs w' o' 20 p.rb B') : RG w0 w' o' p S T M K A X B' sv tv :=
  ⟨h.blk.block (m.block _ h.blk.lt (by rw [h.own]; decide)), by rw [m.ext _ h.blk.lt]; exact h.own, h.orc.mv m (by decide), h.rorc.mv m (by decide) (by decide),
    h.sb.block (m.block _ h.sb.lt (by rw [h.sbo]; decide)), by rw [m.ext _ h.sb.lt]; exact h.sbo, h.tb.block (m.block _ h.tb.lt (by rw [h.tbo]; decide)), by rw [m.ext _ h.tb.lt]; exact h.tbo,
    h.s.mv m (by decide), h.t.mv m (by decide), h.a.mv m (by decide) (by decide), h.x.mv m (by decide) (by decide), hO⟩
end
end Go.Proofs.YtjbpfhnagiacmaaGreat
