/-
  Begin and Apply in the law's room: what their regions leave.
-/
import Derived.Test.YtjbpfhnagiacmaaGreatRmG
namespace Go.Proofs.YtjbpfhnagiacmaaGreat
set_option linter.unusedVariables false
set_option linter.unusedSimpArgs false
set_option synthInstance.maxSize 20000
set_option maxHeartbeats 2000000
set_option maxRecDepth 20000
open Go.RowKit Go.Maps
section
variable {w0 W w5 : World} {oW o5 : Nat → Nat} {p : Rp} {d : Nat} {S T : St} {M K : Sm} {A X Br : Rg} {sv tv : Value} {B : Bg} {a b : Value} {qs : List Wq}
theorem bgA_new (h : RG w0 W oW p S T M K A X Br sv tv) (hO : OrcAt w5 o5 p.ob B.S) (hC : CgAt w5 B.c a b qs) (ha : KpF wq w5 o5 a qs) (hq : ∀ q ∈ qs, Kp0 w5 o5 q.2 q.1.b) (hk : Kp0 w5 o5 b B.c.o) (hM : Mv [1] W.drew oW w5 o5) :
    RG w0 (w5.alloc (.cells #[.int .i64 B.c.k, .int .i64 B.c.w, .int .u64 B.c.p, .int .i64 B.c.l, a, b] 75)) (newTo o5 w5 0) p B.S T M K A X Br sv tv ∧ CVar (w5.alloc (.cells #[.int .i64 B.c.k, .int .i64 B.c.w, .int .u64 B.c.p, .int .i64 B.c.l, a, b] 75)) (newTo o5 w5 0) w5.heap.size 75 B.c a b qs ∧ Mv [1] W oW (w5.alloc (.cells #[.int .i64 B.c.k, .int .i64 B.c.w, .int .u64 B.c.p, .int .i64 B.c.l, a, b] 75)) (newTo o5 w5 0) :=
  ⟨(h.orcS hM.drew hO).below (balloc (Below.refl _ _) _) 0, cvar_new 75 hC ha hq hk, hM.drew.trans (Mv.of_below 0 (balloc (Below.refl _ _) _))⟩
theorem bgA_put (h : RG w0 W oW p S T M K A X Br sv tv) (hd : 30 < d) (hdn : ∀ k, k < W.heap.size → oW k ≠ d) (hO : OrcAt w5 o5 p.ob B.S) (hC : CgAt w5 B.c a b qs) (ha : KpF wq w5 o5 a qs) (hq : ∀ q ∈ qs, Kp0 w5 o5 q.2 q.1.b) (hk : Kp0 w5 o5 b B.c.o)
    (hM : Mv [1] (W.alloc (.cells zC6 75)).drew (newTo oW W d) w5 o5) :
    RG w0 (put6 w5 W.heap.size (.int .i64 B.c.k) (.int .i64 B.c.w) (.int .u64 B.c.p) (.int .i64 B.c.l) a b) (reown d (newTo o5 w5 0)) p B.S T M K A X Br sv tv ∧ CVar (put6 w5 W.heap.size (.int .i64 B.c.k) (.int .i64 B.c.w) (.int .u64 B.c.p) (.int .i64 B.c.l) a b) (reown d (newTo o5 w5 0)) W.heap.size 75 B.c a b qs ∧ Mv [1] W oW (put6 w5 W.heap.size (.int .i64 B.c.k) (.int .i64 B.c.w) (.int .u64 B.c.p) (.int .i64 B.c.l) a b) (reown d (newTo o5 w5 0)) := by
  have m1 : Mv [] W oW (W.alloc (.cells zC6 75)) (newTo oW W d) := Mv.of_below d (balloc (Below.refl _ _) _)
  have hz : Blk (W.alloc (.cells zC6 75)) W.heap.size 75 zC6.toList := blk_new W _ 75
  have hb5 : Blk w5 W.heap.size 75 zC6.toList := hz.block (hM.drew.block _ hz.lt (by rw [newTo_new (Nat.le_refl _)]; simp; omega))
  have ho5 : o5 W.heap.size = d := by rw [hM.drew.ext _ hz.lt]; exact newTo_new (Nat.le_refl _)
  obtain ⟨c1, m5⟩ := cvar_put (by omega) hb5 ho5 hC ha hq hk
  have hw5 := (h.mv m1 (by simp)).orcS hM.drew hO
  refine ⟨(hw5.mv m5 (fun i hi => by simp at hi; subst hi; unfold rOwn; simp; omega)).reown hd, c1, ?_⟩
  have mm : Mv [d, 1] W oW (put6 w5 W.heap.size (.int .i64 B.c.k) (.int .i64 B.c.w) (.int .u64 B.c.p) (.int .i64 B.c.l) a b) (newTo o5 w5 0) := (m1.widen (by simp)).trans ((hM.drew.widen (by simp)).trans (m5.widen (by simp)))
  exact (mm.restrict hdn).reown hdn
theorem bgA_zero (hd : 30 < d) (hM : Mv [1] (W.alloc (.cells zC6 75)).drew (newTo oW W d) w5 o5) : Blk w5 W.heap.size 75 [.int .i64 0, .int .i64 0, .int .u64 0, .int .i64 0, .slice none 0 0, .slice none 0 0] := by
  have hz : Blk (W.alloc (.cells zC6 75)) W.heap.size 75 zC6.toList := blk_new W _ 75
  exact hz.block (hM.drew.block _ hz.lt (by rw [newTo_new (Nat.le_refl _)]; simp; omega))
theorem rbgA_new (h : RG w0 W oW p S T M K A X Br sv tv) (hO : ROrc w0 w5 o5 p.rr B.S) (hC : CgAt w5 B.c a b qs) (ha : KpF wq w5 o5 a qs) (hq : ∀ q ∈ qs, Kp0 w5 o5 q.2 q.1.b) (hk : Kp0 w5 o5 b B.c.o) (hM : Mv [8] W.drew oW w5 o5) :
    RG w0 (w5.alloc (.cells #[.int .i64 B.c.k, .int .i64 B.c.w, .int .u64 B.c.p, .int .i64 B.c.l, a, b] 80)) (newTo o5 w5 0) p S B.S M K A X Br sv tv ∧ CVar (w5.alloc (.cells #[.int .i64 B.c.k, .int .i64 B.c.w, .int .u64 B.c.p, .int .i64 B.c.l, a, b] 80)) (newTo o5 w5 0) w5.heap.size 80 B.c a b qs ∧ Mv [8] W oW (w5.alloc (.cells #[.int .i64 B.c.k, .int .i64 B.c.w, .int .u64 B.c.p, .int .i64 B.c.l, a, b] 80)) (newTo o5 w5 0) :=
  ⟨(h.rorcS hM.drew hO).below (balloc (Below.refl _ _) _) 0, cvar_new 80 hC ha hq hk, hM.drew.trans (Mv.of_below 0 (balloc (Below.refl _ _) _))⟩
theorem rbgA_put (h : RG w0 W oW p S T M K A X Br sv tv) (hd : 30 < d) (hdn : ∀ k, k < W.heap.size → oW k ≠ d) (hO : ROrc w0 w5 o5 p.rr B.S) (hC : CgAt w5 B.c a b qs) (ha : KpF wq w5 o5 a qs) (hq : ∀ q ∈ qs, Kp0 w5 o5 q.2 q.1.b) (hk : Kp0 w5 o5 b B.c.o)
    (hM : Mv [8] (W.alloc (.cells zC6 80)).drew (newTo oW W d) w5 o5) :
    RG w0 (put6 w5 W.heap.size (.int .i64 B.c.k) (.int .i64 B.c.w) (.int .u64 B.c.p) (.int .i64 B.c.l) a b) (reown d (newTo o5 w5 0)) p S B.S M K A X Br sv tv ∧ CVar (put6 w5 W.heap.size (.int .i64 B.c.k) (.int .i64 B.c.w) (.int .u64 B.c.p) (.int .i64 B.c.l) a b) (reown d (newTo o5 w5 0)) W.heap.size 80 B.c a b qs ∧ Mv [8] W oW (put6 w5 W.heap.size (.int .i64 B.c.k) (.int .i64 B.c.w) (.int .u64 B.c.p) (.int .i64 B.c.l) a b) (reown d (newTo o5 w5 0)) := by
  have m1 : Mv [] W oW (W.alloc (.cells zC6 80)) (newTo oW W d) := Mv.of_below d (balloc (Below.refl _ _) _)
  have hz : Blk (W.alloc (.cells zC6 80)) W.heap.size 80 zC6.toList := blk_new W _ 80
  have hb5 : Blk w5 W.heap.size 80 zC6.toList := hz.block (hM.drew.block _ hz.lt (by rw [newTo_new (Nat.le_refl _)]; simp; omega))
  have ho5 : o5 W.heap.size = d := by rw [hM.drew.ext _ hz.lt]; exact newTo_new (Nat.le_refl _)
  obtain ⟨c1, m5⟩ := cvar_put (by omega) hb5 ho5 hC ha hq hk
  have hw5 := (h.mv m1 (by simp)).rorcS hM.drew hO
  refine ⟨(hw5.mv m5 (fun i hi => by simp at hi; subst hi; unfold rOwn; simp; omega)).reown hd, c1, ?_⟩
  have mm : Mv [d, 8] W oW (put6 w5 W.heap.size (.int .i64 B.c.k) (.int .i64 B.c.w) (.int .u64 B.c.p) (.int .i64 B.c.l) a b) (newTo o5 w5 0) := (m1.widen (by simp)).trans ((hM.drew.widen (by simp)).trans (m5.widen (by simp)))
  exact (mm.restrict hdn).reown hdn
theorem rbgA_zero (hd : 30 < d) (hM : Mv [8] (W.alloc (.cells zC6 80)).drew (newTo oW W d) w5 o5) : Blk w5 W.heap.size 80 [.int .i64 0, .int .i64 0, .int .u64 0, .int .i64 0, .slice none 0 0, .slice none 0 0] := by
  have hz : Blk (W.alloc (.cells zC6 80)) W.heap.size 80 zC6.toList := blk_new W _ 80
  exact hz.block (hM.drew.block _ hz.lt (by rw [newTo_new (Nat.le_refl _)]; simp; omega))
theorem RG.setS {M' : Sm} {v : Value} (h : RG w0 W oW p S T M K A X Br sv tv) (hv : KpF mc W oW v M'.l) : RG w0 (putS W p.sb v M'.e) (newTo oW W 0) p S T M' K A X Br v tv ∧ Mv [7] W oW (putS W p.sb v M'.e) (newTo oW W 0) := by
  have m : Mv [7] W oW (putS W p.sb v M'.e) (newTo oW W 0) := Mv.of_turn 0 (turn_grown (grown_trans (grown_setCell W p.sb 0 v) (grown_setCell _ p.sb 1 (.int .i64 M'.e)) (fun k hk => .inl hk))) (fun k hk _ => by
    simp at hk
    subst hk
    rw [h.sbo]; decide)
  have hne : p.tb ≠ p.sb := fun e => by
    have h1 := h.sb; have h2 := h.tb
    rw [e] at h2
    have := h1.symm.trans h2
    simp at this
  have g := (grown_trans (grown_setCell W p.sb 0 v) (grown_setCell _ p.sb 1 (.int .i64 M'.e)) (fun k hk => .inl hk) : World.grownBy W (putS W p.sb v M'.e) (some p.sb))
  exact ⟨⟨h.blk.block (m.block _ h.blk.lt (by rw [h.own]; decide)), by rw [m.ext _ h.blk.lt]; exact h.own, h.orc.mv m (by decide), h.rorc.mv m (by decide) (by decide),
    (h.sb.set 0 v).set 1 _, by rw [m.ext _ h.sb.lt]; exact h.sbo, h.tb.block (g.block _ h.tb.lt (fun e => hne (Option.some.inj e))), by rw [m.ext _ h.tb.lt]; exact h.tbo,
    hv.mv m (by decide), h.t.mv m (by decide), h.a.mv m (by decide) (by decide), h.x.mv m (by decide) (by decide), h.b.mv m (by decide) (by decide)⟩, m⟩
theorem RG.setT {K' : Sm} {v : Value} (h : RG w0 W oW p S T M K A X Br sv tv) (hv : KpF mc W oW v K'.l) : RG w0 (putS W p.tb v K'.e) (newTo oW W 0) p S T M K' A X Br sv v ∧ Mv [7] W oW (putS W p.tb v K'.e) (newTo oW W 0) := by
  have m : Mv [7] W oW (putS W p.tb v K'.e) (newTo oW W 0) := Mv.of_turn 0 (turn_grown (grown_trans (grown_setCell W p.tb 0 v) (grown_setCell _ p.tb 1 (.int .i64 K'.e)) (fun k hk => .inl hk))) (fun k hk _ => by
    simp at hk
    subst hk
    rw [h.tbo]; decide)
  have hne : p.sb ≠ p.tb := fun e => by
    have h1 := h.sb; have h2 := h.tb
    rw [e] at h1
    have := h1.symm.trans h2
    simp at this
  have g := (grown_trans (grown_setCell W p.tb 0 v) (grown_setCell _ p.tb 1 (.int .i64 K'.e)) (fun k hk => .inl hk) : World.grownBy W (putS W p.tb v K'.e) (some p.tb))
  exact ⟨⟨h.blk.block (m.block _ h.blk.lt (by rw [h.own]; decide)), by rw [m.ext _ h.blk.lt]; exact h.own, h.orc.mv m (by decide), h.rorc.mv m (by decide) (by decide),
    h.sb.block (g.block _ h.sb.lt (fun e => hne (Option.some.inj e))), by rw [m.ext _ h.sb.lt]; exact h.sbo, (h.tb.set 0 v).set 1 _, by rw [m.ext _ h.tb.lt]; exact h.tbo,
    h.s.mv m (by decide), hv.mv m (by decide), h.a.mv m (by decide) (by decide), h.x.mv m (by decide) (by decide), h.b.mv m (by decide) (by decide)⟩, m⟩
end
end Go.Proofs.YtjbpfhnagiacmaaGreat
