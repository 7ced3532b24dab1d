/-
  Items of a tree by lists: found, put, taken away, who is within whom, who hangs. Items as cells; what an operation of ten cells runs to. The reference's tree in memory.
  A row of operations that is put in order where it lies.
-/
import Derived.Test.YthnjbjlhfohpfaaGreatLsG
namespace Go.Proofs.YthnjbjlhfohpfaaGreat
section
set_option linter.unusedVariables false
set_option linter.unusedSimpArgs false
set_option synthInstance.maxSize 20000
set_option maxHeartbeats 2000000
set_option maxRecDepth 20000
open Go.RowKit Go.Maps

structure IM where
  n : S
  p : S
  s : ByteArray
  d : Bool
  g : Bool
  y : S
  b : List Int
/-- The item of nothing. -/
def zM : IM := ⟨(0, 0), (0, 0), ⟨#[]⟩, false, false, (0, 0), []⟩
/-- An item, and where its content lies. -/
structure IT where
  m : IM
  a : Option Addr
  vn : Nat
  vc : Nat
def IT.v (x : IT) : Value := .slice x.a x.vn x.vc
def zT : IT := ⟨zM, none, 0, 0⟩
def ic (x : IT) : List Value := [.int .i64 x.m.n.1, .int .i64 x.m.n.2, .int .i64 x.m.p.1, .int .i64 x.m.p.2, .string x.m.s, .bool x.m.d, .bool x.m.g, .slice x.a x.vn x.vc, .int .i64 x.m.y.1, .int .i64 x.m.y.2]
theorem ic_len (x : IT) : (ic x).length = 10 := rfl
theorem ic_one (x : IT) : ∀ u ∈ ic x, u.oneCell' = true := fun u hu => by
  simp only [ic, List.mem_cons, List.not_mem_nil, or_false] at hu
  rcases hu with rfl | rfl | rfl | rfl | rfl | rfl | rfl | rfl | rfl | rfl <;> rfl
theorem flat_ic_one (l : List IT) : ∀ u ∈ flat ic l, u.oneCell' = true := flat_one fun x _ => ic_one x
def iv (x : IT) : Value := .agg (ic x).toArray

/-! ### Lists -/
def atN (n : S) (x : IM) : Bool := decide (x.n = n)
def findM (L : List IM) (n : S) : Option IM := L.find? (atN n)
def withinM (L : List IM) : Nat → S → S → Bool
  | 0, _, _ => false
  | k + 1, n, m => if m = n then true else match findM L m with
    | none => false
    | some x => withinM L k n x.p
def hangsM (L : List IM) : Nat → S → Bool
  | 0, _ => false
  | k + 1, n => if n = (0, 0) then true else match findM L n with
    | none => false
    | some x => if x.g = true then false else hangsM L k x.p
def dirM (L : List IM) (n : S) : Bool := decide (n = (0, 0)) || ((findM L n).map (fun x => x.d)).getD false
def kidM (n : S) (x : IM) : Bool := decide (x.p = n) && !x.g
def kidsM (L : List IM) (n : S) : List IM := L.filter (kidM n)
abbrev LtI (x y : IM) : Prop := ltP x.n y.n
def SrtI (L : List IM) : Prop := L.Pairwise LtI
def ahead (n : S) (x : IM) : Bool := decide (ltP x.n n)
def behind (n : S) (x : IM) : Bool := decide (ltP n x.n)
def other (n : S) (x : IM) : Bool := !decide (x.n = n)
def putM (L : List IM) (x : IM) : List IM := L.filter (ahead x.n) ++ x :: L.filter (behind x.n)
def delM (L : List IM) (n : S) : List IM := L.filter (other n)
def setM (L : List IM) (x : IM) (there : Bool) : List IM := if there = true then putM L x else delM L x.n
theorem putM_srt {L : List IM} (h : SrtI L) (x : IM) : SrtI (putM L x) := by
  unfold SrtI putM
  refine List.pairwise_append.2 ⟨h.filter _, List.pairwise_cons.2 ⟨fun y hy => ?_, h.filter _⟩, fun a ha b hb => ?_⟩
  · have := (List.mem_filter.1 hy).2
    exact of_decide_eq_true this
  · have h1 : ltP a.n x.n := of_decide_eq_true (List.mem_filter.1 ha).2
    rcases List.mem_cons.1 hb with e | e
    · rw [e]; exact h1
    · exact ltP_trans h1 (of_decide_eq_true (List.mem_filter.1 e).2)
theorem delM_srt {L : List IM} (h : SrtI L) (n : S) : SrtI (delM L n) := h.filter _
theorem setM_srt {L : List IM} (h : SrtI L) (x : IM) (there : Bool) : SrtI (setM L x there) := by
  unfold setM
  split
  · exact putM_srt h x
  · exact delM_srt h x.n

/-! ### Cells -/
theorem info41 : (Tryz.prog.info? 76).map (·.size) = some 10 := by kernel_rfl
theorem ty30 : RowTy 47 76 10 96 (iv zT) := ⟨by kernel_rfl, by kernel_rfl, by kernel_rfl, by omega⟩
section
variable {o : Oper} {r : Operand → Value} {w : World}
theorem exec_load41 {b off : Nat} {q : IT} (x : Operand) (ho : o.op = .load 76 x) (hx : r x = .pointer (some ⟨b, off, none⟩)) (hc : w.rangeAt b off (ic q)) : (execOp r o).run Tryz.prog w = .ok (.value (iv q)) w := by
  have h := run_loadAt_mid (P := Tryz.prog) w b off 76 (ic q) _ hc Tryz.underlying76 rfl (by rw [ic_len]; exact info41)
  unfold execOp
  simp only [ho, hx, Sem.run_bind, h, Result.andThen_ok, Sem.run_pure]
  rfl
theorem exec_store41 {b off : Nat} {q : IT} (x y : Operand) (ho : o.op = .store 76 x y) (hx : r x = .pointer (some ⟨b, off, none⟩)) (hy : r y = iv q) (ht : w.there b off 10) : (execOp r o).run Tryz.prog w = .ok .skip (w.setCells b off (ic q)) := by
  have h := run_storeAt_mid (P := Tryz.prog) w b off 76 (ic q).toArray (by simpa [ic_len] using ht) (by rw [List.size_toArray, ic_len]; exact info41) (all_oneCell_toArray (ic_one q))
  unfold iv at hy
  unfold execOp
  simp only [ho, hx, hy, Sem.run_bind, h, Result.andThen_ok, Sem.run_pure]
theorem exec_box41 {q : IT} (x : Operand) (ho : o.op = .box 76 x) (hx : r x = iv q) : (execOp r o).run Tryz.prog w = .ok (.value (.pointer (some ⟨w.heap.size, 0, none⟩))) (w.alloc (.cells (ic q).toArray 76)) := by
  obtain ⟨⟨⟨n1, n2⟩, ⟨p1, p2⟩, s, d, g, ⟨y1, y2⟩, b⟩, a, vn, vc⟩ := q
  unfold iv ic at hx
  unfold ic
  dsimp only at hx ⊢
  unfold execOp
  simp only [ho]
  go_simp
theorem exec_build41 {q : IT} (x : Operand) (ho : o.op = .buildSlice 47 1 #[(0, x)]) (hx : r x = iv q) : (execOp r o).run Tryz.prog w = .ok (.value (.slice (some ⟨w.heap.size, 0, none⟩) 1 1)) (w.alloc (.cells (ic q).toArray 76)) := by
  obtain ⟨⟨⟨n1, n2⟩, ⟨p1, p2⟩, s, d, g, ⟨y1, y2⟩, b⟩, a, vn, vc⟩ := q
  unfold iv ic at hx
  unfold ic
  dsimp only at hx ⊢
  unfold execOp
  simp only [ho]
  go_simp
end
theorem wpList_okw {P : Program} {w w' : World} {ops : Array Oper} {rest : List Oper} {o : Oper} {a : Act} {Q : Exit → Act → World → Prop} {v : Value} (hw : Region.wanted o (yielded ops a.tmps) = true) (hr : (execOp a.eval o).run P w = .ok (.value v) w') (h : wpList P ops Q rest (a.put o.dst v) w') : wpList P ops Q (o :: rest) a w :=
  wpList_wanted hw fun K hK => wp_ok hr (hK _ _ h)
theorem wpList_skipw {P : Program} {w w' : World} {ops : Array Oper} {rest : List Oper} {o : Oper} {a : Act} {Q : Exit → Act → World → Prop} (hw : Region.wanted o (yielded ops a.tmps) = true) (hr : (execOp a.eval o).run P w = .ok .skip w') (h : wpList P ops Q rest (a.put o.dst undef) w') : wpList P ops Q (o :: rest) a w :=
  wpList_wanted hw fun K hK => wp_skip hr (hK _ _ h)

/-! ### The reference's tree in memory -/
structure RTr (w : World) (tb : Nat) (v : Value) (L : List IT) : Prop where
  blk : Blk w tb 54 [v]
  row : RowF ic w v L
  rd : ∀ x ∈ L, Rd w x.v x.m.b
theorem RTr.below {w w' : World} {tb : Nat} {v : Value} {L : List IT} (h : RTr w tb v L) (hb : Below w.heap.size w w') : RTr w' tb v L := ⟨h.blk.below hb, h.row.below hb, fun x hx => (h.rd x hx).below hb⟩
/-- Bytes don't lie in a block of one slice. -/
theorem rd_past {w w' : World} {tb : Nat} {v u : Value} {l : List Int} {e : TypeId} (h : Rd w v l) (hb : Blk w tb e [u]) (hu : ∀ n, u ≠ .int .u8 n) (hg : w.grownBy w' (some tb)) : Rd w' v l := by
  by_cases hp : 0 < l.length
  · refine h.kept hg fun k hk hv => ?_
    cases hk
    obtain ⟨_, a, cap, rfl, _, _, _, h4⟩ := h
    obtain ⟨b, off, rfl, hc⟩ := h4 hp
    have e1 : b = tb := by simpa [Value.ownBlock] using hv
    subst e1
    have c0 := hc 0 hp
    unfold Blk at hb
    simp [World.cell?, hb] at c0
    rcases Nat.eq_zero_or_pos off with e0 | e0
    · subst e0
      simp at c0
      exact hu _ c0
    · rw [List.getElem?_eq_none (by simp; omega)] at c0
      cases c0
  · obtain ⟨ho, a, cap, rfl, h1, h2, h3, h4⟩ := h
    exact ⟨ho, a, cap, rfl, h1, h2, h3, fun h => absurd h hp⟩
end

section
set_option linter.unusedVariables false
set_option linter.unusedSimpArgs false
set_option synthInstance.maxSize 20000
set_option maxHeartbeats 2000000
set_option maxRecDepth 20000
open Go.RowKit Go.Maps

/-- A slice of N operations from the beginning of block g on. -/
def Row (w : World) (g N cap : Nat) (l : List OpT) : Prop := l.length = N ∧ w.ownsRow 0 38 10 (.slice (some ⟨g, 0, none⟩) N cap) N (flat oc l)
section
variable {w w' : World} {g N cap i : Nat} {l : List OpT} {x : OpT}
theorem Row.load (h : Row w g N cap l) (hi : l[i]? = some x) : w.rangeAt g (i * 10) (oc x) := row_range oc_len h.2 hi
theorem Row.there (h : Row w g N cap l) (hi : i < N) : w.there g (i * 10) 10 := row_there oc_len h.2 (by rw [h.1]; exact hi)
theorem Row.put (h : Row w g N cap l) (hi : i < N) (x : OpT) : Row (w.setCells g (i * 10) (oc x)) g N cap (l.set i x) := ⟨by rw [List.length_set]; exact h.1, row_put oc_len h.2 (by rw [h.1]; exact hi) h.1.symm x⟩
theorem Row.lt (h : Row w g N cap l) : g < w.heap.size := (h.2.lt g rfl).2
theorem Row.below (h : Row w g N cap l) (hb : Below w.heap.size w w') : Row w' g N cap l := ⟨h.1, ownsRow_block h.2 fun k hk => by cases hk; exact hb.block _ h.lt⟩
theorem Row.drew (h : Row w g N cap l) : Row w.drew g N cap l := h
theorem Row.caps (h : Row w g N cap l) : N ≤ cap ∧ cap ≤ 9223372036854775807 := by
  obtain ⟨a, c, e, h1, h2⟩ := slice_of_own h.2
  injection e with _ _ e3
  subst e3
  exact ⟨h1, h2⟩
end
theorem grown_undrew {w w' : World} {r : Option Nat} (h : w.drew.grownBy w' r) : w.grownBy w' r := ⟨h.os, h.tape, h.output, h.size, h.block⟩
/-- Of two runs of n, what stands behind i exchanges. -/
structure Half (p U q V s : List OpT) (n i : Nat) (l' : List OpT) : Prop where
  parts : ∃ U1 U2 V1 V2, U = U1 ++ U2 ∧ V = V1 ++ V2 ∧ U1.length = i ∧ V1.length = i ∧ U.length = n ∧ V.length = n ∧ l' = p ++ (V1 ++ (U2 ++ (q ++ (U1 ++ (V2 ++ s)))))
theorem Half.start {p U q V s : List OpT} {n : Nat} (hU : U.length = n) (hV : V.length = n) : Half p U q V s n 0 (p ++ (U ++ (q ++ (V ++ s)))) :=
  ⟨[], U, [], V, rfl, rfl, rfl, rfl, hU, hV, rfl⟩
theorem Half.done {p U q V s l' : List OpT} {n : Nat} (h : Half p U q V s n n l') : l' = p ++ (V ++ (q ++ (U ++ s))) := by
  obtain ⟨U1, U2, V1, V2, rfl, rfl, h1, h2, h3, h4, rfl⟩ := h.parts
  have e1 : U2 = [] := List.eq_nil_of_length_eq_zero (by simp at h3; omega)
  have e2 : V2 = [] := List.eq_nil_of_length_eq_zero (by simp at h4; omega)
  subst e1 e2
  simp
theorem Half.more {p U q V s l' : List OpT} {n i : Nat} (h : Half p U q V s n i l') (hi : i < n) :
    ∃ u v, l'[p.length + i]? = some u ∧ l'[p.length + n + q.length + i]? = some v ∧ Half p U q V s n (i + 1) ((l'.set (p.length + i) v).set (p.length + n + q.length + i) u) := by
  obtain ⟨U1, U2, V1, V2, rfl, rfl, h1, h2, h3, h4, rfl⟩ := h.parts
  cases U2 with
  | nil => simp at h3; omega
  | cons u U2 =>
    cases V2 with
    | nil => simp at h4; omega
    | cons v V2 =>
      have key := swap_far (p ++ V1) (U2 ++ (q ++ U1)) (V2 ++ s) u v
      simp only [List.length_append, List.length_cons] at h3 h4
      have e1 : p.length + i = (p ++ V1).length := by simp; omega
      have e2 : p.length + n + q.length + i = (p ++ V1).length + 1 + (U2 ++ (q ++ U1)).length := by simp; omega
      have e3 : p ++ (V1 ++ (u :: U2 ++ (q ++ (U1 ++ (v :: V2 ++ s))))) = (p ++ V1) ++ u :: ((U2 ++ (q ++ U1)) ++ v :: (V2 ++ s)) := by simp
      rw [e1, e2, e3]
      refine ⟨u, v, get_mid _ _ _, ?_, ?_⟩
      · have := get_mid ((p ++ V1) ++ u :: (U2 ++ (q ++ U1))) (V2 ++ s) v
        rw [show ((p ++ V1) ++ u :: (U2 ++ (q ++ U1))).length = (p ++ V1).length + 1 + (U2 ++ (q ++ U1)).length by simp; omega] at this
        rw [← this]
        simp
      · rw [key]
        exact ⟨U1 ++ [u], U2, V1 ++ [v], V2, by simp, by simp, by simp; omega, by simp; omega, by simp; omega, by simp; omega, by simp⟩
/-- Two operations of a row are exchanged: two stores. -/
theorem Row.xchg {w0 wd : World} {g N cap i j : Nat} {l : List OpT} (h : Row wd g N cap l) (hg : w0.grownBy wd (some g)) (hi : i < N) (hj : j < N) (x y : OpT) :
    ∃ w1 w2, w1 = wd.setCells g (i * 10) (oc y) ∧ w2 = w1.setCells g (j * 10) (oc x) ∧ Row w2 g N cap ((l.set i y).set j x) ∧ w0.grownBy w2 (some g) ∧ wd.there g (i * 10) 10 ∧ w1.there g (j * 10) 10 := by
  have R1 := h.put hi y
  exact ⟨_, _, rfl, rfl, R1.put hj x, grown_trans (grown_trans hg (grown_setCells g _ _ _) (fun k hk => .inl hk)) (grown_setCells g _ _ _) (fun k hk => .inl hk), h.there hi, R1.there hj⟩
theorem below_drewn (w : World) (n : Nat) : Below w.heap.size w (w.drewN n) := ⟨rfl, rfl, rfl, Nat.le_refl _, fun _ _ => rfl⟩
theorem grown_drewn {w w' : World} {r : Option Nat} (h : w.grownBy w' r) (n : Nat) : w.grownBy (w'.drewN n) r := ⟨h.os, h.tape, h.output, h.size, h.block⟩
end
end Go.Proofs.YthnjbjlhfohpfaaGreat
