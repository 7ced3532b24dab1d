/-
  A queue in memory: a cell of a block holds a row of entries of its own. Push, Pop, Len of its line.
-/
import Derived.Test.YtigfklcclfpcjaaLine
namespace Go.Proofs.Ytigfklcclfpcjaa
set_option linter.unusedVariables false
set_option linter.unusedSimpArgs false
set_option synthInstance.maxSize 20000
set_option maxHeartbeats 2000000
set_option maxRecDepth 20000
open Go.RowKit Go.Maps

theorem copied_any (w : World) (e : Ent) (x : Value) (hx : Rd w x e.b) (hl : e.b.length ≤ 1000000) :
    Calls Try.prog 29 #[ev e x] w fun r w' => ∃ y, r = .returned (ev e y) ∧ Own w.heap.size 5 w' y e.b ∧ Below w.heap.size w w' := by
  have HV : Hid (Rd w x e.b) := hx
  obtain ⟨a, cap, rfl⟩ := hx.len
  obtain ⟨ew, ei, ep, et, eu, en, eb, eg⟩ := e
  unfold ev
  dsimp only at *
  obtain ⟨w1, hw1⟩ : ∃ w1, w1 = (w.alloc (.cells #[.int .i64 ew, .int .i64 ei, .int .u64 ep, .int .i64 et, .int .i64 eu, .int .i64 en, .slice a eb.length cap, .int .u64 eg] 38)).alloc (.cells #[.int .i64 0, .int .i64 0, .int .u64 0, .int .i64 0, .int .i64 0, .int .i64 0, .slice none 0 0, .int .u64 0] 38) := ⟨_, rfl⟩
  have HB1 : Hid (Below w.heap.size w w1) := by show Below _ _ _; rw [hw1]; exact balloc (balloc (Below.refl _ _) _) _
  have HX1 : Hid (Blk w1 w.heap.size 38 [.int .i64 ew, .int .i64 ei, .int .u64 ep, .int .i64 et, .int .i64 eu, .int .i64 en, .slice a eb.length cap, .int .u64 eg]) := by show Blk _ _ _ _; rw [hw1]; exact (blk_new w [.int .i64 ew, .int .i64 ei, .int .u64 ep, .int .i64 et, .int .i64 eu, .int .i64 en, .slice a eb.length cap, .int .u64 eg] 38).alloc _
  have HZ1 : Hid (Blk w1 (w.heap.size + 1) 38 [.int .i64 0, .int .i64 0, .int .u64 0, .int .i64 0, .int .i64 0, .int .i64 0, .slice none 0 0, .int .u64 0]) := by
    show Blk _ _ _ _
    rw [hw1]
    have := blk_new (w.alloc (.cells #[.int .i64 ew, .int .i64 ei, .int .u64 ep, .int .i64 et, .int .i64 eu, .int .i64 en, .slice a eb.length cap, .int .u64 eg] 38)) [.int .i64 0, .int .i64 0, .int .u64 0, .int .i64 0, .int .i64 0, .int .i64 0, .slice none 0 0, .int .u64 0] 38
    simpa using this
  clear hx
  go_enter Try.func29, Try.ntmps29
  go_upto_region 1 with fail
  rw [← hw1]
  obtain ⟨n, hn⟩ : ∃ n, n = w.heap.size := ⟨_, rfl⟩
  rw [← hn] at HX1 HZ1 ⊢
  have HNN : Hid (n = w.heap.size) := hn
  clear hw1 hn
  have x6 := HX1.out.cell 6 _ rfl
  go_wp2_with (go_at_call 46; go_must (refine (bclone_any _ eb w1 (HV.out.below HB1.out) (by omega)).mono ?_; rintro r w4 ⟨x4, rfl, ho4, hb4⟩; obtain ⟨a4, c4, hx⟩ := ho4.rd.len; subst hx; have Z := HZ1.out.below hb4; have Y := HX1.out.below hb4; have p0 := Y.cell 0 _ rfl; have p1 := Y.cell 1 _ rfl; have p2 := Y.cell 2 _ rfl; have p3 := Y.cell 3 _ rfl; have p4 := Y.cell 4 _ rfl; have p5 := Y.cell 5 _ rfl; have p6 := Y.cell 6 _ rfl; have p7 := Y.cell 7 _ rfl; have q0 := Y.frozen 0; have q1 := Y.frozen 1; have q2 := Y.frozen 2; have q3 := Y.frozen 3; have q4 := Y.frozen 4; have q5 := Y.frozen 5; have q6 := Y.frozen 6; have q7 := Y.frozen 7; have z0 := Z.cell 0 _ rfl; have z1 := Z.cell 1 _ rfl; have z2 := Z.cell 2 _ rfl; have z3 := Z.cell 3 _ rfl; have z4 := Z.cell 4 _ rfl; have z5 := Z.cell 5 _ rfl; have z6 := Z.cell 6 _ rfl; have z7 := Z.cell 7 _ rfl; have f0 := Z.frozen 0; have f1 := Z.frozen 1; have f2 := Z.frozen 2; have f3 := Z.frozen 3; have f4 := Z.frozen 4; have f5 := Z.frozen 5; have f6 := Z.frozen 6; have f7 := Z.frozen 7))
  have HN1 : Hid (n + 1 < w1.heap.size) := HZ1.out.lt
  have G1 : w4.grownBy (w4.setCell ⟨n, 6, none⟩ (.slice a4 eb.length c4)) (some n) := grown_setCell _ _ _ _
  have G2 := grown_set8 (w4.setCell ⟨n, 6, none⟩ (.slice a4 eb.length c4)) (n + 1) (.int .i64 ew) (.int .i64 ei) (.int .u64 ep) (.int .i64 et) (.int .i64 eu) (.int .i64 en) (.slice a4 eb.length c4) (.int .u64 eg)
  refine bodyPost_ret (v := .agg #[.int .i64 ew, .int .i64 ei, .int .u64 ep, .int .i64 et, .int .i64 eu, .int .i64 en, .slice a4 eb.length c4, .int .u64 eg]) ?_ rfl ⟨_, rfl, ?_, ?_⟩
  · rw [results_cell1 rfl]
    go_simp
  · exact (own_past (own_past ho4 (by have := HN1.out; omega) G1) HN1.out G2).lower HB1.out.size
  · exact bgrown (bgrown (bnext HB1.out hb4) (by have := HNN.out; omega) G1) (by have := HNN.out; omega) G2

theorem copied_mv {w : World} {o : Nat → Nat} {e : Ent} {x : Value} (hx : Kp0 w o x e.b) (hl : e.b.length ≤ 1000000) :
    Calls Try.prog 29 #[ev e x] w fun r w' => ∃ y, r = .returned (ev e y) ∧ Kp0 w' (newTo o w 0) y e.b ∧ Below w.heap.size w w' := by
  refine (copied_any w e x hx.1 hl).mono ?_
  rintro r w' ⟨y, rfl, ho, hb⟩
  exact ⟨y, rfl, Kp0.of_new (w1 := w) ho (Nat.le_refl _), hb⟩

section
variable {w : World} {ops : Array Oper} {rest : List Oper} {o : Oper} {a : Act} {Q : Exit → Act → World → Prop}
/-- append of entries onto a row of one's own, whatever the slice's type is called. -/
theorem wpList_append_entsT (t : TypeId) (Ht : Try.prog.underlying t = some (.slice 38)) (hgd : o.guard = none) (s x : Operand) (ho : o.op = .call { callee := .builtin .append, args := #[s, x], argTypes := #[t, t] })
    (v : Value) (ps : List (Ent × Value)) (hs : a.eval s = v) (hown : w.ownsRow 0 38 8 v ps.length (flatE ps))
    (y : Value) (qs : List (Ent × Value)) (hx : a.eval x = y) (hy : RowE w y qs) (h1 : ∀ u ∈ flatE qs, u.oneCell' = true) (hlen : ps.length + qs.length ≤ 1000000)
    (h : ∀ v' w', w'.ownsRow 0 38 8 v' (ps ++ qs).length (flatE (ps ++ qs)) → w.grownBy w' v.ownBlock → (∀ k, v'.ownBlock = some k → v.ownBlock = some k ∨ w.heap.size ≤ k) → wpList Try.prog ops Q rest (a.put o.dst v') w') : wpList Try.prog ops Q (o :: rest) a w := by
  obtain ⟨ad, c, rfl, k1, k2, k3, k4⟩ := hy
  obtain ⟨i, hi, hz, hs1, hs2⟩ := infoE
  have hmax : ps.length + qs.length ≤ maxLen := by unfold maxLen; omega
  refine wpList_plain hgd fun K hK => ?_
  unfold Oper.wp
  have fin : ∀ (v' : Value) (w' : World), w'.ownsRow 0 38 8 v' (ps.length + qs.length) (flatE ps ++ flatE qs) → w'.ownsRow 0 38 8 v' (ps ++ qs).length (flatE (ps ++ qs)) := fun v' w' hh => by
    rw [List.length_append, flatE_append]
    exact hh
  cases ad with
  | none =>
    have h0 := k3 rfl
    subst h0
    have h0 : qs = [] := List.eq_nil_of_length_eq_zero (by omega)
    subst h0
    have hrun := run_append_owned_none (P := Try.prog) w 0 t o.type 38 i 8 Ht hi v _ _ hown
    simp [execOp, ho, resolve, invoke, builtin, hs, hx, hrun, Result.andThen]
    exact hK _ _ (h v w (by simpa using hown) (grown_refl _ _) (fun k hk => .inl hk))
  | some ad =>
    have hcells : ∀ j u, (flatE qs)[j]? = some u → w.cell? (ad.add j) = some u := fun j u hj => by
      have hp : 0 < qs.length := by
        have := (List.getElem?_eq_some_iff.1 hj).1
        rw [flatE_length] at this
        omega
      obtain ⟨b, off, e, hc⟩ := k4 hp
      cases e
      rw [Addr.add_lit]
      exact hc j u hj
    obtain ⟨v', w', hrun, r1, r2, r3⟩ := run_append_where (P := Try.prog) w 0 t o.type 38 i _ 8 80 Ht hi hz hs1 hs2 rfl (by decide) v ps.length (flatE ps) hown ad qs.length c (flatE qs) (flatE_length qs) hcells h1 hmax (by omega) (Nat.zero_le _)
    simp [execOp, ho, resolve, invoke, builtin, hs, hx, hrun, Result.andThen]
    exact hK _ _ (h v' w' (fin _ _ r1) r2 r3)
end
theorem und57 : Try.prog.underlying 57 = some (.slice 38) := Try.underlying57

theorem Mv.of_grown {I : List Nat} {w w' : World} {o : Nat → Nat} {r : Option Nat} (h : w.grownBy w' r) (hI : ∀ k, r = some k → k < w.heap.size → o k ∈ I) : Mv I w o w' (newTo o w 0) :=
  ⟨h.os, h.tape, h.output, h.size, fun k hk => newTo_old hk, fun k hk hn => h.block k hk (fun e => hn (hI k e.symm hk))⟩
theorem mv_drewn {I : List Nat} (w : World) (o : Nat → Nat) : Mv I w o w.drew o := ⟨rfl, rfl, rfl, Nat.le_refl _, fun _ _ => rfl, fun _ _ _ => rfl⟩
theorem mv_drew {I : List Nat} {w w' : World} {o o' : Nat → Nat} (h : Mv I w o w' o') : Mv I w o w'.drew o' := ⟨h.os, h.tape, h.output, h.size, h.ext, h.block⟩
theorem mv_undrew {I : List Nat} {w w' : World} {o o' : Nat → Nat} (h : Mv I w.drew o w' o') : Mv I w o w' o' := ⟨h.os, h.tape, h.output, h.size, h.ext, h.block⟩

/-- The queue in the last cell of the block b. -/
structure QAt (w : World) (o : Nat → Nat) (j b : Nat) (T : TypeId) (pre : List Value) (v : Value) (ps : List (Ent × Value)) : Prop where
  blk : Blk w b T (pre ++ [v])
  row : w.ownsRow 0 38 8 v ps.length (flatE ps)
  ob : o b = j
  own : ∀ k, v.ownBlock = some k → o k = j ∧ k ≠ b
  ents : Ents w o ps
section
variable {w w' : World} {o o' : Nat → Nat} {j b : Nat} {T : TypeId} {pre : List Value} {v : Value} {ps : List (Ent × Value)}
theorem QAt.cell (h : QAt w o j b T pre v ps) : w.cell? ⟨b, pre.length, none⟩ = some v := h.blk.cell _ _ (by simp)
theorem QAt.froz (h : QAt w o j b T pre v ps) : w.frozen? ⟨b, pre.length, none⟩ = false := h.blk.frozen _
theorem QAt.rowE (h : QAt w o j b T pre v ps) : RowE w v ps := rowE_own h.row
theorem QAt.slices (h : QAt w o j b T pre v ps) : ∀ q ∈ ps, ∃ a n c, q.2 = .slice a n c := fun q hq => by
  obtain ⟨a, c, e⟩ := (h.ents q hq).2.1.len
  exact ⟨a, _, c, e⟩
theorem QAt.mv {I : List Nat} (h : QAt w o j b T pre v ps) (m : Mv I w o w' o') (h0 : 0 ∉ I) (hj : j ∉ I) : QAt w' o' j b T pre v ps := by
  refine ⟨h.blk.block (m.block b h.blk.lt (by rw [h.ob]; exact hj)), ownsRow_block h.row (fun k hk => m.block k (h.row.lt k hk).2 (by rw [(h.own k hk).1]; exact hj)), ?_, fun k hk => ⟨?_, (h.own k hk).2⟩, h.ents.mv m h0⟩
  · rw [m.ext b h.blk.lt]; exact h.ob
  · rw [m.ext k (h.row.lt k hk).2]; exact (h.own k hk).1
theorem QAt.below (h : QAt w o j b T pre v ps) (hb : Below w.heap.size w w') : QAt w' (newTo o w 0) j b T pre v ps := h.mv (Mv.of_below (I := []) 0 hb) (by simp) (by simp)
/-- The entries change places. -/
theorem QAt.turned {qs : List (Ent × Value)} (h : QAt w o j b T pre v ps) (hj0 : j ≠ 0) (hl : qs.length = ps.length) (hq : ∀ q ∈ qs, q ∈ ps) (hrow : w'.ownsRow 0 38 8 v ps.length (flatE qs)) (hg : w.grownBy w' v.ownBlock) : QAt w' (newTo o w 0) j b T pre v qs ∧ Mv [j] w o w' (newTo o w 0) := by
  have M : Mv [j] w o w' (newTo o w 0) := Mv.of_grown hg (fun k hk _ => by rw [(h.own k hk).1]; simp)
  refine ⟨⟨h.blk.past' hg (fun e => (h.own b e).2 rfl), by rw [hl]; exact hrow, ?_, fun k hk => ⟨?_, (h.own k hk).2⟩, fun q hq' => h.ents.mv M (by simp; omega) q (hq q hq')⟩, M⟩
  · rw [newTo_old h.blk.lt]; exact h.ob
  · rw [newTo_old (h.row.lt k hk).2]; exact (h.own k hk).1

theorem set_last (pre : List Value) (v v' : Value) : (pre ++ [v]).set pre.length v' = pre ++ [v'] := by
  rw [List.set_append_right _ _ (Nat.le_refl _)]
  simp
theorem push_end {w5 : World} (h : QAt w o j b T pre v ps) (hj0 : j ≠ 0) {e : Ent} {x v' : Value} (he : EOk e) (hx : Kp0 w o x e.b) (ob : Obj) (hg : (w.alloc ob).grownBy w5 v.ownBlock)
    (hrow : w5.ownsRow 0 38 8 v' (ps ++ [(e, x)]).length (flatE (ps ++ [(e, x)]))) (hwh : ∀ k, v'.ownBlock = some k → v.ownBlock = some k ∨ (w.alloc ob).heap.size ≤ k) :
    ∃ o', QAt (w5.setCell ⟨b, pre.length, none⟩ v') o' j b T pre v' (ps ++ [(e, x)]) ∧ Mv [j] w o (w5.setCell ⟨b, pre.length, none⟩ v') o' := by
  have hb := h.blk.lt
  have hsz : (w.alloc ob).heap.size = w.heap.size + 1 := by simp
  have G : w.grownBy w5 v.ownBlock := grown_none (World.grownBy_alloc w ob none) hg
  have G2 := grown_setCell w5 b pre.length v'
  have M : Mv [j] w o (w5.setCell ⟨b, pre.length, none⟩ v') (newBy o w (fun k => if v'.ownBlock = some k then j else 0)) := by
    refine ⟨G2.os.trans G.os, G2.tape.trans G.tape, G2.output.trans G.output, Nat.le_trans G.size G2.size, fun k hk => newBy_old hk, fun k hk hn => ?_⟩
    refine (G2.block k (Nat.lt_of_lt_of_le hk G.size) (fun e => hn ?_)).trans (G.block k hk (fun e => hn ?_))
    · have := Option.some.inj e
      subst this
      rw [h.ob]; simp
    · rw [(h.own k e.symm).1]; simp
  have hkb : ∀ k, v'.ownBlock = some k → k ≠ b := fun k hk => by
    rcases hwh k hk with r | r
    · exact (h.own k r).2
    · omega
  refine ⟨_, ⟨?_, ?_, ?_, fun k hk => ⟨?_, hkb k hk⟩, ?_⟩, M⟩
  · have B := ((h.blk.alloc ob).past' hg (fun e => (h.own b e).2 rfl)).set pre.length v'
    rw [set_last] at B
    exact B
  · exact ownsRow_block hrow (fun k hk => G2.block k (hrow.lt k hk).2 (fun e => hkb k hk (Option.some.inj e)))
  · rw [newBy_old hb]; exact h.ob
  · rcases hwh k hk with r | r
    · rw [newBy_old (h.row.lt k r).2]; exact (h.own k r).1
    · rw [newBy_new (by omega)]
      exact if_pos hk
  · exact (h.ents.mv M (by simp; omega)).append (ents_one he (hx.mv M (by simp; omega)))
end

def QIs (w : World) (o : Nat → Nat) (j b : Nat) (T : TypeId) (pre : List Value) (ps : List (Ent × Value)) : Prop := ∃ v, QAt w o j b T pre v ps

theorem len_any (a : Option Addr) (n c : Nat) (w : World) : Calls Try.prog 27 #[.slice a n c] w fun r w' => r = .returned (.int .i64 (n : Int)) ∧ w' = w := by
  go_enter Try.func27, Try.ntmps27
  go_wp2
  go_ret
  exact ⟨rfl, rfl⟩

theorem push_any {w : World} {o : Nat → Nat} {j b : Nat} {T : TypeId} {pre : List Value} {v : Value} {ps : List (Ent × Value)} {e : Ent} {x : Value} (h : QAt w o j b T pre v ps) (hj0 : j ≠ 0) (he : EOk e) (hx : Kp0 w o x e.b) (hfew : ps.length ≤ 1000) :
    Calls Try.prog 78 #[.pointer (some ⟨b, pre.length, none⟩), .iface 38 (ev e x)] w fun r w' => r = .returned (.tuple #[]) ∧ ∃ o', QIs w' o' j b T pre (ps ++ [(e, x)]) ∧ Mv [j] w o w' o' := by
  have AE := fun (w5 : World) (v' : Value) ob h5 h6 h7 => push_end (w5 := w5) (v' := v') (w := w.drew) (o := o) (h.mv (mv_drewn (I := []) w o) (by simp) (by simp)) hj0 he (hx.mv (mv_drewn (I := []) w o) (by simp)) ob h5 h6 h7
  have MU := fun (w' : World) (o' : Nat → Nat) (h : Mv [j] w.drew o w' o') => mv_undrew h
  have R1 := rowE_one w.drew e x
  have O1 : ∀ u ∈ flatE [(e, x)], u.oneCell' = true := (ents_one he hx).one
  have HR : Hid (w.drew.ownsRow 0 38 8 v ps.length (flatE ps)) := h.row
  have c0 : w.drew.cell? ⟨b, pre.length, none⟩ = some v := h.cell
  have HB : Hid (Blk w.drew b T (pre ++ [v])) := h.blk
  have HO : Hid (∀ k, v.ownBlock = some k → k ≠ b) := fun k hk => (h.own k hk).2
  obtain ⟨av, cv, hvv, hcv, _⟩ := slice_of_own h.row
  subst hvv
  obtain ⟨a, cap, hxx⟩ := hx.1.len
  subst hxx
  clear h hx
  obtain ⟨ew, ei, ep, et, eu, en, eb, eg⟩ := e
  unfold ev at *
  dsimp only at *
  generalize hoff : pre.length = off at *
  go_enter Try.func78, Try.ntmps78
  have ne : Nonempty (WIn (fun _ => True)) := ⟨⟨w, trivial⟩⟩
  refine wp_region_tree (C := fun w' => ∃ z : WIn (fun _ => True), w' = z.w)
    (.still 0 (.still 1 (.still 2 (.still 4 (.two 3 (.one 5 (.one 6 (.one 7 (.still 8 (.one 9 .done))))) 5 (.two 3 (.one 6 (.one 7 (.still 8 (.one 9 .done)))) 6 (.one 3 (.one 7 (.still 8 (.one 9 .done))))))))))
    (by kernel_rfl) (by kernel_rfl) ⟨⟨w.drew, trivial⟩, rfl⟩ ?_
  generalize w.drew = wd at *
  have HAE : Hid (_) := AE
  have HMU : Hid (_) := MU
  have HR1 : Hid (RowE _ _ _) := R1
  have HO1 : Hid (_) := O1
  clear AE MU R1 O1
  have d0 := (HB.out.alloc (.cells #[.int .i64 ew, .int .i64 ei, .int .u64 ep, .int .i64 et, .int .i64 eu, .int .i64 en, .slice a eb.length cap, .int .u64 eg] 38)).cell off (.slice av ps.length cv) (by rw [← hoff]; simp)
  iterate 4 (refine tree_still rfl rfl ?_; go_big_quiet_step (fail); refine wpQuiet_nil ?_)
  refine tree_two rfl rfl rfl rfl ?wayA ?wayB
  case' wayA =>
    go_simp
    refine ⟨⟨⟨_, trivial⟩, rfl⟩, ?_⟩
    refine tree_one rfl rfl ?_
    go_simp
    refine ⟨⟨⟨_, trivial⟩, rfl⟩, ?_⟩
    refine tree_one rfl rfl ?_
    go_simp
    refine ⟨⟨⟨_, trivial⟩, rfl⟩, ?_⟩
  case' wayB =>
    go_simp
    refine ⟨⟨⟨_, trivial⟩, rfl⟩, ?_⟩
    refine tree_two rfl rfl rfl rfl ?wayC ?wayD
  case' wayC =>
    go_simp
    refine ⟨⟨⟨_, trivial⟩, rfl⟩, ?_⟩
    refine tree_one rfl rfl ?_
    go_simp
    refine ⟨⟨⟨_, trivial⟩, rfl⟩, ?_⟩
  case' wayD =>
    go_simp
    refine ⟨⟨⟨_, trivial⟩, rfl⟩, ?_⟩
    refine tree_one rfl rfl ?_
    go_simp
    refine ⟨⟨⟨_, trivial⟩, rfl⟩, ?_⟩
  all_goals
    refine tree_one rfl rfl ?_
    refine wp_of_list rfl ?_
    refine wpList_append_entsT 57 und57 rfl (.tmp 7) (.tmp 10) rfl (.slice av ps.length cv) ps rfl (HR.out.alloc _) _ _ rfl HR1.out HO1.out (by simp; omega) ?_
    intro v' w5 hrow hg hwh
    have HE := HAE.out w5 v' _ hg hrow hwh
    obtain ⟨av', cv2, hv', _⟩ := slice_of_own hrow
    subst hv'
    have HE' : Hid (_) := HE
    clear HE
    have B5 := (HB.out.alloc (.cells #[.int .i64 ew, .int .i64 ei, .int .u64 ep, .int .i64 et, .int .i64 eu, .int .i64 en, .slice a eb.length cap, .int .u64 eg] 38)).past' hg (fun e => HO.out b e rfl)
    have b2 := B5.cell off (.slice av ps.length cv) (by rw [← hoff]; simp)
    have g2 := B5.frozen off
    clear B5 hrow hg hwh hoff
    generalize (ps ++ [((⟨ew, ei, ep, et, eu, en, eb, eg⟩ : Ent), (.slice a eb.length cap : Value))]).length = N5 at *
    refine ⟨rfl, ⟨⟨_, trivial⟩, rfl⟩, ?_⟩
    go_simp
    refine tree_still rfl rfl ?_
    go_big_quiet_step (fail)
    refine wpQuiet_nil ?_
    refine tree_one rfl rfl ?_
    go_simp
    refine ⟨⟨⟨_, trivial⟩, rfl⟩, ?_⟩
    refine tree_done ?_
    clear ne
    go_wp2
    obtain ⟨o5, h1, h2⟩ := HE'.out
    refine bodyPost_end (results_none rfl _ _ _) rfl ⟨rfl, o5, ⟨_, h1⟩, HMU.out _ _ h2⟩

/-- A row without its last one. -/
theorem row_less {w : World} {g cap n : Nat} {ps qs : List (Ent × Value)} (h : w.ownsRow 0 38 8 (.slice (some ⟨g, 0, none⟩) n cap) n (flatE (qs ++ ps))) (hn : n = (qs ++ ps).length) : w.ownsRow 0 38 8 (.slice (some ⟨g, 0, none⟩) qs.length cap) qs.length (flatE qs) := by
  obtain ⟨h1, h2⟩ := h
  refine ⟨flatE_length qs, .inr ?_⟩
  rcases h2 with ⟨e, _⟩ | ⟨g', cap', cur, e, h3, h4, h5, h6, h7, h8⟩
  · cases e
  · cases e
    rw [List.length_append] at hn
    refine ⟨g, cap, cur, rfl, h3, h4, by omega, h6, h7, ?_⟩
    have e2 : cur.toList.take (qs.length * 8) = (cur.toList.take (n * 8)).take (qs.length * 8) := by
      rw [List.take_take, Nat.min_eq_left (by omega)]
    rw [e2, h8, flatE_take, List.take_left]

theorem pop_end {w w1 w2 : World} {o : Nat → Nat} {j b g n cap : Nat} {T : TypeId} {pre : List Value} {qs : List (Ent × Value)} {q : Ent × Value} (h : QAt w o j b T pre (.slice (some ⟨g, 0, none⟩) n cap) (qs ++ [q])) (hj0 : j ≠ 0)
    (hb : Below w.heap.size w w1) (hw2 : w2 = put8 w1 g (qs.length * 8) zeroE (.slice none 0 0)) :
    ∃ o', QIs (w2.setCell ⟨b, pre.length, none⟩ (.slice (some ⟨g, 0, none⟩) qs.length cap)) o' j b T pre qs ∧ Mv [j] w o (w2.setCell ⟨b, pre.length, none⟩ (.slice (some ⟨g, 0, none⟩) qs.length cap)) o' := by
  have hn : n = (qs ++ [q]).length := h.rowE.cap.1
  have M1 := Mv.of_below (I := [j]) (o := o) 0 hb
  have h1 := h.mv (Mv.of_below (I := []) (o := o) 0 hb) (by simp) (by simp)
  have hr1 := h1.row
  rw [← hn] at hr1
  have R2 := row_put8 (i := qs.length) hr1 hn (by simp) zeroE (.slice none 0 0)
  rw [← hw2] at R2
  have G := R2.2
  have G2 := grown_setCell w2 b pre.length (.slice (some ⟨g, 0, none⟩) qs.length cap)
  have hgb := h1.own g rfl
  have M2 : Mv [j] w1 (newTo o w 0) w2 (newTo (newTo o w 0) w1 0) := Mv.of_grown G (fun k hk _ => by cases hk; rw [hgb.1]; simp)
  have hbl1 := h1.blk.lt
  have M3 : Mv [j] w2 (newTo (newTo o w 0) w1 0) (w2.setCell ⟨b, pre.length, none⟩ (.slice (some ⟨g, 0, none⟩) qs.length cap)) (newTo (newTo (newTo o w 0) w1 0) w2 0) := Mv.of_grown G2 (fun k hk _ => by cases hk; rw [newTo_old hbl1, h1.ob]; simp)
  have M := (M1.trans M2).trans M3
  have hglt : g < w.heap.size := (h.row.lt g rfl).2
  have hblt := h.blk.lt
  refine ⟨_, ⟨.slice (some ⟨g, 0, none⟩) qs.length cap, ⟨?_, ?_, ?_, fun k hk => ?_, ?_⟩⟩, M⟩
  · have B := (h1.blk.past' G (fun e => hgb.2 (Option.some.inj e))).set pre.length (.slice (some ⟨g, 0, none⟩) qs.length cap)
    rw [set_last] at B
    exact B
  · have hs : (qs ++ [q]).set qs.length (zeroE, (.slice none 0 0 : Value)) = qs ++ [(zeroE, (.slice none 0 0 : Value))] := by
      rw [List.set_append_right _ _ (Nat.le_refl _)]
      simp
    have hr2 := R2.1
    rw [hs] at hr2
    refine ownsRow_block (row_less hr2 (by rw [hn]; simp)) (fun k hk => ?_)
    cases hk
    exact G2.block g (hr2.lt g rfl).2 (fun e => hgb.2 (Option.some.inj e))
  · rw [M.ext b hblt]; exact h.ob
  · cases hk
    rw [M.ext g hglt]
    exact ⟨(h.own g rfl).1, (h.own g rfl).2⟩
  · exact fun q' hq' => h.ents.mv M (by simp; omega) q' (List.mem_append_left _ hq')

theorem pop_any {w : World} {o : Nat → Nat} {j b : Nat} {T : TypeId} {pre : List Value} {v : Value} {qs : List (Ent × Value)} {q : Ent × Value} (h : QAt w o j b T pre v (qs ++ [q])) (hj0 : j ≠ 0) :
    Calls Try.prog 77 #[.pointer (some ⟨b, pre.length, none⟩)] w fun r w' => r = .returned (.iface 38 (ev q.1 q.2)) ∧ ∃ o', QIs w' o' j b T pre qs ∧ Mv [j] w o w' o' := by
  have HQ := h
  obtain ⟨g, cap, hvv, hcm⟩ : ∃ g cap, v = .slice (some ⟨g, 0, none⟩) (qs.length + 1) cap ∧ cap ≤ 9223372036854775807 ∧ qs.length + 1 ≤ cap := by
    rcases h.row.2 with ⟨rfl, h0⟩ | ⟨g, cap, cur, rfl, h3, h4, h5, h6, _⟩
    · simp at h0
    · simp only [List.length_append, List.length_singleton] at h5 ⊢
      exact ⟨g, cap, rfl, h6, h5⟩
  subst hvv
  have hat : (qs ++ [q])[qs.length]? = some q := by simp
  have PE := fun (w1 w2 : World) hb hw => pop_end (w1 := w1) (w2 := w2) HQ hj0 hb hw
  have HX := HQ.ents q (by simp)
  obtain ⟨ax, cx, hxx⟩ := HX.2.1.len
  obtain ⟨e, x⟩ := q
  dsimp only at *
  subst hxx
  have hrow : w.ownsRow 0 38 8 (.slice (some ⟨g, 0, none⟩) (qs.length + 1) cap) (qs.length + 1) (flatE (qs ++ [(e, (.slice ax e.b.length cx : Value))])) := by have := HQ.row; simpa using this
  have HC : ∀ k u, (ec e (.slice ax e.b.length cx))[k]? = some u → w.cell? ⟨g, qs.length * 8 + k, none⟩ = some u := fun k u hu => row_cell hrow hat (by simp) k u hu
  have c0 : w.cell? ⟨b, pre.length, none⟩ = some (.slice (some ⟨g, 0, none⟩) (qs.length + 1) cap) := HQ.cell
  obtain ⟨w1, hw1⟩ : ∃ w1, w1 = w.alloc (.cells #[.int .i64 e.w, .int .i64 e.i, .int .u64 e.p, .int .i64 e.t, .int .i64 e.u, .int .i64 e.n, .slice ax e.b.length cx, .int .u64 e.g] 38) := ⟨_, rfl⟩
  have hb1 : Below w.heap.size w w1 := by rw [hw1]; exact balloc (Below.refl _ _) _
  have X1 : Blk w1 w.heap.size 38 [.int .i64 e.w, .int .i64 e.i, .int .u64 e.p, .int .i64 e.t, .int .i64 e.u, .int .i64 e.n, .slice ax e.b.length cx, .int .u64 e.g] := by rw [hw1]; exact blk_new w _ 38
  have Q1 := HQ.below hb1
  have hrow1 : w1.ownsRow 0 38 8 (.slice (some ⟨g, 0, none⟩) (qs.length + 1) cap) (qs.length + 1) (flatE (qs ++ [(e, (.slice ax e.b.length cx : Value))])) := by have := Q1.row; simpa using this
  have HC1 : ∀ k u, (ec e (.slice ax e.b.length cx))[k]? = some u → w1.cell? ⟨g, qs.length * 8 + k, none⟩ = some u := fun k u hu => row_cell hrow1 hat (by simp) k u hu
  obtain ⟨w2, hw2⟩ : ∃ w2, w2 = put8 w1 g (qs.length * 8) zeroE (.slice none 0 0) := ⟨_, rfl⟩
  have R2 := row_put8 (i := qs.length) hrow1 (by simp) (by simp) zeroE (.slice none 0 0)
  rw [← hw2] at R2
  have hgs : g ≠ w.heap.size := fun e => by have := (HQ.row.lt g rfl).2; omega
  have X2 : Blk w2 w.heap.size 38 _ := X1.past' R2.2 (fun e => hgs (Option.some.inj e))
  have B2 : Blk w2 b T _ := Q1.blk.past' R2.2 (fun e => (Q1.own g rfl).2 (Option.some.inj e))
  have PE2 := PE w1 w2 hb1 hw2
  have hbs : b ≠ w.heap.size := fun e => by have := HQ.blk.lt; omega
  have X3 : Blk (w2.setCell ⟨b, pre.length, none⟩ (.slice (some ⟨g, 0, none⟩) qs.length cap)) w.heap.size 38 _ := X2.past (grown_setCell w2 b pre.length _) (fun e => hbs e.symm)
  have b1 : w1.cell? ⟨b, pre.length, none⟩ = some (.slice (some ⟨g, 0, none⟩) (qs.length + 1) cap) := Q1.cell
  have b2 : w2.cell? ⟨b, pre.length, none⟩ = some (.slice (some ⟨g, 0, none⟩) (qs.length + 1) cap) := B2.cell _ _ (by simp)
  have k2 : w2.frozen? ⟨b, pre.length, none⟩ = false := B2.frozen _
  have HPE : Hid (_) := PE2
  have HW1 : Hid (_ = _) := hw1
  unfold put8 zeroE at hw2
  obtain ⟨ew, ei, ep, et, eu, en, eb, eg⟩ := e
  unfold ec at HC HC1
  unfold ev
  dsimp only at *
  have p0 := HC 0 _ rfl
  have p1 := HC 1 _ rfl
  have p2 := HC 2 _ rfl
  have p3 := HC 3 _ rfl
  have p4 := HC 4 _ rfl
  have p5 := HC 5 _ rfl
  have p6 := HC 6 _ rfl
  have p7 := HC 7 _ rfl
  have d0 := HC1 0 _ rfl
  have d1 := HC1 1 _ rfl
  have d2 := HC1 2 _ rfl
  have d3 := HC1 3 _ rfl
  have d4 := HC1 4 _ rfl
  have d5 := HC1 5 _ rfl
  have d6 := HC1 6 _ rfl
  have d7 := HC1 7 _ rfl
  simp only [Nat.add_zero] at p0 d0
  have f0 := hrow1.frozenAt (qs.length * 8)
  have f1 := hrow1.frozenAt (qs.length * 8 + 1)
  have f2 := hrow1.frozenAt (qs.length * 8 + 2)
  have f3 := hrow1.frozenAt (qs.length * 8 + 3)
  have f4 := hrow1.frozenAt (qs.length * 8 + 4)
  have f5 := hrow1.frozenAt (qs.length * 8 + 5)
  have f6 := hrow1.frozenAt (qs.length * 8 + 6)
  have f7 := hrow1.frozenAt (qs.length * 8 + 7)
  have y0 := X3.cell 0 _ rfl
  have y1 := X3.cell 1 _ rfl
  have y2 := X3.cell 2 _ rfl
  have y3 := X3.cell 3 _ rfl
  have y4 := X3.cell 4 _ rfl
  have y5 := X3.cell 5 _ rfl
  have y6 := X3.cell 6 _ rfl
  have y7 := X3.cell 7 _ rfl
  have HW2 : Hid (_ = _) := hw2
  clear h HQ PE HX HC HC1 hb1 X1 Q1 hrow hrow1 hw1 hw2 R2 X2 B2 PE2 X3 hat
  generalize pre.length = off at *
  go_enter Try.func77, Try.ntmps77
  go_upto_region 3 with fail
  rw [← HW1.out]
  clear HW1 p0 p1 p2 p3 p4 p5 p6 p7
  generalize w.heap.size = sz at *
  go_upto_region 4 with fail
  rw [← HW2.out]
  clear HW2 d0 d1 d2 d3 d4 d5 d6 d7 f0 f1 f2 f3 f4 f5 f6 f7
  go_wp2
  go_ret
  exact ⟨rfl, HPE.out⟩
end Go.Proofs.Ytigfklcclfpcjaa
