/-
  Steps undone from a place on, the steps changed, and those done again that are from there on then.
-/
import Derived.Test.YthnjbjlhfohpfaaGreatUdB
namespace Go.Proofs.YthnjbjlhfohpfaaGreat
set_option linter.unusedVariables false
set_option linter.unusedSimpArgs false
set_option synthInstance.maxSize 20000
set_option maxHeartbeats 2000000
set_option maxRecDepth 20000
open Go.RowKit Go.Maps

open Go.Shelf
/-- What a step must be to be done. -/
structure OpOk (w : World) (q : OpT) : Prop where
  right : rightO q = true
  rq : Rd w q.v q.b
  lq : q.b.length ≤ 1000
theorem StOk.op {w : World} {s : ST} (h : StOk w s) : OpOk w s.q := ⟨h.right, h.rq, h.lq⟩
theorem dn_node : ∀ {S : List ST} {M : List IM}, Dn M S → ∀ s ∈ S, s.x.m.n = s.q.n
  | [], _, _, s, hs => by cases hs
  | t :: r, M, h, s, hs => by
    rcases List.mem_cons.1 hs with rfl | hs
    · rw [h.1.x]
    · exact dn_node h.2 s hs
theorem setM_len (L : List IM) (x : IM) (b : Bool) : (setM L x b).length ≤ L.length + 1 := by
  unfold setM
  split
  · exact putM_len L x
  · unfold delM
    have := List.length_filter_le (other x.n) L
    omega
theorem doM_ne (L : List IM) (q : OpT) (h : L ≠ []) : doM L q ≠ [] := by
  unfold doM stepM
  split
  · split
    · exact h
    · unfold putM; simp
  · exact h
theorem build_ne : ∀ (l : List OpT) {L : List IM}, L ≠ [] → buildM L l ≠ []
  | [], _, h => h
  | q :: l, L, h => build_ne l (doM_ne L q h)
theorem dn_none : ∀ {S : List ST} {M : List IM}, Dn M S → buildM M (opsS S) = [] → ∀ s ∈ S, s.b = false
  | [], _, _, _, s, hs => by cases hs
  | t :: r, M, h, hb, s, hs => by
    have hM : M = [] := by
      apply Classical.byContradiction
      intro hne
      exact build_ne (opsS (t :: r)) hne hb
    rcases List.mem_cons.1 hs with rfl | hs
    · rw [h.1.b, hM]; rfl
    · exact dn_none h.2 hb s hs
/-- Where the steps from a place on end, undone from behind. -/
theorem dn_undo {S : List ST} (h : Dn [] S) (hr : ∀ s ∈ S, rightO s.q = true) (hf : S.length ≤ 60) {k : Nat} (hk : k < S.length) : setM (buildM [] (opsS (S.take (k + 1)))) (S[k]).x.m (S[k]).b = buildM [] (opsS (S.take k)) := by
  have e : S.take (k + 1) = S.take k ++ [S[k]] := List.take_succ_eq_append_getElem hk
  have hd : Dn [] (S.take k ++ [S[k]]) := by
    have : Dn [] (S.take (k + 1) ++ S.drop (k + 1)) := by rw [List.take_append_drop]; exact h
    rw [← e]
    exact ((dn_append _ _ _).1 this).1
  have h2 := ((dn_append _ _ _).1 hd).2.1
  rw [e, opsS_append, build_append]
  exact h2.back (Gd.build gd_nil (by simp [opsS]; omega)) (hr _ (List.getElem_mem hk))
/-! ### Undoing from behind -/
theorem blk_row {W W' : World} {b : Nat} {e : TypeId} {vs : List Value} {row : Option Nat} (h : Blk W b e vs) (hg : W.grownBy W' row) (hr : ∀ r, row = some r → ∃ o : Obj, W.heap[r]? = some o ∧ o.isCells = false) : Blk W' b e vs :=
  h.past' hg fun e' => by
    obtain ⟨o, ho, hc⟩ := hr b e'
    have hb : W.heap[b]? = some (.cells _ _ (0, 0)) := h
    rw [hb] at ho; cases ho; cases hc
theorem srow_row {W W' : World} {v : Value} {S : List ST} {row : Option Nat} (h : SRow W v S) (hg : W.grownBy W' row) (hr : ∀ r, row = some r → ∃ o : Obj, W.heap[r]? = some o ∧ o.isCells = false) : SRow W' v S :=
  h.block fun k hk => by
    obtain ⟨vs, hb, _⟩ := h.cells hk
    exact (blk_row hb hg hr).trans (Eq.symm hb)
theorem rd_row' {W W' : World} {v : Value} {l : List Int} {row : Option Nat} (h : Rd W v l) (hg : W.grownBy W' row) (hr : ∀ r, row = some r → ∃ o : Obj, W.heap[r]? = some o ∧ o.isCells = false) : Rd W' v l := by
  have hr0 := h
  refine h.blocks fun hl k hk hlt => hg.block k hlt fun e' => ?_
  obtain ⟨_, a, cap, rfl, h1, h2, h3, h4⟩ := hr0
  have hp : 0 < l.length := by cases l with
    | nil => exact absurd rfl hl
    | cons x l => simp
  obtain ⟨b', off, rfl, hc⟩ := h4 hp
  have e1 : b' = k := by simpa [Value.ownBlock] using hk
  have c0 := hc 0 hp
  rw [e1] at c0
  obtain ⟨o, ho, hcs⟩ := hr k e'.symm
  cases o <;> first | (cases hcs; done) | (simp [World.cell?, ho] at c0)
theorem ptr_row {W W' : World} {tb : Nat} {mo : Option Nat} {L : List IT} {row : Option Nat} (h : PTr W tb mo L) (hg : W.grownBy W' row) (hr : ∀ r, row = some r → mo ≠ some r ∧ ∃ o : Obj, W.heap[r]? = some o ∧ o.isCells = false) : PTr W' tb mo L :=
  ⟨blk_row h.blk hg fun r e => (hr r e).2, h.mp.imp id (fun ⟨mb, e, hm⟩ => ⟨mb, e, hm.block (hg.block mb hm.lt (fun e2 => (hr mb e2.symm).1 e))⟩), h.ok, fun z hz => rd_row' (h.rd z hz) hg fun r e => (hr r e).2, h.srt, h.few⟩
/-- Between two rounds of the undoing, k of the steps from place m on undone; pr: they were the last ones. -/
structure UnI (w3 : World) (Bt lb tb m : Nat) (v : Value) (mo : Option Nat) (S : List ST) (N k : Nat) (pr : Prop) (W : World) : Prop where
  bt : Blk W Bt 50 [ptr tb]
  lg : Blk W lb 66 [v, ptr tb]
  row : SRow W v S
  tr : ∃ L', PTr W tb mo L' ∧ L'.length ≤ 60 + k ∧ (pr → L'.map IT.m = buildM [] (opsS (S.take (m + (N - k)))))
  tw : Tw tb mo w3 W mo
theorem UnI.own {w3 : World} {Bt lb tb m : Nat} {v : Value} {mo : Option Nat} {S : List ST} {N : Nat} {α : Type} {kf : α → Nat} {pf : α → Prop} (hmb : ∀ mb, mo = some mb → mb < w3.heap.size) : OwnFrom w3.heap.size (fun (s : α) W => UnI w3 Bt lb tb m v mo S N (kf s) (pf s) W) := fun s W W' row hs hg hr => by
  have hr2 : ∀ r, row = some r → ∃ o : Obj, W.heap[r]? = some o ∧ o.isCells = false := fun r e => (hr r e).2
  obtain ⟨L', h1, h2, h3⟩ := hs.tr
  refine ⟨blk_row hs.bt hg hr2, blk_row hs.lg hg hr2, srow_row hs.row hg hr2, ⟨L', ptr_row h1 hg fun r e => ⟨fun e2 => by have := hmb r e2; have := (hr r e).1; omega, hr2 r e⟩, h2, h3⟩, ?_⟩
  exact ⟨hg.os.trans hs.tw.os, hg.tape.trans hs.tw.tape, hg.output.trans hs.tw.output, Nat.le_trans hs.tw.size hg.size, fun k hk n1 n2 => (hg.block k (Nat.lt_of_lt_of_le hk hs.tw.size) (fun e => by have := (hr k e.symm).1; omega)).trans (hs.tw.block k hk n1 n2), .inl rfl, fun _ e => e⟩
theorem UnI.below {w3 W W' : World} {Bt lb tb m : Nat} {v : Value} {mo : Option Nat} {S : List ST} {N k : Nat} {pr : Prop} (h : UnI w3 Bt lb tb m v mo S N k pr W) (hb : Below W.heap.size W W') : UnI w3 Bt lb tb m v mo S N k pr W' := by
  obtain ⟨L', h1, h2, h3⟩ := h.tr
  exact ⟨h.bt.below hb, h.lg.below hb, h.row.below hb, ⟨L', h1.below hb, h2, h3⟩, h.tw.trans (Tw.of_below hb)⟩
/-- One more step undone. -/
theorem UnI.step {w w3 W W' : World} {Bt lb tb m : Nat} {v : Value} {mo : Option Nat} {S : List ST} {L0 L' L : List IT} {R : List ST} {pre : List (Fin R.length)} {x : Fin R.length} (h : UnI w3 Bt lb tb m v mo S R.length pre.length (pre = downF R.length pre.length) W) (hL : LogAt w lb v tb mo L S) (hm : m + R.length = S.length) (hR : ∀ j (hj : j < R.length), S[m + j]? = some R[j]) (hlt : pre.length < R.length)
    (hP0 : PTr W tb mo L0) (h0 : L0.length ≤ 60 + pre.length) (he0 : pre = downF R.length pre.length → L0.map IT.m = buildM [] (opsS (S.take (m + (R.length - pre.length)))))
    (hP : PTr W' tb mo L') (hs : L'.map IT.m = setM (L0.map IT.m) (R[x.1]).x.m (R[x.1]).b) (ht : Tw tb mo W W' mo) : UnI w3 Bt lb tb m v mo S R.length (pre ++ [x]).length (pre ++ [x] = downF R.length (pre ++ [x]).length) W' := by
  have hbt : Blk W' Bt 50 [ptr tb] := ht.blk hP0 (v := ptr tb) h.bt (fun m => by simp)
  have hlg : Blk W' lb 66 [v, ptr tb] := by
    obtain ⟨a, c, hv⟩ := hL.row.len
    rw [hv]
    exact ht.blk hP0 (v := .slice a S.length c) (by rw [← hv]; exact h.lg) (fun m => by simp)
  refine ⟨hbt, hlg, h.row.tw ht hP0, ⟨L', hP, ?_, fun e => ?_⟩, h.tw.trans ht⟩
  · have := setM_len (L0.map IT.m) (R[x.1]).x.m (R[x.1]).b
    rw [← hs, List.length_map, List.length_map] at this
    simp
    omega
  · rw [List.length_append, List.length_singleton, downF_succ hlt] at e
    have e1 := List.append_inj_left' e rfl
    have e2 := List.append_inj_right' e rfl
    have hx : x.1 = R.length - 1 - pre.length := by
      simp at e2
      rw [e2]
    have hk : m + x.1 < S.length := by have := x.2; omega
    have hget : S[m + x.1] = R[x.1] := by
      have := hR x.1 x.2
      rw [List.getElem?_eq_getElem hk] at this
      exact Option.some.inj this
    have hu := dn_undo hL.dn (fun s hs => (hL.ok s hs).right) hL.few hk
    rw [hget] at hu
    rw [hs, he0 e1, show m + (R.length - pre.length) = m + x.1 + 1 by omega, hu]
    congr 3
    simp
    omega
theorem wpListIn_skipT {F : Fence} {n : Nat} {P : Program} {w w' : World} {ops : Array Oper} {rest : List Oper} {o : Oper} {a : Act} {Q : Exit → Act → World → Prop} (hgd : o.guard = none) (hab : o.about P w a.eval = none) (hd : ∀ c, o.op ≠ .defer c) (hr : (execOp a.eval o).run P w = .ok .skip w') (h : wpListIn F n P ops Q rest (a.put o.dst undef) w') : wpListIn F n P ops Q (o :: rest) a w := by
  refine wpListIn_plain hgd fun K hK => ?_
  unfold Oper.wpIn
  refine ⟨fun f hf => (by rw [hab] at hf; cases hf), ?_⟩
  rw [Oper.semAt_plain F _ _ (fun c hc => hd c hc), hr]
  exact hK _ _ h
/-! ### Done again -/
theorem map_obj {w : World} {b : Nat} {L : List IT} (h : MapT w b L) : ∃ es c, w.heap[b]? = some (.map es c) := by
  obtain ⟨m, D, ⟨es, clock, he, r⟩, hr⟩ := h
  exact ⟨es, clock, he⟩
/-- What stands when the steps up to place j are done again. -/
structure DoI (w : World) (lb : Nat) (v : Value) (tb : Nat) (mo : Option Nat) (v' : Value) (Bt D : Nat) (S2 : List ST) (j : Nat) (T : List ST) (mo' : Option Nat) (L' : List IT) (wr : World) : Prop where
  lg : Blk wr lb 66 [v', ptr tb]
  bt : Blk wr Bt 50 [ptr tb]
  row : SRow wr v' T
  tree : PTr wr tb mo' L'
  lst : L'.map IT.m = buildM [] (opsS (T.take j))
  ops : opsS T = opsS S2
  dn : Dn [] (T.take j)
  ok : ∀ s ∈ T.take j, StOk wr s
  rest : ∀ s ∈ T.drop j, OpOk wr s.q
  df : wr.heap[D]? = some (.deferred (some []))
  fr : Lw lb tb mo v w wr mo' v'
section
variable {w wr wr' : World} {lb tb Bt D j g cap : Nat} {v v' : Value} {mo mo' mo2 : Option Nat} {S2 T : List ST} {L' L2 : List IT} {s : ST} {x : IT} {b : Bool}
theorem ops_set {T : List ST} {j : Nat} {s t : ST} (h : T[j]? = some s) (e : t.q = s.q) : opsS (T.set j t) = opsS T := by
  unfold opsS
  rw [List.map_set, e]
  refine List.ext_getElem? fun i => ?_
  rw [List.getElem?_set]
  split
  · rename_i e1
    subst e1
    split
    · rw [List.getElem?_map, h]; rfl
    · rename_i hl
      rw [List.getElem?_eq_none (by simpa using hl)]
  · rfl
theorem ops_len {T S2 : List ST} (h : opsS T = opsS S2) : T.length = S2.length := by
  have := congrArg List.length h
  simpa [opsS] using this
theorem DoI.few (h : DoI w lb v tb mo v' Bt D S2 j T mo' L' wr) (hf : S2.length ≤ 60) : L'.length ≤ 60 := by
  have h1 := buildM_len (opsS (T.take j)) []
  rw [← h.lst, List.length_map] at h1
  have := ops_len h.ops
  simp [opsS] at h1
  omega
theorem DoI.gd (h : DoI w lb v tb mo v' Bt D S2 j T mo' L' wr) (hf : S2.length ≤ 60) : Gd (L'.map IT.m) := by
  rw [h.lst]
  have := ops_len h.ops
  exact Gd.build gd_nil (by simp [opsS]; omega)
theorem DoI.below (h : DoI w lb v tb mo v' Bt D S2 j T mo' L' wr) (hb : Below wr.heap.size wr wr') : DoI w lb v tb mo v' Bt D S2 j T mo' L' wr' :=
  ⟨h.lg.below hb, h.bt.below hb, h.row.below hb, h.tree.below hb, h.lst, h.ops, h.dn, fun s hs => (h.ok s hs).below hb, fun s hs => ⟨(h.rest s hs).right, (h.rest s hs).rq.below hb, (h.rest s hs).lq⟩, (hb.block D (Array.getElem?_eq_some_iff.1 h.df).1).trans h.df, h.fr.trans (Lw.of_below hb)⟩
/-- One more step done again. -/
theorem DoI.step (h : DoI w lb v tb mo (.slice (some ⟨g, 0, none⟩) T.length cap) Bt D S2 j T mo' L' wr) (hj : T[j]? = some s) (hd : DidAns wr g cap j tb mo' L' T s x b mo2 L2 wr') :
    DoI w lb v tb mo (.slice (some ⟨g, 0, none⟩) T.length cap) Bt D S2 (j + 1) (T.set j ⟨s.q, x, b⟩) mo2 L2 wr' ∧ wr'.heap[lb]? = wr.heap[lb]? ∧ wr'.heap[Bt]? = wr.heap[Bt]? := by
  obtain ⟨hjl, hje⟩ := List.getElem?_eq_some_iff.1 hj
  have hG3 : Lg3 wr lb (.slice (some ⟨g, 0, none⟩) T.length cap) tb mo' L' T := ⟨h.lg, h.row, h.tree⟩
  have hF := hd.fr lb
  have hF1 := hd.fr (lb + 1)
  have htk : (T.set j ⟨s.q, x, b⟩).take (j + 1) = T.take j ++ [⟨s.q, x, b⟩] := by
    rw [List.take_succ_eq_append_getElem (by simpa using hjl), List.getElem_set_self, List.take_set_of_le (Nat.le_refl _)]
  have hdr : (T.set j ⟨s.q, x, b⟩).drop (j + 1) = T.drop (j + 1) := by rw [List.drop_set, if_pos (by omega)]
  have hsr : s ∈ T.drop j := by rw [← hje, List.drop_eq_getElem_cons hjl]; exact List.mem_cons_self
  have hop := h.rest s hsr
  have hlb : wr'.heap[lb]? = wr.heap[lb]? := by
    have hc := h.tree.apart (h.lg.cell 1 _ rfl) (fun m => by simp)
    refine hF1.block lb h.lg.lt (by omega) hc.1 hc.2 fun e => ?_
    obtain ⟨vs, hb, _⟩ := h.row.cells (k := lb) e
    have h1 : wr.heap[lb]? = some (.cells _ 66 (0, 0)) := h.lg
    have h2 : wr.heap[lb]? = some (.cells _ 73 (0, 0)) := hb
    rw [h1] at h2
    injection h2 with h2
    injection h2 with _ h4
    simp at h4
  have hBt : wr'.heap[Bt]? = wr.heap[Bt]? := by
    obtain ⟨n1, n2, n3, n4⟩ := hG3.other h.bt (by decide) (by decide) (by decide)
    exact hF.block Bt h.bt.lt n1 n2 n3 n4
  have hDD : wr'.heap[D]? = wr.heap[D]? := by
    have hlt := (Array.getElem?_eq_some_iff.1 h.df).1
    refine hF.block D hlt (fun e => ?_) (fun e => ?_) (fun e => ?_) (fun e => ?_)
    · have h1 : wr.heap[lb]? = some (.cells _ 66 (0, 0)) := h.lg
      rw [← e, h.df] at h1; cases h1
    · have h1 : wr.heap[tb]? = some (.cells _ 91 (0, 0)) := h.tree.blk
      rw [← e, h.df] at h1; cases h1
    · rcases h.tree.mp with ⟨e1, _⟩ | ⟨mb, e1, hm⟩
      · rw [e1] at e; cases e
      · rw [e1] at e; cases e
        obtain ⟨es, cl, h1⟩ := map_obj hm
        rw [h.df] at h1; cases h1
    · obtain ⟨vs, hb, _⟩ := h.row.cells (k := D) e
      have h2 : wr.heap[D]? = some (.cells _ 73 (0, 0)) := hb
      rw [h.df] at h2; cases h2
  have hrd : ∀ {u : Value} {l : List Int}, Rd wr u l → Rd wr' u l := fun hr => hF.rd3 hG3 hr
  refine ⟨⟨h.lg.block hlb, h.bt.block hBt, hd.row, hd.tree, ?_, ?_, ?_, ?_, ?_, hDD.trans h.df, h.fr.trans hF⟩, hlb, hBt⟩
  · rw [hd.lst, htk, opsS_append, build_append, ← h.lst]; rfl
  · rw [ops_set (t := ⟨s.q, x, b⟩) hj rfl]; exact h.ops
  · rw [htk, dn_append]
    refine ⟨h.dn, ?_, trivial⟩
    have := hd.was
    rwa [h.lst] at this
  · intro t ht
    rw [htk] at ht
    rcases List.mem_append.1 ht with ht | ht
    · have := h.ok t ht
      exact ⟨this.right, hrd this.rq, this.lq, hrd this.rx, this.lx, this.sp⟩
    · obtain rfl : t = ⟨s.q, x, b⟩ := by simpa using ht
      exact ⟨hop.right, hrd hop.rq, hop.lq, hd.rd, hd.len, hd.par⟩
  · intro t ht
    rw [hdr] at ht
    have : t ∈ T.drop j := by rw [List.drop_eq_getElem_cons hjl]; exact List.mem_cons_of_mem _ ht
    exact ⟨(h.rest t this).right, hrd (h.rest t this).rq, (h.rest t this).lq⟩
/-- When all is done, the loop's own block aside. -/
theorem DoI.fin (h : DoI w lb v tb mo v' Bt D S2 T.length T mo' L' wr) (hstr : StrS S2) (hf : S2.length ≤ 60) : LogAt (wr.putObj D (.deferred none)) lb v' tb mo' L' T ∧ (w.heap.size ≤ D → Lw lb tb mo v w (wr.putObj D (.deferred none)) mo' v') := by
  have hg : wr.grownBy (wr.putObj D (.deferred none)) (some D) := grownBy_putObj' wr D _
  have hr : ∀ r, some D = some r → ∃ o : Obj, wr.heap[r]? = some o ∧ o.isCells = false := fun r e => by cases e; exact ⟨_, h.df, rfl⟩
  have hmo : ∀ r, some D = some r → mo' ≠ some r := fun r e e' => by
    cases e
    rcases h.tree.mp with ⟨e1, _⟩ | ⟨mb, e1, hm⟩
    · rw [e1] at e'; cases e'
    · rw [e1] at e'; cases e'
      obtain ⟨es, cl, h1⟩ := map_obj hm
      rw [h.df] at h1; cases h1
  have hl := h.lst
  have hd := h.dn
  have ho := h.ok
  rw [List.take_length] at hl hd ho
  refine ⟨⟨blk_row h.lg hg hr, srow_row h.row hg hr, ptr_row h.tree hg fun r e => ⟨hmo r e, hr r e⟩, hl, hd, ?_, fun s hs => ?_, by rw [ops_len h.ops]; exact hf⟩, fun hD => ?_⟩
  · have e : T.map (fun s => s.q.a) = S2.map (fun s => s.q.a) := by
      have := congrArg (List.map fun q : OpT => q.a) h.ops
      simpa [opsS, Function.comp_def] using this
    have h1 : (S2.map fun s => s.q.a).Pairwise ltP := (List.pairwise_map (f := fun s : ST => s.q.a)).2 hstr
    rw [← e] at h1
    exact (List.pairwise_map (f := fun s : ST => s.q.a)).1 h1
  · have := ho s hs
    exact ⟨this.right, rd_row' this.rq hg hr, this.lq, rd_row' this.rx hg hr, this.lx, this.sp⟩
  · have hF := h.fr
    exact ⟨hF.os, hF.tape, hF.output, by have := hF.size; simpa using this, fun k hk n1 n2 n3 n4 => (hg.block k (Nat.lt_of_lt_of_le hk hF.size) (fun e => by cases e; omega)).trans (hF.block k hk n1 n2 n3 n4), hF.newm, hF.newv⟩
end
theorem log_pastRow {W W4 : World} {lb : Nat} {v : Value} {vs : List Value} {e : TypeId} {S : List ST} (h : Blk W lb e vs) (hr : SRow W v S) (hg : W.grownBy W4 v.ownBlock) (he : e ≠ 73 := by decide) : Blk W4 lb e vs :=
  h.past' hg fun e' => by
    obtain ⟨us, hb, _⟩ := hr.cells e'
    have h1 : W.heap[lb]? = some (.cells _ e (0, 0)) := h
    have h2 : W.heap[lb]? = some (.cells _ 73 (0, 0)) := hb
    rw [h1] at h2
    injection h2 with h2
    injection h2 with _ h4
    exact he (by simpa using h4)
theorem ptr_pastLog {w w' : World} {lb tb t2 : Nat} {mo : Option Nat} {L : List IT} {v : Value} {S : List ST} (h : PTr w tb mo L) (hb : Blk w lb 66 [v, ptr t2]) (hv : SRow w v S) (hg : w.grownBy w' (some lb)) : PTr w' tb mo L := by
  have ha := h.apart (hb.cell 1 _ rfl) (fun m => by simp)
  have hn : NoB [v, ptr t2] := fun u hu n e => by
    obtain ⟨a, c, hv⟩ := hv.len
    rw [hv] at hu
    simp at hu
    rcases hu with rfl | rfl <;> cases e
  exact ⟨h.blk.past hg (fun e => ha.1 e.symm), h.mp.imp id (fun ⟨mb, e, hm⟩ => ⟨mb, e, hm.block (hg.block mb hm.lt (fun e2 => ha.2 (by rw [e]; exact e2)))⟩), h.ok, fun z hz => rd_pastNoB (h.rd z hz) hb hn hg, h.srt, h.few⟩
theorem srow_pastLog {w w' : World} {lb t2 : Nat} {v u : Value} {S : List ST} (h : SRow w v S) (hb : Blk w lb 66 [u, ptr t2]) (hg : w.grownBy w' (some lb)) : SRow w' v S :=
  h.block fun k hk => hg.block k (h.lt hk) fun e => by
    cases e
    obtain ⟨us, hb2, _⟩ := h.cells hk
    have h1 : w.heap[lb]? = some (.cells _ 66 (0, 0)) := hb
    have h2 : w.heap[lb]? = some (.cells _ 73 (0, 0)) := hb2
    rw [h1] at h2
    injection h2 with h2
    injection h2 with _ h4
    simp at h4
theorem DoI.start {w W W4 : World} {lb tb Bt D m : Nat} {v v' : Value} {mo : Option Nat} {L L3 : List IT} {U R R2 : List ST} (hL : LogAt w lb v tb mo L (U ++ R)) (hTW : Tw tb mo w W mo) (hPT : PTr W tb mo L3) (hLS : L3.map IT.m = buildM [] (opsS U)) (hRW : SRow W v (U ++ R)) (hLW : Blk W lb 66 [v, ptr tb]) (hBW : Blk W Bt 50 [ptr tb]) (hDW : W.heap[D]? = some (.deferred (some []))) (hm : U.length = m) (hok : ∀ s ∈ R2, OpOk w s.q)
    (hR4 : SRow W4 v' (U ++ R2)) (hG4 : W.grownBy W4 v.ownBlock) (hn4 : ∀ k, v'.ownBlock = some k → v.ownBlock = some k ∨ W.heap.size ≤ k) : DoI w lb v tb mo v' Bt D (U ++ R2) m (U ++ R2) mo L3 (W4.setCell ⟨lb, 0, none⟩ v') := by
  have hL4 : Blk W4 lb 66 [v, ptr tb] := log_pastRow hLW hRW hG4
  have hB4 : Blk W4 Bt 50 [ptr tb] := log_pastRow hBW hRW hG4
  have hP4 : PTr W4 tb mo L3 := hPT.pastRow hRW hG4
  have hg : W4.grownBy (W4.setCell ⟨lb, 0, none⟩ v') (some lb) := grown_setCell _ _ _ _
  have hLw : Lw lb tb mo v w (W4.setCell ⟨lb, 0, none⟩ v') mo v' := ((Lw.of_tw hTW).trans (Lw.of_row hG4 hn4)).trans (Lw.of_log hg)
  have hne : Bt ≠ lb := fun e => by
    have h1 : W4.heap[lb]? = some (.cells _ 66 (0, 0)) := hL4
    have h2 : W4.heap[Bt]? = some (.cells _ 50 (0, 0)) := hB4
    rw [e, h1] at h2
    injection h2 with h2
    injection h2 with _ h4
    simp at h4
  have hv4 : SRow W4 v (U ++ R) ∨ True := .inr trivial
  have hnb : NoB [v, ptr tb] := fun u hu n e => by
    obtain ⟨a, c, hv⟩ := hRW.len
    rw [hv] at hu
    simp at hu
    rcases hu with rfl | rfl <;> cases e
  refine ⟨Blk.set hL4 0 v', hB4.past hg hne, srow_pastLog hR4 hL4 hg, ?_, ?_, rfl, ?_, fun s hs => ?_, fun s hs => ?_, ?_, hLw⟩
  · have ha := hP4.apart (hL4.cell 1 _ rfl) (fun m => by simp)
    exact ⟨hP4.blk.past hg (fun e => ha.1 e.symm), hP4.mp.imp id (fun ⟨mb, e, hm⟩ => ⟨mb, e, hm.block (hg.block mb hm.lt (fun e2 => ha.2 (by rw [e]; exact e2)))⟩), hP4.ok, fun z hz => rd_pastNoB (hP4.rd z hz) hL4 hnb hg, hP4.srt, hP4.few⟩
  · rw [← hm, List.take_left]; exact hLS
  · rw [← hm, List.take_left]; exact ((dn_append _ _ _).1 hL.dn).1
  · rw [← hm, List.take_left] at hs
    have := hL.ok s (List.mem_append_left _ hs)
    exact ⟨this.right, hLw.rd hL this.rq, this.lq, hLw.rd hL this.rx, this.lx, this.sp⟩
  · rw [← hm, List.drop_left] at hs
    have := hok s hs
    exact ⟨this.right, hLw.rd hL this.rq, this.lq⟩
  · have hlt := (Array.getElem?_eq_some_iff.1 hDW).1
    have h4 : W4.heap[D]? = W.heap[D]? := hG4.block D hlt fun e => by
      obtain ⟨us, hb2, _⟩ := hRW.cells e.symm
      have h2 : W.heap[D]? = some (.cells _ 73 (0, 0)) := hb2
      rw [hDW] at h2; cases h2
    refine (hg.block D (by have := hG4.size; omega) fun e => ?_).trans (h4.trans hDW)
    cases e
    have h1 : W4.heap[lb]? = some (.cells _ 66 (0, 0)) := hL4
    rw [h4, hDW] at h1; cases h1
/-- What change answers. -/
def ChAns (w : World) (lb : Nat) (v : Value) (tb : Nat) (mo : Option Nat) (S2 : List ST) (e : Ending) (w' : World) : Prop := e = .returned (.tuple #[]) ∧ ∃ v' mo' L' T, LogAt w' lb v' tb mo' L' T ∧ opsS T = opsS S2 ∧ Lw lb tb mo v w w' mo' v'
theorem slice_tail {w : World} {lb tb n m cap : Nat} {ad : Option Addr} {mo : Option Nat} {L : List IT} {U R : List ST} (h : LogAt w lb (.slice ad n cap) tb mo L (U ++ R)) (hn : (U ++ R).length = n) (hm : U.length = m) :
    ∃ ua un uc g, (∀ {o : Oper} {r : Operand → Value} {w' : World} (x y : Operand), o.op = .slice 64 x (some y) none none → r x = .slice ad n cap → r y = .int .i64 (m : Int) → (execOp r o).run Tryz.prog w' = .ok (.value (.slice ua un uc)) w') ∧ (∀ w', Below w.heap.size w w' → Tail w' g (.slice ua un uc) R) ∧ (g < w.heap.size ∧ g ≠ tb ∧ mo ≠ some g) := by
  have hRl : R.length = n - m := by rw [← hn, ← hm]; simp
  have hmn : m ≤ n := by rw [← hn, ← hm]; simp
  have hLB : lb < w.heap.size ∧ lb ≠ tb ∧ mo ≠ some lb := ⟨h.blk.lt, h.tree.apart (h.blk.cell 1 _ rfl) (fun m => by simp)⟩
  have hrow := h.row
  rcases h.row with ⟨hv, hnil⟩ | ⟨g, cap', t, hv, hY, h3, h2, h4⟩
  · cases hv
    obtain rfl : m = 0 := by omega
    refine ⟨none, 0, 0, lb, ?_, fun w' _ => .inl ⟨List.eq_nil_of_length_eq_zero (by omega), none, 0, rfl⟩, hLB⟩
    intro o r w' x y ho hx hy
    unfold execOp
    simp only [ho]
    go_simp
  · injection hv with e1 e2 e3
    subst e1
    subst e3
    clear e2
    have hlg : g < w.heap.size := hY.lt
    have hcl : (U ++ R).length * 21 + t.length = cap * 21 := by rw [← ftc_len, ← List.length_append]; exact h3
    rw [hn] at hcl
    have hncap : n ≤ cap := by omega
    have hcap2 : cap ≤ 9223372036854775807 := by unfold maxLen at h2; exact h2
    have hgk : g < w.heap.size ∧ g ≠ tb ∧ mo ≠ some g := ⟨hlg, (hrow.apart h.tree rfl).1, (hrow.apart h.tree rfl).2⟩
    by_cases hcm : cap = m
    · refine ⟨some ⟨g, 0, none⟩, 0, 0, g, ?_, fun w' _ => .inl ⟨List.eq_nil_of_length_eq_zero (by omega), some ⟨g, 0, none⟩, 0, rfl⟩, hgk⟩
      subst hcm
      obtain rfl : n = cap := by omega
      intro o r w' x y ho hx hy
      unfold execOp
      simp only [ho]
      go_simp
    · refine ⟨some ⟨g, m * 21, none⟩, n - m, cap - m, g, ?_, fun w' hb => ?_, hgk⟩
      · intro o r w' x y ho hx hy
        clear h hrow hY h3
        unfold execOp
        simp only [ho]
        go_simp
      · refine .inr ⟨m * 21, cap - m, by rw [hRl], by omega, by omega, Nat.lt_of_lt_of_le hlg hb.size, fun j hj => ?_⟩
        have hw : SRow w' (.slice (some ⟨g, 0, none⟩) (U ++ R).length cap) (U ++ R) := by rw [hn]; exact hrow.below hb
        have := hw.load (i := m + j) (s := R[j]) (by rw [List.getElem?_append_right (by omega), hm, show m + j - m = j by omega]; exact List.getElem?_eq_getElem hj)
        rwa [show (m + j) * 21 = m * 21 + j * 21 by omega] at this
set_option maxRecDepth 100000 in
theorem change32i {w : World} {lb tb n m cap : Nat} {ad : Option Addr} {mo : Option Nat} {L : List IT} {U R R2 : List ST} {bi bo : Nat} (hn : (U ++ R).length = n) (hm : U.length = m) (h : LogAt w lb (.slice ad n cap) tb mo L (U ++ R)) (hstr : StrS (U ++ R2)) (hfew : (U ++ R2).length ≤ 60) (hok : ∀ s ∈ R2, OpOk w s.q)
    (hhow : ∀ w' mo', Tw tb mo w w' mo' → Calls Tryz.prog 38 #[.slice ad n cap, ptr bi, ptr bo] w' fun e w'' => ∃ v', e = .returned v' ∧ SRow w'' v' (U ++ R2) ∧ w'.grownBy w'' (Value.slice ad n cap).ownBlock ∧ ∀ k, v'.ownBlock = some k → (Value.slice ad n cap).ownBlock = some k ∨ w'.heap.size ≤ k) :
    Calls Tryz.prog 37 #[ptr lb, .int .i64 (m : Int), .func (.func 38) #[] #[ptr bi, ptr bo]] w (ChAns w lb (.slice ad n cap) tb mo (U ++ R2)) := by
  have HL : Hid (LogAt w lb (.slice ad n cap) tb mo L (U ++ R)) := h
  have HS2 : Hid (StrS (U ++ R2) ∧ (U ++ R2).length ≤ 60 ∧ ∀ s ∈ R2, OpOk w s.q) := ⟨hstr, hfew, hok⟩
  have HHow : Hid (∀ w' mo', Tw tb mo w w' mo' → Calls Tryz.prog 38 #[.slice ad n cap, ptr bi, ptr bo] w' fun e w'' => ∃ v', e = .returned v' ∧ SRow w'' v' (U ++ R2) ∧ w'.grownBy w'' (Value.slice ad n cap).ownBlock ∧ ∀ k, v'.ownBlock = some k → (Value.slice ad n cap).ownBlock = some k ∨ w'.heap.size ≤ k) := hhow
  clear hhow hok hstr hfew
  have c0 := h.blk.cell 0 _ rfl
  have hT := tree16 h.blk
  have hRl : R.length = n - m := by rw [← hn, ← hm]; simp
  have hmn : m ≤ n := by rw [← hn, ← hm]; simp
  have hn60 : n ≤ 60 := by rw [← hn]; exact h.few
  have HRL : Hid (R.length = n - m ∧ U.length = m ∧ (U ++ R).length = n ∧ n ≤ 60) := ⟨hRl, hm, hn, hn60⟩
  obtain ⟨ua, un, uc, g, hsl, hTl, hGk⟩ := slice_tail h hn hm
  have HTl : Hid (∀ w', Below w.heap.size w w' → Tail w' g (.slice ua un uc) R) := hTl
  have HGk : Hid (g < w.heap.size ∧ g ≠ tb ∧ mo ≠ some g) := hGk
  clear h hTl hGk
  refine (callsIn_wide (n := 9)).1 ?_
  refine callsIn_of_wp_marks Tryz.func37 rfl trivial ?_ rfl
  simp only [Tryz.ntmps37, List.size_toArray, List.length_cons, List.length_nil, Nat.reduceAdd, Nat.reduceSub, Array.replicate_succ, Array.replicate_zero, List.push_toArray, List.append_toArray, List.nil_append, List.cons_append]
  refine wpIn_wide.2 ?_
  go_upto_region 1 with (go_at_call 15; go_must (refine hT.mono ?_; rintro e w1 ⟨rfl, hb1⟩; have HB1 : Hid (Below w.heap.size w w1) := hb1; clear hb1 hT))
  obtain ⟨w2, hw2⟩ : ∃ w2, w2 = w1.alloc (.cells #[ptr tb] 50) := ⟨_, rfl⟩
  obtain ⟨Bt, hBt⟩ : ∃ Bt, Bt = w1.heap.size := ⟨_, rfl⟩
  have HBt : Hid (Blk w2 Bt 50 [ptr tb]) := by show Blk _ _ _ _; rw [hw2, hBt]; exact blk_new w1 [ptr tb] 50
  have HB2 : Hid (Below w.heap.size w w2) := by show Below _ _ _; rw [hw2]; exact balloc HB1.out _
  have HBw : Hid (w.heap.size ≤ Bt) := by show _ ≤ _; rw [hBt]; exact HB1.out.size
  have c0' := (HL.out.blk.below HB2.out).cell 0 _ rfl
  have hw2' : w1.alloc (.cells #[.pointer (some ⟨tb, 0, none⟩)] 50) = w2 := hw2.symm
  have hBt' : (Value.pointer (some ⟨w1.heap.size, 0, none⟩)) = ptr Bt := by rw [hBt]
  rw [hw2', hBt']
  clear hw2 hw2' hBt' hBt c0
  go_wp2_with (first
    | (refine wpList_okw rfl (hsl (.tmp 15) (.tmp 16) rfl rfl rfl) ?_)
    | (go_at_call 61; go_must (refine (backward59 _ _ _ _).mono ?_; rintro e w3 ⟨rfl, hw3⟩; have HW3 : Hid (w3 = w2.alloc (.cells #[.slice ua un uc] 64)) := hw3; clear hw3)))
  clear hsl c0'
  obtain ⟨Bs, hBs⟩ : ∃ Bs, Bs = w2.heap.size := ⟨_, rfl⟩
  have HBs : Hid (Blk w3 Bs 64 [.slice ua un uc]) := by show Blk _ _ _ _; rw [HW3.out, hBs]; exact blk_new w2 _ _
  have HB23 : Hid (Below w2.heap.size w2 w3) := by show Below _ _ _; rw [HW3.out]; exact balloc (Below.refl _ _) _
  have HB3 : Hid (Below w.heap.size w w3) := bnext HB2.out HB23.out
  have HBsw : Hid (w.heap.size ≤ Bs) := by show _ ≤ _; rw [hBs]; exact HB2.out.size
  have HMB : Hid (∀ mb, mo = some mb → mb < w.heap.size) := fun mb e => by
    rcases HL.out.tree.mp with ⟨e1, _⟩ | ⟨mb', e1, hm⟩
    · rw [e1] at e; cases e
    · rw [e1] at e; cases e; exact hm.lt
  have HMN : Hid (∀ s ∈ U ++ R, mo = none → s.b = false) := fun s hs e => by
    have hL0 : L = [] := by
      rcases HL.out.tree.mp with ⟨_, e1⟩ | ⟨mb', e1, hm⟩
      · exact e1
      · rw [e1] at e; cases e
    refine dn_none HL.out.dn ?_ s hs
    rw [← HL.out.lst, hL0]
    rfl
  rw [← hBs]
  clear hBs HW3
  refine (wpIn_wide (n := 9)).1 ?_
  refine wpIn_rangeFunc_ownH (n := 9) rfl (by omega) (gf := 75) (lb := #[ptr Bs]) rfl trivial (enters_of Tryz.func75 (by kernel_rfl) rfl)
    (back_stops 8 (by omega) Bs g (.slice ua un uc) R w3 (by omega) (HTl.out _ HB3.out) HBs.out.lt (HBs.out.cell 0 _ rfl)) kpB_t (kpB_b HBs.out.lt (Nat.lt_of_lt_of_le HGk.out.1 HB3.out.size)) (Below.refl _ _) (fun _ => rfl)
    (fun pre W => UnI w3 Bt lb tb m (.slice ad n cap) mo (U ++ R) R.length pre.length (pre = downF R.length pre.length) W)
    (fun _ _ _ => False)
    (UnI.own fun mb e => Nat.lt_of_lt_of_le (HMB.out mb e) HB3.out.size)
    (fun _ _ _ _ _ hs _ _ => hs)
    ⟨HBt.out.below HB23.out, HL.out.blk.below HB3.out, HL.out.row.below HB3.out, ⟨L, HL.out.tree.below HB3.out, by have := HL.out.fewL; simp; omega, fun _ => by rw [HL.out.lst, List.take_of_length_le (by have := HRL.out; simp at this ⊢; omega)]⟩, Tw.of_below (Below.refl _ _)⟩
    (fun x a' W => ∃ Bx, w3.heap.size ≤ Bx ∧ Stb W Bx R[x.1] ∧ a' = { tmps := #[ptr lb, .int .i64 (m : Int), .func (.func 38) #[] #[ptr bi, ptr bo], undef, undef, undef, ptr Bt, undef, ptr Bx, undef, ptr lb, ptr tb, ptr lb, .pointer (some ⟨lb, 0, none⟩), .pointer (some ⟨lb, 0, none⟩), .slice ad n cap, .int .i64 (m : Int), .slice ua un uc, .func (.func 75) #[] #[ptr Bs], .int .i64 (x.1 : Int), tv R[x.1], undef, undef, undef, undef, undef, undef, undef, undef, undef, undef, undef, undef, undef, undef, undef, undef, undef, undef, undef, undef, undef, undef, undef, undef, undef, undef, undef, undef, undef, undef], defers := [] })
    (fun x a' s X Y row hs hg hr => by obtain ⟨Bx, h1, h2, h3⟩ := hs; exact ⟨Bx, h1, blk_row h2 hg (fun r e => (hr r e).2), h3⟩)
    ?assign ?body ?done ?stop
  case assign =>
    rintro l pre x W K hi hK
    have hth := (stb_new W tz).there
    obtain ⟨s, hs⟩ : ∃ s, s = R[x.1] := ⟨_, rfl⟩
    obtain ⟨Wa, hWa⟩ : ∃ Wa, Wa = (W.alloc (.cells (tc tz).toArray 73)).setCells W.heap.size 0 (tc s) := ⟨_, rfl⟩
    have HA : Hid (Below W.heap.size W Wa ∧ Stb Wa W.heap.size s) := by
      refine ⟨?_, ?_⟩
      · rw [hWa]; exact below_put (balloc (Below.refl _ _) _) (Nat.le_refl _)
      · rw [hWa]; exact (stb_new W tz).put s
    have HK : Hid (∀ a', a' = ({ tmps := #[ptr lb, .int .i64 (m : Int), .func (.func 38) #[] #[ptr bi, ptr bo], undef, undef, undef, ptr Bt, undef, ptr W.heap.size, undef, ptr lb, ptr tb, ptr lb, .pointer (some ⟨lb, 0, none⟩), .pointer (some ⟨lb, 0, none⟩), .slice ad n cap, .int .i64 (m : Int), .slice ua un uc, .func (.func 75) #[] #[ptr Bs], .int .i64 (x.1 : Int), tv s, undef, undef, undef, undef, undef, undef, undef, undef, undef, undef, undef, undef, undef, undef, undef, undef, undef, undef, undef, undef, undef, undef, undef, undef, undef, undef, undef, undef, undef, undef], defers := [] } : Act) → K a' Wa) := fun a' ha => hK _ _ (KeepsFrom.of_grownBy (below_grown HA.out.1) (fun j e => by cases e)) ⟨HA.out.1.block _ (Nat.lt_of_lt_of_le HBs.out.lt hi.tw.size), HA.out.1.block _ (Nat.lt_of_lt_of_le (Nat.lt_of_lt_of_le HGk.out.1 HB3.out.size) hi.tw.size)⟩ (hi.below HA.out.1) ⟨W.heap.size, hi.tw.size, by rw [← hs]; exact HA.out.2, by rw [← hs]; exact ha⟩
    obtain ⟨xi, hxi⟩ : ∃ xi : Int, xi = (x.1 : Int) := ⟨_, rfl⟩
    dsimp only
    rw [← hs, ← hxi]
    rw [← hxi] at HK
    clear hs hK hi hxi
    refine wpIn_region_lit ?_
    go_simp
    refine wpListIn_okT rfl rfl (fun c h => by cases h) (exec_alloc76 rfl) ?_
    go_simp
    refine wpListIn_skipT rfl rfl (fun c h => by cases h) (exec_store76 (q := s) (.tmp 8) (.tmp 20) rfl rfl rfl hth) ?_
    refine wpListIn_nil ?_
    rw [← hWa]
    exact HK.out _ rfl
  case body =>
    rintro l pre x a' W hl ⟨r, hr⟩ hi ⟨Bx, hBx, hS, rfl⟩ hlt
    obtain ⟨L0, hP0, hl0, he0⟩ := hi.tr
    have h1' : 1 ≤ 9 - 1 - 1 := by omega
    have hmem : R[x.1] ∈ U ++ R := List.mem_append_right _ (List.getElem_mem x.2)
    have hso := HL.out.ok _ hmem
    have hno := dn_node HL.out.dn _ hmem
    have hrd : Rd W (R[x.1]).x.v (R[x.1]).x.m.b := hi.tw.rd (HL.out.tree.below HB3.out) (hso.rx.below HB3.out)
    have hu := undo60 hP0 R[x.1] hrd hso.lx (by rw [hno]; exact (rightO_n hso.right).1) hso.sp (by have := HRL.out; omega)
    have HU : Hid (Calls Tryz.prog 62 #[tv R[x.1], ptr tb] W fun e w' => e = .returned (.tuple #[]) ∧ ∃ mo' L', PTr w' tb mo' L' ∧ L'.map IT.m = setM (L0.map IT.m) (R[x.1]).x.m (R[x.1]).b ∧ Tw tb mo W w' mo' ∧ StaysM (R[x.1]).b mo mo') := hu
    have HI : Hid (UnI w3 Bt lb tb m (.slice ad n cap) mo (U ++ R) R.length pre.length (pre = downF R.length pre.length) W) := hi
    have H0 : Hid (PTr W tb mo L0 ∧ L0.length ≤ 60 + pre.length ∧ (pre = downF R.length pre.length → L0.map IT.m = buildM [] (opsS ((U ++ R).take (m + (R.length - pre.length)))))) := ⟨hP0, hl0, he0⟩
    have HLt : Hid (pre.length < R.length) := hlt
    have HSl : Hid (W.rangeAt Bx 0 (tc R[x.1])) := hS.load
    have cB := hi.bt.cell 0 _ rfl
    clear hu hi hP0 hl0 he0 hso hno hrd hlt hS
    obtain ⟨s, hs⟩ : ∃ s, s = R[x.1] := ⟨_, rfl⟩
    obtain ⟨xi, hxi⟩ : ∃ xi : Int, xi = (x.1 : Int) := ⟨_, rfl⟩
    rw [← hs, ← hxi]
    rw [← hs] at HU HSl hmem
    have HSx : Hid (s = R[x.1]) := hs
    clear hs hxi
    have SEM := @Oper.semAt_some
    gi_wp2_with (first
      | (refine wpListIn_okT rfl rfl (fun c h => by cases h) (exec_load76 (q := s) (.tmp 8) rfl rfl HSl.out) ?_)
      | (refine ⟨trivial, ?_⟩; gi_at_call 62; refine (CallsIn.inRound l (callsIn_wide.2 HU.out)).mono ?_; rintro e W2 ⟨rfl, mo', L', h1, h2, h3, h4⟩))
    rw [HSx.out] at h2
    have hmo : mo' = mo := by
      cases hm0 : mo with
      | none => rw [← hm0]; exact h4 (HMN.out _ hmem hm0)
      | some mb => exact h3.kept mb hm0
    subst hmo
    have hsz := HI.out.tw.size
    have hin : ∀ k, k < w3.heap.size → k ≠ tb → mo' ≠ some k → W2.heap[k]? = W.heap[k]? := fun k hk n1 n2 => h3.block k (Nat.lt_of_lt_of_le hk hsz) n1 n2
    have htb : tb < w.heap.size := HL.out.tree.blk.lt
    refine ⟨⟨h3.size, fun k o hB hk ho => (h3.block k (Array.getElem?_eq_some_iff.1 hk).1 (fun e => ?_) (fun e => ?_)).trans hk⟩, ⟨hin Bs HBs.out.lt (fun e => ?_) (fun e => ?_), hin g (Nat.lt_of_lt_of_le HGk.out.1 HB3.out.size) HGk.out.2.1 HGk.out.2.2⟩, HI.out.step HL.out (by have := HRL.out; simp; omega) (fun j hj => by
        have := HRL.out
        rw [List.getElem?_append_right (by omega), show m + j - U.length = j by omega]
        exact List.getElem?_eq_getElem hj) HLt.out H0.out.1 H0.out.2.1 H0.out.2.2 h1 h2 h3⟩
    · have := HB3.out.size; omega
    · have := HB3.out.size; have := HMB.out k e; omega
    · have := HBsw.out; omega
    · have := HBsw.out; have := HMB.out Bs e; omega
  case stop =>
    rintro D c pre W _ _ h _
    exact h.elim
  case done =>
    rintro D ys W hD rfl hi hK
    obtain ⟨L3, hP3, hl3, he3⟩ := hi.tr
    have hlR : (List.finRange R.length).reverse.length = R.length := by simp
    have HLS : Hid (L3.map IT.m = buildM [] (opsS U)) := by
      have := he3 (by rw [hlR, downF_all])
      rw [hlR, Nat.sub_self, Nat.add_zero, ← hm, List.take_left] at this
      exact this
    have HTW : Hid (Tw tb mo w W mo) := (Tw.of_below HB3.out).trans hi.tw
    have HPT : Hid (PTr W tb mo L3) := hP3
    have HRW : Hid (SRow W (.slice ad n cap) (U ++ R)) := hi.row
    have HLW : Hid (Blk W lb 66 [.slice ad n cap, ptr tb]) := hi.lg
    have HBW : Hid (Blk W Bt 50 [ptr tb]) := hi.bt
    have HDW : Hid (W.heap[D]? = some (.deferred (some []))) := hK
    have HDD : Hid (w.heap.size ≤ D) := Nat.le_trans HB3.out.size hD
    have cL := hi.lg.cell 0 _ rfl
    clear hP3 hl3 he3 hlR hi hK hD
    have HCall : Hid (Calls Tryz.prog 38 #[.slice ad n cap, ptr bi, ptr bo] W fun e w'' => ∃ v', e = .returned v' ∧ SRow w'' v' (U ++ R2) ∧ W.grownBy w'' (Value.slice ad n cap).ownBlock ∧ ∀ k, v'.ownBlock = some k → (Value.slice ad n cap).ownBlock = some k ∨ W.heap.size ≤ k) := HHow.out W mo HTW.out
    have HST : Hid (∀ (W4 : World) (v' : Value), SRow W4 v' (U ++ R2) → W.grownBy W4 (Value.slice ad n cap).ownBlock → (∀ k, v'.ownBlock = some k → (Value.slice ad n cap).ownBlock = some k ∨ W.heap.size ≤ k) → DoI w lb (.slice ad n cap) tb mo v' Bt D (U ++ R2) m (U ++ R2) mo L3 (W4.setCell ⟨lb, 0, none⟩ v')) := fun W4 v' h1 h2 h3 => DoI.start HL.out HTW.out HPT.out HLS.out HRW.out HLW.out HBW.out HDW.out hm HS2.out.2.2 h1 h2 h3
    have HS3 : Hid (StrS (U ++ R2) ∧ (U ++ R2).length ≤ 60) := ⟨HS2.out.1, HS2.out.2.1⟩
    have hmS : m ≤ (U ++ R2).length := by rw [← hm]; simp
    obtain ⟨S2, hS2⟩ : ∃ S2, S2 = U ++ R2 := ⟨_, rfl⟩
    rw [← hS2] at HCall HST HS3 hmS ⊢
    have hS60 : S2.length ≤ 60 := HS3.out.2
    have HSe : Hid (S2 = U ++ R2) := hS2
    clear HHow HTl hS2 HS2 hRl hmn
    go_upto_region 5 with (go_at_call 38; go_must (refine HCall.out.mono ?_; rintro e W4 ⟨v', rfl, hr4, hg4, hn4⟩; obtain ⟨a4, c4, rfl⟩ := hr4.len; have HD4 : Hid (DoI w lb (.slice ad n cap) tb mo (.slice a4 S2.length c4) Bt D S2 m S2 mo L3 (W4.setCell ⟨lb, 0, none⟩ (.slice a4 S2.length c4))) := HST.out W4 _ hr4 hg4 hn4; have hL4 := log_pastRow HLW.out HRW.out hg4; have d0 := hL4.cell 0 _ rfl; have f0 := hL4.frozen 0; clear hr4 hg4 hn4 hL4 cL))
    obtain ⟨W5, hW5⟩ : ∃ W5, W5 = W4.setCell ⟨lb, 0, none⟩ (.slice a4 S2.length c4) := ⟨_, rfl⟩
    rw [← hW5] at HD4 ⊢
    clear hW5 HST HCall d0 f0 HLW HRW HBW HDW HPT HTW
    go_wp2_with fail
    go_loopw [9] (fun i wr => ∃ (j : Nat) (T : List ST) (mo' : Option Nat) (L' : List IT), i = .int .i64 (j : Int) ∧ j ≤ S2.length ∧ Hid (DoI w lb (.slice ad n cap) tb mo (.slice a4 S2.length c4) Bt D S2 j T mo' L' wr)) (fun i _ => S2.length - (intOf i).toNat)
    case atStart => exact ⟨m, S2, mo, L3, rfl, hmS, HD4⟩
    case round =>
      obtain ⟨j, T, mo', L', rfl, hjS, HDI⟩ := hrel
      clear HD4
      have HLn : Hid (T.length = S2.length) := ops_len HDI.out.ops
      by_cases hlt : j < S2.length
      · have hjI : (j : Int) < (S2.length : Int) := by omega
        obtain ⟨s, hs⟩ : ∃ s, T[j]? = some s := ⟨_, List.getElem?_eq_getElem (by rw [HLn.out]; exact hlt)⟩
        obtain ⟨g', cap', hv⟩ := HDI.out.row.someRow hs
        injection hv with e1 e2 e3
        subst e1
        clear e2 e3
        have hcp := HDI.out.row.rowF.caps
        have hcp2 := hcp.2
        clear hcp
        have HDO : Hid (Calls Tryz.prog 63 #[.pointer (some ⟨g', j * 21, none⟩), ptr tb] wr.drew fun e w' => e = .returned (.tuple #[]) ∧ DidAll wr.drew g' c4 j tb mo' L' T s w') := by
          have hb := HDI.out.below (below_drewn wr 1)
          have hsr : s ∈ T.drop j := by
            obtain ⟨hl, he⟩ := List.getElem?_eq_some_iff.1 hs
            rw [← he, List.drop_eq_getElem_cons hl]; exact List.mem_cons_self
          have ho := hb.rest s hsr
          exact do61 (by rw [HLn.out]; exact hb.row) hs hb.tree (by have := hb.few HS3.out.2; omega) (hb.gd HS3.out.2) ho.rq ho.lq ho.right
        have HSTEP : Hid (∀ wX x b mo2 L2, DidAns wr.drew g' c4 j tb mo' L' T s x b mo2 L2 wX → DoI w lb (.slice ad n cap) tb mo (.slice (some ⟨g', 0, none⟩) S2.length c4) Bt D S2 (j + 1) (T.set j ⟨s.q, x, b⟩) mo2 L2 wX ∧ wX.heap[lb]? = wr.heap[lb]? ∧ wX.heap[Bt]? = wr.heap[Bt]?) := fun wX x b mo2 L2 hd => by
          have hb := HDI.out.below (below_drewn wr 1)
          rw [← HLn.out] at hb ⊢
          exact hb.step hs hd
        have cl := fun z : WIn (fun w' => w'.heap[lb]? = wr.heap[lb]? ∧ w'.heap[Bt]? = wr.heap[Bt]?) => (Blk.block HDI.out.lg z.ok.1).cell 0 _ rfl
        have cb := fun z : WIn (fun w' => w'.heap[lb]? = wr.heap[lb]? ∧ w'.heap[Bt]? = wr.heap[Bt]?) => (Blk.block HDI.out.bt z.ok.2).cell 0 _ rfl
        have c6 := HDI.out.lg.cell 0 _ rfl
        clear hs
        go_upto_region 8 with fail
        clear c6
        have ne : Nonempty (WIn (fun w' => w'.heap[lb]? = wr.heap[lb]? ∧ w'.heap[Bt]? = wr.heap[Bt]?)) := ⟨⟨wr.drew, rfl, rfl⟩⟩
        refine wp_region_ord (C := fun w' => ∃ z : WIn (fun w' => w'.heap[lb]? = wr.heap[lb]? ∧ w'.heap[Bt]? = wr.heap[Bt]?), w' = z.w) [(false, 0), (false, 1), (false, 2), (false, 3), (false, 4), (false, 5), (false, 6), (true, 7)] (by kernel_rfl) (by kernel_rfl) ⟨⟨wr.drew, rfl, rfl⟩, rfl⟩ ?_
        iterate 7 (refine ord_still rfl rfl ?_; go_big_quiet_step (fail); refine wpQuiet_nil ?_)
        refine ord_mem rfl rfl ?_
        go_simp
        refine HDO.out.mono ?_
        rintro r wX ⟨rfl, x, b, mo2, L2, hd⟩
        have HX : Hid (_ ∧ wX.heap[lb]? = wr.heap[lb]? ∧ wX.heap[Bt]? = wr.heap[Bt]?) := HSTEP.out _ _ _ _ _ hd
        clear hd
        refine ⟨⟨⟨wX, HX.out.2⟩, rfl⟩, ?_⟩
        go_simp
        refine ord_end ?_
        clear ne
        clear cl cb
        go_wp2
        go_roundw
        case rel => exact ⟨j + 1, _, mo2, L2, by simp, by omega, HX.out.1⟩
        case measure => simp [intOf]; omega
      · have hjI : ¬ (j : Int) < (S2.length : Int) := by omega
        have c6 := HDI.out.lg.cell 0 _ rfl
        go_wp2
        refine ⟨by simp, .inl ⟨_, _, rfl, run_takeDeferred HDI.out.df, ?_⟩⟩
        have hF := HDI.out
        rw [show j = T.length from by have := HLn.out; omega] at hF
        obtain ⟨q1, q2⟩ := hF.fin HS3.out.1 HS3.out.2
        exact ⟨_, results_none rfl _ _ _, rfl, _, mo', L', T, q1, by rw [hF.ops, HSe.out], q2 HDD.out⟩
set_option maxRecDepth 100000 in
theorem change32r {w : World} {lb tb n m cap : Nat} {ad : Option Addr} {mo : Option Nat} {L : List IT} {U R R2 : List ST} {bi : Nat} (hn : (U ++ R).length = n) (hm : U.length = m) (h : LogAt w lb (.slice ad n cap) tb mo L (U ++ R)) (hstr : StrS (U ++ R2)) (hfew : (U ++ R2).length ≤ 60) (hok : ∀ s ∈ R2, OpOk w s.q)
    (hhow : ∀ w' mo', Tw tb mo w w' mo' → Calls Tryz.prog 42 #[.slice ad n cap, ptr bi] w' fun e w'' => ∃ v', e = .returned v' ∧ SRow w'' v' (U ++ R2) ∧ w'.grownBy w'' (Value.slice ad n cap).ownBlock ∧ ∀ k, v'.ownBlock = some k → (Value.slice ad n cap).ownBlock = some k ∨ w'.heap.size ≤ k) :
    Calls Tryz.prog 37 #[ptr lb, .int .i64 (m : Int), .func (.func 42) #[] #[ptr bi]] w (ChAns w lb (.slice ad n cap) tb mo (U ++ R2)) := by
  have HL : Hid (LogAt w lb (.slice ad n cap) tb mo L (U ++ R)) := h
  have HS2 : Hid (StrS (U ++ R2) ∧ (U ++ R2).length ≤ 60 ∧ ∀ s ∈ R2, OpOk w s.q) := ⟨hstr, hfew, hok⟩
  have HHow : Hid (∀ w' mo', Tw tb mo w w' mo' → Calls Tryz.prog 42 #[.slice ad n cap, ptr bi] w' fun e w'' => ∃ v', e = .returned v' ∧ SRow w'' v' (U ++ R2) ∧ w'.grownBy w'' (Value.slice ad n cap).ownBlock ∧ ∀ k, v'.ownBlock = some k → (Value.slice ad n cap).ownBlock = some k ∨ w'.heap.size ≤ k) := hhow
  clear hhow hok hstr hfew
  have c0 := h.blk.cell 0 _ rfl
  have hT := tree16 h.blk
  have hRl : R.length = n - m := by rw [← hn, ← hm]; simp
  have hmn : m ≤ n := by rw [← hn, ← hm]; simp
  have hn60 : n ≤ 60 := by rw [← hn]; exact h.few
  have HRL : Hid (R.length = n - m ∧ U.length = m ∧ (U ++ R).length = n ∧ n ≤ 60) := ⟨hRl, hm, hn, hn60⟩
  obtain ⟨ua, un, uc, g, hsl, hTl, hGk⟩ := slice_tail h hn hm
  have HTl : Hid (∀ w', Below w.heap.size w w' → Tail w' g (.slice ua un uc) R) := hTl
  have HGk : Hid (g < w.heap.size ∧ g ≠ tb ∧ mo ≠ some g) := hGk
  clear h hTl hGk
  refine (callsIn_wide (n := 9)).1 ?_
  refine callsIn_of_wp_marks Tryz.func37 rfl trivial ?_ rfl
  simp only [Tryz.ntmps37, List.size_toArray, List.length_cons, List.length_nil, Nat.reduceAdd, Nat.reduceSub, Array.replicate_succ, Array.replicate_zero, List.push_toArray, List.append_toArray, List.nil_append, List.cons_append]
  refine wpIn_wide.2 ?_
  go_upto_region 1 with (go_at_call 15; go_must (refine hT.mono ?_; rintro e w1 ⟨rfl, hb1⟩; have HB1 : Hid (Below w.heap.size w w1) := hb1; clear hb1 hT))
  obtain ⟨w2, hw2⟩ : ∃ w2, w2 = w1.alloc (.cells #[ptr tb] 50) := ⟨_, rfl⟩
  obtain ⟨Bt, hBt⟩ : ∃ Bt, Bt = w1.heap.size := ⟨_, rfl⟩
  have HBt : Hid (Blk w2 Bt 50 [ptr tb]) := by show Blk _ _ _ _; rw [hw2, hBt]; exact blk_new w1 [ptr tb] 50
  have HB2 : Hid (Below w.heap.size w w2) := by show Below _ _ _; rw [hw2]; exact balloc HB1.out _
  have HBw : Hid (w.heap.size ≤ Bt) := by show _ ≤ _; rw [hBt]; exact HB1.out.size
  have c0' := (HL.out.blk.below HB2.out).cell 0 _ rfl
  have hw2' : w1.alloc (.cells #[.pointer (some ⟨tb, 0, none⟩)] 50) = w2 := hw2.symm
  have hBt' : (Value.pointer (some ⟨w1.heap.size, 0, none⟩)) = ptr Bt := by rw [hBt]
  rw [hw2', hBt']
  clear hw2 hw2' hBt' hBt c0
  go_wp2_with (first
    | (refine wpList_okw rfl (hsl (.tmp 15) (.tmp 16) rfl rfl rfl) ?_)
    | (go_at_call 61; go_must (refine (backward59 _ _ _ _).mono ?_; rintro e w3 ⟨rfl, hw3⟩; have HW3 : Hid (w3 = w2.alloc (.cells #[.slice ua un uc] 64)) := hw3; clear hw3)))
  clear hsl c0'
  obtain ⟨Bs, hBs⟩ : ∃ Bs, Bs = w2.heap.size := ⟨_, rfl⟩
  have HBs : Hid (Blk w3 Bs 64 [.slice ua un uc]) := by show Blk _ _ _ _; rw [HW3.out, hBs]; exact blk_new w2 _ _
  have HB23 : Hid (Below w2.heap.size w2 w3) := by show Below _ _ _; rw [HW3.out]; exact balloc (Below.refl _ _) _
  have HB3 : Hid (Below w.heap.size w w3) := bnext HB2.out HB23.out
  have HBsw : Hid (w.heap.size ≤ Bs) := by show _ ≤ _; rw [hBs]; exact HB2.out.size
  have HMB : Hid (∀ mb, mo = some mb → mb < w.heap.size) := fun mb e => by
    rcases HL.out.tree.mp with ⟨e1, _⟩ | ⟨mb', e1, hm⟩
    · rw [e1] at e; cases e
    · rw [e1] at e; cases e; exact hm.lt
  have HMN : Hid (∀ s ∈ U ++ R, mo = none → s.b = false) := fun s hs e => by
    have hL0 : L = [] := by
      rcases HL.out.tree.mp with ⟨_, e1⟩ | ⟨mb', e1, hm⟩
      · exact e1
      · rw [e1] at e; cases e
    refine dn_none HL.out.dn ?_ s hs
    rw [← HL.out.lst, hL0]
    rfl
  rw [← hBs]
  clear hBs HW3
  refine (wpIn_wide (n := 9)).1 ?_
  refine wpIn_rangeFunc_ownH (n := 9) rfl (by omega) (gf := 75) (lb := #[ptr Bs]) rfl trivial (enters_of Tryz.func75 (by kernel_rfl) rfl)
    (back_stops 8 (by omega) Bs g (.slice ua un uc) R w3 (by omega) (HTl.out _ HB3.out) HBs.out.lt (HBs.out.cell 0 _ rfl)) kpB_t (kpB_b HBs.out.lt (Nat.lt_of_lt_of_le HGk.out.1 HB3.out.size)) (Below.refl _ _) (fun _ => rfl)
    (fun pre W => UnI w3 Bt lb tb m (.slice ad n cap) mo (U ++ R) R.length pre.length (pre = downF R.length pre.length) W)
    (fun _ _ _ => False)
    (UnI.own fun mb e => Nat.lt_of_lt_of_le (HMB.out mb e) HB3.out.size)
    (fun _ _ _ _ _ hs _ _ => hs)
    ⟨HBt.out.below HB23.out, HL.out.blk.below HB3.out, HL.out.row.below HB3.out, ⟨L, HL.out.tree.below HB3.out, by have := HL.out.fewL; simp; omega, fun _ => by rw [HL.out.lst, List.take_of_length_le (by have := HRL.out; simp at this ⊢; omega)]⟩, Tw.of_below (Below.refl _ _)⟩
    (fun x a' W => ∃ Bx, w3.heap.size ≤ Bx ∧ Stb W Bx R[x.1] ∧ a' = { tmps := #[ptr lb, .int .i64 (m : Int), .func (.func 42) #[] #[ptr bi], undef, undef, undef, ptr Bt, undef, ptr Bx, undef, ptr lb, ptr tb, ptr lb, .pointer (some ⟨lb, 0, none⟩), .pointer (some ⟨lb, 0, none⟩), .slice ad n cap, .int .i64 (m : Int), .slice ua un uc, .func (.func 75) #[] #[ptr Bs], .int .i64 (x.1 : Int), tv R[x.1], undef, undef, undef, undef, undef, undef, undef, undef, undef, undef, undef, undef, undef, undef, undef, undef, undef, undef, undef, undef, undef, undef, undef, undef, undef, undef, undef, undef, undef, undef], defers := [] })
    (fun x a' s X Y row hs hg hr => by obtain ⟨Bx, h1, h2, h3⟩ := hs; exact ⟨Bx, h1, blk_row h2 hg (fun r e => (hr r e).2), h3⟩)
    ?assign ?body ?done ?stop
  case assign =>
    rintro l pre x W K hi hK
    have hth := (stb_new W tz).there
    obtain ⟨s, hs⟩ : ∃ s, s = R[x.1] := ⟨_, rfl⟩
    obtain ⟨Wa, hWa⟩ : ∃ Wa, Wa = (W.alloc (.cells (tc tz).toArray 73)).setCells W.heap.size 0 (tc s) := ⟨_, rfl⟩
    have HA : Hid (Below W.heap.size W Wa ∧ Stb Wa W.heap.size s) := by
      refine ⟨?_, ?_⟩
      · rw [hWa]; exact below_put (balloc (Below.refl _ _) _) (Nat.le_refl _)
      · rw [hWa]; exact (stb_new W tz).put s
    have HK : Hid (∀ a', a' = ({ tmps := #[ptr lb, .int .i64 (m : Int), .func (.func 42) #[] #[ptr bi], undef, undef, undef, ptr Bt, undef, ptr W.heap.size, undef, ptr lb, ptr tb, ptr lb, .pointer (some ⟨lb, 0, none⟩), .pointer (some ⟨lb, 0, none⟩), .slice ad n cap, .int .i64 (m : Int), .slice ua un uc, .func (.func 75) #[] #[ptr Bs], .int .i64 (x.1 : Int), tv s, undef, undef, undef, undef, undef, undef, undef, undef, undef, undef, undef, undef, undef, undef, undef, undef, undef, undef, undef, undef, undef, undef, undef, undef, undef, undef, undef, undef, undef, undef], defers := [] } : Act) → K a' Wa) := fun a' ha => hK _ _ (KeepsFrom.of_grownBy (below_grown HA.out.1) (fun j e => by cases e)) ⟨HA.out.1.block _ (Nat.lt_of_lt_of_le HBs.out.lt hi.tw.size), HA.out.1.block _ (Nat.lt_of_lt_of_le (Nat.lt_of_lt_of_le HGk.out.1 HB3.out.size) hi.tw.size)⟩ (hi.below HA.out.1) ⟨W.heap.size, hi.tw.size, by rw [← hs]; exact HA.out.2, by rw [← hs]; exact ha⟩
    obtain ⟨xi, hxi⟩ : ∃ xi : Int, xi = (x.1 : Int) := ⟨_, rfl⟩
    dsimp only
    rw [← hs, ← hxi]
    rw [← hxi] at HK
    clear hs hK hi hxi
    refine wpIn_region_lit ?_
    go_simp
    refine wpListIn_okT rfl rfl (fun c h => by cases h) (exec_alloc76 rfl) ?_
    go_simp
    refine wpListIn_skipT rfl rfl (fun c h => by cases h) (exec_store76 (q := s) (.tmp 8) (.tmp 20) rfl rfl rfl hth) ?_
    refine wpListIn_nil ?_
    rw [← hWa]
    exact HK.out _ rfl
  case body =>
    rintro l pre x a' W hl ⟨r, hr⟩ hi ⟨Bx, hBx, hS, rfl⟩ hlt
    obtain ⟨L0, hP0, hl0, he0⟩ := hi.tr
    have h1' : 1 ≤ 9 - 1 - 1 := by omega
    have hmem : R[x.1] ∈ U ++ R := List.mem_append_right _ (List.getElem_mem x.2)
    have hso := HL.out.ok _ hmem
    have hno := dn_node HL.out.dn _ hmem
    have hrd : Rd W (R[x.1]).x.v (R[x.1]).x.m.b := hi.tw.rd (HL.out.tree.below HB3.out) (hso.rx.below HB3.out)
    have hu := undo60 hP0 R[x.1] hrd hso.lx (by rw [hno]; exact (rightO_n hso.right).1) hso.sp (by have := HRL.out; omega)
    have HU : Hid (Calls Tryz.prog 62 #[tv R[x.1], ptr tb] W fun e w' => e = .returned (.tuple #[]) ∧ ∃ mo' L', PTr w' tb mo' L' ∧ L'.map IT.m = setM (L0.map IT.m) (R[x.1]).x.m (R[x.1]).b ∧ Tw tb mo W w' mo' ∧ StaysM (R[x.1]).b mo mo') := hu
    have HI : Hid (UnI w3 Bt lb tb m (.slice ad n cap) mo (U ++ R) R.length pre.length (pre = downF R.length pre.length) W) := hi
    have H0 : Hid (PTr W tb mo L0 ∧ L0.length ≤ 60 + pre.length ∧ (pre = downF R.length pre.length → L0.map IT.m = buildM [] (opsS ((U ++ R).take (m + (R.length - pre.length)))))) := ⟨hP0, hl0, he0⟩
    have HLt : Hid (pre.length < R.length) := hlt
    have HSl : Hid (W.rangeAt Bx 0 (tc R[x.1])) := hS.load
    have cB := hi.bt.cell 0 _ rfl
    clear hu hi hP0 hl0 he0 hso hno hrd hlt hS
    obtain ⟨s, hs⟩ : ∃ s, s = R[x.1] := ⟨_, rfl⟩
    obtain ⟨xi, hxi⟩ : ∃ xi : Int, xi = (x.1 : Int) := ⟨_, rfl⟩
    rw [← hs, ← hxi]
    rw [← hs] at HU HSl hmem
    have HSx : Hid (s = R[x.1]) := hs
    clear hs hxi
    have SEM := @Oper.semAt_some
    gi_wp2_with (first
      | (refine wpListIn_okT rfl rfl (fun c h => by cases h) (exec_load76 (q := s) (.tmp 8) rfl rfl HSl.out) ?_)
      | (refine ⟨trivial, ?_⟩; gi_at_call 62; refine (CallsIn.inRound l (callsIn_wide.2 HU.out)).mono ?_; rintro e W2 ⟨rfl, mo', L', h1, h2, h3, h4⟩))
    rw [HSx.out] at h2
    have hmo : mo' = mo := by
      cases hm0 : mo with
      | none => rw [← hm0]; exact h4 (HMN.out _ hmem hm0)
      | some mb => exact h3.kept mb hm0
    subst hmo
    have hsz := HI.out.tw.size
    have hin : ∀ k, k < w3.heap.size → k ≠ tb → mo' ≠ some k → W2.heap[k]? = W.heap[k]? := fun k hk n1 n2 => h3.block k (Nat.lt_of_lt_of_le hk hsz) n1 n2
    have htb : tb < w.heap.size := HL.out.tree.blk.lt
    refine ⟨⟨h3.size, fun k o hB hk ho => (h3.block k (Array.getElem?_eq_some_iff.1 hk).1 (fun e => ?_) (fun e => ?_)).trans hk⟩, ⟨hin Bs HBs.out.lt (fun e => ?_) (fun e => ?_), hin g (Nat.lt_of_lt_of_le HGk.out.1 HB3.out.size) HGk.out.2.1 HGk.out.2.2⟩, HI.out.step HL.out (by have := HRL.out; simp; omega) (fun j hj => by
        have := HRL.out
        rw [List.getElem?_append_right (by omega), show m + j - U.length = j by omega]
        exact List.getElem?_eq_getElem hj) HLt.out H0.out.1 H0.out.2.1 H0.out.2.2 h1 h2 h3⟩
    · have := HB3.out.size; omega
    · have := HB3.out.size; have := HMB.out k e; omega
    · have := HBsw.out; omega
    · have := HBsw.out; have := HMB.out Bs e; omega
  case stop =>
    rintro D c pre W _ _ h _
    exact h.elim
  case done =>
    rintro D ys W hD rfl hi hK
    obtain ⟨L3, hP3, hl3, he3⟩ := hi.tr
    have hlR : (List.finRange R.length).reverse.length = R.length := by simp
    have HLS : Hid (L3.map IT.m = buildM [] (opsS U)) := by
      have := he3 (by rw [hlR, downF_all])
      rw [hlR, Nat.sub_self, Nat.add_zero, ← hm, List.take_left] at this
      exact this
    have HTW : Hid (Tw tb mo w W mo) := (Tw.of_below HB3.out).trans hi.tw
    have HPT : Hid (PTr W tb mo L3) := hP3
    have HRW : Hid (SRow W (.slice ad n cap) (U ++ R)) := hi.row
    have HLW : Hid (Blk W lb 66 [.slice ad n cap, ptr tb]) := hi.lg
    have HBW : Hid (Blk W Bt 50 [ptr tb]) := hi.bt
    have HDW : Hid (W.heap[D]? = some (.deferred (some []))) := hK
    have HDD : Hid (w.heap.size ≤ D) := Nat.le_trans HB3.out.size hD
    have cL := hi.lg.cell 0 _ rfl
    clear hP3 hl3 he3 hlR hi hK hD
    have HCall : Hid (Calls Tryz.prog 42 #[.slice ad n cap, ptr bi] W fun e w'' => ∃ v', e = .returned v' ∧ SRow w'' v' (U ++ R2) ∧ W.grownBy w'' (Value.slice ad n cap).ownBlock ∧ ∀ k, v'.ownBlock = some k → (Value.slice ad n cap).ownBlock = some k ∨ W.heap.size ≤ k) := HHow.out W mo HTW.out
    have HST : Hid (∀ (W4 : World) (v' : Value), SRow W4 v' (U ++ R2) → W.grownBy W4 (Value.slice ad n cap).ownBlock → (∀ k, v'.ownBlock = some k → (Value.slice ad n cap).ownBlock = some k ∨ W.heap.size ≤ k) → DoI w lb (.slice ad n cap) tb mo v' Bt D (U ++ R2) m (U ++ R2) mo L3 (W4.setCell ⟨lb, 0, none⟩ v')) := fun W4 v' h1 h2 h3 => DoI.start HL.out HTW.out HPT.out HLS.out HRW.out HLW.out HBW.out HDW.out hm HS2.out.2.2 h1 h2 h3
    have HS3 : Hid (StrS (U ++ R2) ∧ (U ++ R2).length ≤ 60) := ⟨HS2.out.1, HS2.out.2.1⟩
    have hmS : m ≤ (U ++ R2).length := by rw [← hm]; simp
    obtain ⟨S2, hS2⟩ : ∃ S2, S2 = U ++ R2 := ⟨_, rfl⟩
    rw [← hS2] at HCall HST HS3 hmS ⊢
    have hS60 : S2.length ≤ 60 := HS3.out.2
    have HSe : Hid (S2 = U ++ R2) := hS2
    clear HHow HTl hS2 HS2 hRl hmn
    go_upto_region 5 with (go_at_call 42; go_must (refine HCall.out.mono ?_; rintro e W4 ⟨v', rfl, hr4, hg4, hn4⟩; obtain ⟨a4, c4, rfl⟩ := hr4.len; have HD4 : Hid (DoI w lb (.slice ad n cap) tb mo (.slice a4 S2.length c4) Bt D S2 m S2 mo L3 (W4.setCell ⟨lb, 0, none⟩ (.slice a4 S2.length c4))) := HST.out W4 _ hr4 hg4 hn4; have hL4 := log_pastRow HLW.out HRW.out hg4; have d0 := hL4.cell 0 _ rfl; have f0 := hL4.frozen 0; clear hr4 hg4 hn4 hL4 cL))
    obtain ⟨W5, hW5⟩ : ∃ W5, W5 = W4.setCell ⟨lb, 0, none⟩ (.slice a4 S2.length c4) := ⟨_, rfl⟩
    rw [← hW5] at HD4 ⊢
    clear hW5 HST HCall d0 f0 HLW HRW HBW HDW HPT HTW
    go_wp2_with fail
    go_loopw [9] (fun i wr => ∃ (j : Nat) (T : List ST) (mo' : Option Nat) (L' : List IT), i = .int .i64 (j : Int) ∧ j ≤ S2.length ∧ Hid (DoI w lb (.slice ad n cap) tb mo (.slice a4 S2.length c4) Bt D S2 j T mo' L' wr)) (fun i _ => S2.length - (intOf i).toNat)
    case atStart => exact ⟨m, S2, mo, L3, rfl, hmS, HD4⟩
    case round =>
      obtain ⟨j, T, mo', L', rfl, hjS, HDI⟩ := hrel
      clear HD4
      have HLn : Hid (T.length = S2.length) := ops_len HDI.out.ops
      by_cases hlt : j < S2.length
      · have hjI : (j : Int) < (S2.length : Int) := by omega
        obtain ⟨s, hs⟩ : ∃ s, T[j]? = some s := ⟨_, List.getElem?_eq_getElem (by rw [HLn.out]; exact hlt)⟩
        obtain ⟨g', cap', hv⟩ := HDI.out.row.someRow hs
        injection hv with e1 e2 e3
        subst e1
        clear e2 e3
        have hcp := HDI.out.row.rowF.caps
        have hcp2 := hcp.2
        clear hcp
        have HDO : Hid (Calls Tryz.prog 63 #[.pointer (some ⟨g', j * 21, none⟩), ptr tb] wr.drew fun e w' => e = .returned (.tuple #[]) ∧ DidAll wr.drew g' c4 j tb mo' L' T s w') := by
          have hb := HDI.out.below (below_drewn wr 1)
          have hsr : s ∈ T.drop j := by
            obtain ⟨hl, he⟩ := List.getElem?_eq_some_iff.1 hs
            rw [← he, List.drop_eq_getElem_cons hl]; exact List.mem_cons_self
          have ho := hb.rest s hsr
          exact do61 (by rw [HLn.out]; exact hb.row) hs hb.tree (by have := hb.few HS3.out.2; omega) (hb.gd HS3.out.2) ho.rq ho.lq ho.right
        have HSTEP : Hid (∀ wX x b mo2 L2, DidAns wr.drew g' c4 j tb mo' L' T s x b mo2 L2 wX → DoI w lb (.slice ad n cap) tb mo (.slice (some ⟨g', 0, none⟩) S2.length c4) Bt D S2 (j + 1) (T.set j ⟨s.q, x, b⟩) mo2 L2 wX ∧ wX.heap[lb]? = wr.heap[lb]? ∧ wX.heap[Bt]? = wr.heap[Bt]?) := fun wX x b mo2 L2 hd => by
          have hb := HDI.out.below (below_drewn wr 1)
          rw [← HLn.out] at hb ⊢
          exact hb.step hs hd
        have cl := fun z : WIn (fun w' => w'.heap[lb]? = wr.heap[lb]? ∧ w'.heap[Bt]? = wr.heap[Bt]?) => (Blk.block HDI.out.lg z.ok.1).cell 0 _ rfl
        have cb := fun z : WIn (fun w' => w'.heap[lb]? = wr.heap[lb]? ∧ w'.heap[Bt]? = wr.heap[Bt]?) => (Blk.block HDI.out.bt z.ok.2).cell 0 _ rfl
        have c6 := HDI.out.lg.cell 0 _ rfl
        clear hs
        go_upto_region 8 with fail
        clear c6
        have ne : Nonempty (WIn (fun w' => w'.heap[lb]? = wr.heap[lb]? ∧ w'.heap[Bt]? = wr.heap[Bt]?)) := ⟨⟨wr.drew, rfl, rfl⟩⟩
        refine wp_region_ord (C := fun w' => ∃ z : WIn (fun w' => w'.heap[lb]? = wr.heap[lb]? ∧ w'.heap[Bt]? = wr.heap[Bt]?), w' = z.w) [(false, 0), (false, 1), (false, 2), (false, 3), (false, 4), (false, 5), (false, 6), (true, 7)] (by kernel_rfl) (by kernel_rfl) ⟨⟨wr.drew, rfl, rfl⟩, rfl⟩ ?_
        iterate 7 (refine ord_still rfl rfl ?_; go_big_quiet_step (fail); refine wpQuiet_nil ?_)
        refine ord_mem rfl rfl ?_
        go_simp
        refine HDO.out.mono ?_
        rintro r wX ⟨rfl, x, b, mo2, L2, hd⟩
        have HX : Hid (_ ∧ wX.heap[lb]? = wr.heap[lb]? ∧ wX.heap[Bt]? = wr.heap[Bt]?) := HSTEP.out _ _ _ _ _ hd
        clear hd
        refine ⟨⟨⟨wX, HX.out.2⟩, rfl⟩, ?_⟩
        go_simp
        refine ord_end ?_
        clear ne
        clear cl cb
        go_wp2
        go_roundw
        case rel => exact ⟨j + 1, _, mo2, L2, by simp, by omega, HX.out.1⟩
        case measure => simp [intOf]; omega
      · have hjI : ¬ (j : Int) < (S2.length : Int) := by omega
        have c6 := HDI.out.lg.cell 0 _ rfl
        go_wp2
        refine ⟨by simp, .inl ⟨_, _, rfl, run_takeDeferred HDI.out.df, ?_⟩⟩
        have hF := HDI.out
        rw [show j = T.length from by have := HLn.out; omega] at hF
        obtain ⟨q1, q2⟩ := hF.fin HS3.out.1 HS3.out.2
        exact ⟨_, results_none rfl _ _ _, rfl, _, mo', L', T, q1, by rw [hF.ops, HSe.out], q2 HDD.out⟩
end Go.Proofs.YthnjbjlhfohpfaaGreat
