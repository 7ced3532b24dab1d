/-
  Two logs beside each other; a tree beside a log.
  What stays when a row of operations is turned; what Build makes of operations in order.
-/
import Derived.Test.YthnjbjlhfohpfaaGreatUdN
import Derived.Test.YthnjbjlhfohpfaaGreatRfR
namespace Go.Proofs.YthnjbjlhfohpfaaGreat
section
set_option linter.unusedVariables false
set_option linter.unusedSimpArgs false
set_option synthInstance.maxSize 20000
set_option maxHeartbeats 2000000
set_option maxRecDepth 20000
open Go.RowKit Go.Maps

section
variable {w w' : World} {la ta lb tb t2 : Nat} {va va' vb : Value} {ma ma' mb m2 : Option Nat} {LA LB L2 : List IT} {UA UB : List ST}
theorem cells_ne {w : World} {b c : Nat} {e1 e2 : TypeId} {v1 v2 : List Value} (h1 : Blk w b e1 v1) (h2 : Blk w c e2 v2) (h : e1 ≠ e2) : b ≠ c := fun e => by
  have q1 : w.heap[b]? = some (.cells _ e1 (0, 0)) := h1
  have q2 : w.heap[c]? = some (.cells _ e2 (0, 0)) := h2
  rw [e, q2] at q1
  injection q1 with q1
  injection q1 with _ q
  exact h q.symm
theorem PTr.notMap (h : PTr w ta ma LA) {b : Nat} {e : TypeId} {vs : List Value} (hb : Blk w b e vs) : ma ≠ some b := fun e' => by
  rcases h.mp with ⟨e1, _⟩ | ⟨mb, e1, hm⟩
  · rw [e1] at e'; cases e'
  · rw [e1] at e'; cases e'
    exact hm.nocells (show w.heap[b]? = some (.cells _ e (0, 0)) from hb)
theorem SRow.ne {v : Value} {S : List ST} (h : SRow w v S) {b : Nat} {e : TypeId} {vs : List Value} (hb : Blk w b e vs) (he : e ≠ 73) : v.ownBlock ≠ some b := fun e' => by
  obtain ⟨us, hc, _⟩ := h.cells e'
  exact cells_ne hb hc he rfl
/-- A tree beside a log stays when the log is changed. -/
theorem PTr.keepL (hP : PTr w t2 m2 L2) (hw : Lw la ta ma va w w' ma' va') (ha : LogAt w la va ta ma LA UA) (ht : t2 ≠ ta) (hm : ∀ k, m2 = some k → ma ≠ some k) : PTr w' t2 m2 L2 := by
  have hb : w'.heap[t2]? = w.heap[t2]? := hw.block t2 hP.blk.lt (cells_ne hP.blk ha.blk (by decide)) ht (ha.tree.notMap hP.blk) (ha.row.ne hP.blk (by decide))
  refine ⟨hP.blk.block hb, hP.mp.imp id (fun ⟨mb, e, hq⟩ => ⟨mb, e, hq.block ?_⟩), hP.ok, fun z hz => hw.rd ha (hP.rd z hz), hP.srt, hP.few⟩
  have hn : ∀ {b : Nat} {e : TypeId} {vs : List Value}, Blk w b e vs → mb ≠ b := fun {b e vs} hb e' => by
    subst e'
    exact hq.nocells (show w.heap[mb]? = some (.cells _ e (0, 0)) from hb)
  refine hw.block mb hq.lt (hn ha.blk) (hn ha.tree.blk) (hm mb e) fun e' => ?_
  obtain ⟨us, hc, _⟩ := ha.row.cells e'
  exact hn hc rfl
/-- Logs that share no block. -/
structure ApartL (la : Nat) (va : Value) (ta : Nat) (ma : Option Nat) (lb : Nat) (vb : Value) (tb : Nat) (mb : Option Nat) : Prop where
  l : la ≠ lb
  t : ta ≠ tb
  m : ∀ k, ma = some k → mb ≠ some k
  v : ∀ k, va.ownBlock = some k → vb.ownBlock ≠ some k
theorem ApartL.symm (h : ApartL la va ta ma lb vb tb mb) : ApartL lb vb tb mb la va ta ma := ⟨fun e => h.l e.symm, fun e => h.t e.symm, fun k hk e => h.m k e hk, fun k hk e => h.v k e hk⟩
/-- A log stays when another one is changed. -/
theorem LogAt.keep (hb : LogAt w lb vb tb mb LB UB) (hw : Lw la ta ma va w w' ma' va') (ha : LogAt w la va ta ma LA UA) (h : ApartL la va ta ma lb vb tb mb) : LogAt w' lb vb tb mb LB UB ∧ ApartL la va' ta ma' lb vb tb mb := by
  refine ⟨⟨hb.blk.block (hw.block lb hb.blk.lt (fun e => h.l e.symm) (cells_ne hb.blk ha.tree.blk (by decide)) (ha.tree.notMap hb.blk) (ha.row.ne hb.blk (by decide))), hb.row.block fun k hk => ?_, hb.tree.keepL hw ha (fun e => h.t e.symm) (fun k hk e => h.m k e hk), hb.lst, hb.dn, hb.str, fun s hs => ?_, hb.few⟩, h.l, h.t, fun k hk e => ?_, fun k hk e => ?_⟩
  · obtain ⟨us, hc, _⟩ := hb.row.cells hk
    exact hw.block k hc.lt (cells_ne hc ha.blk (by decide)) (cells_ne hc ha.tree.blk (by decide)) (ha.tree.notMap hc) fun e => h.v k e hk
  · have := hb.ok s hs
    exact ⟨this.right, hw.rd ha this.rq, this.lq, hw.rd ha this.rx, this.lx, this.sp⟩
  · rcases hw.newm with e1 | ⟨m, e1, h1⟩
    · exact h.m k (e1 ▸ hk) e
    · rw [e1] at hk; cases hk
      rcases hb.tree.mp with ⟨e2, _⟩ | ⟨m', e2, hq⟩
      · rw [e2] at e; cases e
      · rw [e2] at e; cases e
        have := hq.lt; omega
  · rcases hw.newv k hk with e1 | e1
    · exact h.v k e1 e
    · have := hb.row.lt e; omega
end
/-- Two logs that the law made. -/
structure Duo (B : Nat) (w : World) (la : Nat) (va : Value) (ta : Nat) (ma : Option Nat) (LA : List IT) (UA : List ST) (lb : Nat) (vb : Value) (tb : Nat) (mb : Option Nat) (LB : List IT) (UB : List ST) : Prop where
  a : LogN B w la va ta ma LA UA
  b : LogN B w lb vb tb mb LB UB
  ap : ApartL la va ta ma lb vb tb mb
section
variable {w0 w w' : World} {la ta lb tb : Nat} {va va' vb vb' : Value} {ma ma' mb mb' : Option Nat} {LA LB LA' LB' : List IT} {UA UB UA' UB' : List ST}
theorem Duo.below {B : Nat} (h : Duo B w la va ta ma LA UA lb vb tb mb LB UB) (hb : Below w.heap.size w w') : Duo B w' la va ta ma LA UA lb vb tb mb LB UB := ⟨h.a.below hb, h.b.below hb, h.ap⟩
theorem Duo.left (h : Duo w0.heap.size w la va ta ma LA UA lb vb tb mb LB UB) (hb : Below w0.heap.size w0 w) (h2 : LogAt w' la va' ta ma' LA' UA') (hw : Lw la ta ma va w w' ma' va') : Duo w0.heap.size w' la va' ta ma' LA' UA' lb vb tb mb LB UB ∧ Below w0.heap.size w0 w' := by
  obtain ⟨q1, q2⟩ := h.a.step hb h2 hw
  obtain ⟨q3, q4⟩ := h.b.at_.keep hw h.a.at_ h.ap
  exact ⟨⟨q1, ⟨q3, h.b.nl, h.b.nt, h.b.nm, h.b.nv⟩, q4⟩, q2⟩
theorem Duo.right (h : Duo w0.heap.size w la va ta ma LA UA lb vb tb mb LB UB) (hb : Below w0.heap.size w0 w) (h2 : LogAt w' lb vb' tb mb' LB' UB') (hw : Lw lb tb mb vb w w' mb' vb') : Duo w0.heap.size w' la va ta ma LA UA lb vb' tb mb' LB' UB' ∧ Below w0.heap.size w0 w' := by
  obtain ⟨q1, q2⟩ := h.b.step hb h2 hw
  obtain ⟨q3, q4⟩ := h.a.at_.keep hw h.b.at_ h.ap.symm
  exact ⟨⟨⟨q3, h.a.nl, h.a.nt, h.a.nm, h.a.nv⟩, q1, q4.symm⟩, q2⟩
end
end

section
set_option linter.unusedVariables false
set_option linter.unusedSimpArgs false
set_option synthInstance.maxSize 20000
set_option maxHeartbeats 2000000
set_option maxRecDepth 20000
open Go.RowKit Go.Maps

theorem splice_out {vs xs : List Value} {o p : Nat} (h : o + xs.length ≤ vs.length) (hp : p < o ∨ o + xs.length ≤ p) : (splice vs o xs)[p]? = vs[p]? := by
  unfold splice
  rcases hp with hp | hp
  · rw [List.getElem?_append_left (by simp; omega), List.getElem?_take_of_lt hp]
  · rw [List.getElem?_append_right (by simp; omega), List.getElem?_append_right (by simp; omega), List.getElem?_drop]
    congr 1
    simp
    omega
/-- Bytes lie in no cell that held none. -/
theorem rd_setCells {w : World} {g off : Nat} {e : TypeId} {vs xs ys : List Value} {v : Value} {l : List Int} (hr : Rd w v l) (hb : Blk w g e vs) (hold : w.rangeAt g off ys) (hn : NoB ys) (hlen : xs.length = ys.length) (hl : off + xs.length ≤ vs.length) : Rd (w.setCells g off xs) v l := by
  have hg : w.grownBy (w.setCells g off xs) (some g) := grown_setCells g _ _ _
  have hb2 := Blk.setCells hb off xs hl
  obtain ⟨ho, a, cap, rfl, h1, h2, h3, h4⟩ := hr
  refine ⟨ho, a, cap, rfl, h1, h2, h3, fun hp => ?_⟩
  obtain ⟨b, o', rfl, hc⟩ := h4 hp
  refine ⟨b, o', rfl, fun j hj => ?_⟩
  have hcj := hc j hj
  by_cases e1 : b = g
  · subst e1
    have hv : vs[o' + j]? = some (.int .u8 (l.getD j 0)) := by
      have hbb : w.heap[b]? = some (.cells vs.toArray e (0, 0)) := hb
      simp [World.cell?, hbb] at hcj
      simpa using hcj
    have hout : o' + j < off ∨ off + xs.length ≤ o' + j := by
      apply Classical.byContradiction
      intro hno
      obtain ⟨q, hq⟩ : ∃ q, o' + j = off + q := ⟨o' + j - off, by omega⟩
      have hql : q < ys.length := by omega
      have h5 := hold q _ (List.getElem?_eq_getElem hql)
      rw [← hq, hcj] at h5
      exact hn _ (List.getElem_mem hql) _ (Option.some.inj h5).symm
    exact hb2.cell (o' + j) _ (by rw [splice_out hl hout]; exact hv)
  · have hlt : b < w.heap.size := by
      apply Classical.byContradiction
      intro hn'
      have : w.heap[b]? = none := Array.getElem?_eq_none (by omega)
      simp [World.cell?, this] at hcj
    exact (World.cell?_of_block (a := ⟨b, o' + j, none⟩) (hg.block b hlt (fun e => e1 (Option.some.inj e)))).trans hcj
section
variable {w w' : World} {lb tb g : Nat} {v : Value} {mo : Option Nat} {L : List IT} {U : List ST} {e : TypeId} {vs : List Value}
theorem LogAt.pastRow (h : LogAt w lb v tb mo L U) (hg : w.grownBy w' (some g)) (hb : Blk w g e vs) (h1 : e ≠ 66) (h2 : e ≠ 91) (h3 : e ≠ 73) (hrd : ∀ {u : Value} {l : List Int}, Rd w u l → Rd w' u l) : LogAt w' lb v tb mo L U := by
  obtain ⟨n1, n2, n3, n4⟩ := h.other (show w.heap[g]? = some (.cells _ e (0, 0)) from hb) h1 h2 h3
  refine ⟨h.blk.past hg (fun e => n1 e.symm), h.row.block fun k hk => hg.block k (h.row.lt hk) (fun e => by cases e; exact n4 hk), ⟨h.tree.blk.past hg (fun e => n2 e.symm), h.tree.mp.imp id (fun ⟨mb, e, hm⟩ => ⟨mb, e, hm.block (hg.block mb hm.lt (fun e2 => n3 (by rw [e]; exact e2.symm ▸ rfl)))⟩), h.tree.ok, fun z hz => hrd (h.tree.rd z hz), h.tree.srt, h.tree.few⟩, h.lst, h.dn, h.str, fun s hs => ?_, h.few⟩
  have := h.ok s hs
  exact ⟨this.right, hrd this.rq, this.lq, hrd this.rx, this.lx, this.sp⟩
end
theorem Duo.pastRow {B : Nat} {w w' : World} {la ta lb tb g : Nat} {va vb : Value} {ma mb : Option Nat} {LA LB : List IT} {UA UB : List ST} {e : TypeId} {vs : List Value} (h : Duo B w la va ta ma LA UA lb vb tb mb LB UB) (hg : w.grownBy w' (some g)) (hb : Blk w g e vs) (h1 : e ≠ 66) (h2 : e ≠ 91) (h3 : e ≠ 73) (hrd : ∀ {u : Value} {l : List Int}, Rd w u l → Rd w' u l) : Duo B w' la va ta ma LA UA lb vb tb mb LB UB :=
  ⟨⟨h.a.at_.pastRow hg hb h1 h2 h3 hrd, h.a.nl, h.a.nt, h.a.nm, h.a.nv⟩, ⟨h.b.at_.pastRow hg hb h1 h2 h3 hrd, h.b.nl, h.b.nt, h.b.nm, h.b.nv⟩, h.ap⟩
theorem noB_oc (q : OpT) : NoB (oc q) := fun u hu n e => by
  simp only [oc, List.mem_cons, List.not_mem_nil, or_false] at hu
  rcases hu with h | h | h | h | h | h | h | h | h | h <;> (rw [e] at h; simp at h)
/-- An own row of operations stays when a log is changed. -/
theorem own36_lw {w w' : World} {lb tb N : Nat} {v v' u : Value} {mo mo' : Option Nat} {L : List IT} {U : List ST} {O : List OpT} (h : w.ownsRow 0 38 10 u N (flat oc O)) (hw : Lw lb tb mo v w w' mo' v') (hL : LogAt w lb v tb mo L U) : w'.ownsRow 0 38 10 u N (flat oc O) :=
  ownsRow_block h fun k hk => by
    rcases h.2 with ⟨rfl, _⟩ | ⟨g, cap, cur, rfl, _, hg, _⟩
    · cases hk
    · have e1 : g = k := by simpa [Value.ownBlock] using hk
      subst e1
      exact hw.typ hL hg (by decide) (by decide) (by decide)
theorem firstOf_eq {O l : List OpT} (h : FirstOf O l) (hs : l.Pairwise LtO) : O = l := by
  refine strict_uniq _ _ h.str hs fun x => ⟨fun hx => h.mem hx, fun hx => ?_⟩
  have h1 := h.one x.a
  have hm : x ∈ l.filter (atK x.a) := List.mem_filter.2 ⟨hx, decide_eq_true rfl⟩
  cases hf : l.filter (atK x.a) with
  | nil => rw [hf] at hm; cases hm
  | cons y r =>
    have hy : y ∈ l.filter (atK x.a) := by rw [hf]; exact List.mem_cons_self
    obtain ⟨hy1, hy2⟩ := List.mem_filter.1 hy
    have e : y = x := str_one hs hy1 hx (of_decide_eq_true hy2)
    have : y ∈ O.filter (atK x.a) := by rw [h1, hf]; exact List.mem_cons_self
    rw [e] at this
    exact (List.mem_filter.1 this).1
theorem bare_str {O : List OpT} {U : List ST} (h : O.map bare = Ob U) (hs : StrS U) : O.Pairwise LtO := by
  have := ob_str hs
  rw [← h] at this
  exact (List.pairwise_map.1 this).imp fun {a b} q => q
/-- What Build makes of a log's operations is the log's tree. -/
theorem build_same {w : World} {lb tb : Nat} {v : Value} {mo : Option Nat} {L L2 : List IT} {U : List ST} {O O2 : List OpT} (h : LogAt w lb v tb mo L U) (e : O.map bare = Ob U) (ho : ∀ q ∈ O, Okv q) (hf : FirstOf O2 O) (hl : L2.map IT.m = buildM [] O2) : L.map IT.m = L2.map IT.m := by
  rw [hl, firstOf_eq hf (bare_str e h.str)]
  exact h.lstB e ho
/-- An exchange of two of a list turns no membership. -/
theorem swap_mem {m : List OpT} {b : Nat} {x y : OpT} (hx : m[0]? = some x) (hy : m[b]? = some y) (q : OpT) : q ∈ (m.set 0 y).set b x ↔ q ∈ m := by
  obtain ⟨h0, e0⟩ := List.getElem?_eq_some_iff.1 hx
  obtain ⟨hb, eb⟩ := List.getElem?_eq_some_iff.1 hy
  constructor
  · intro h
    rcases List.mem_or_eq_of_mem_set h with h | rfl
    · rcases List.mem_or_eq_of_mem_set h with h | rfl
      · exact h
      · rw [← eb]; exact List.getElem_mem hb
    · rw [← e0]; exact List.getElem_mem h0
  · intro h
    obtain ⟨i, hi, e⟩ := List.getElem_of_mem h
    by_cases hib : i = b
    · by_cases hb0 : b = 0
      · subst hb0
        have : x = q := by rw [← e0, ← e]; congr 1; exact hib.symm
        rw [← this]
        exact List.mem_of_getElem? (i := 0) (by rw [List.getElem?_set_self (by simpa using h0)])
      · have : y = q := by rw [← eb, ← e]; congr 1; exact hib.symm
        rw [← this]
        exact List.mem_of_getElem? (i := 0) (by rw [List.getElem?_set_ne hb0, List.getElem?_set_self h0])
    · by_cases hi0 : i = 0
      · have : x = q := by rw [← e0, ← e]; congr 1; exact hi0.symm
        rw [← this]
        exact List.mem_of_getElem? (i := b) (by rw [List.getElem?_set_self (by simpa using hb)])
      · exact List.mem_of_getElem? (i := i) (by rw [List.getElem?_set_ne (fun e => hib e.symm), List.getElem?_set_ne (fun e => hi0 e.symm), List.getElem?_eq_getElem hi, e])
end
end Go.Proofs.YthnjbjlhfohpfaaGreat
