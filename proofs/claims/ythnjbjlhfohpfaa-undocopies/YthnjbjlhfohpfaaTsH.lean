/-
  What stays when a row of operations is turned; what Build makes of operations in order.
  A log that is being copied: what stands so far.
  The law's own: an item, and items, of the program as the document's.
-/
import Derived.Test.YthnjbjlhfohpfaaUdH
import Derived.Test.YthnjbjlhfohpfaaUdX
import Derived.Test.YthnjbjlhfohpfaaUdY
import Derived.Test.YthnjbjlhfohpfaaTsF
namespace Go.Proofs.Ythnjbjlhfohpfaa
section
set_option linter.unusedVariables false
set_option linter.unusedSimpArgs false
set_option synthInstance.maxSize 20000
set_option maxHeartbeats 2000000
set_option maxRecDepth 20000
open Go.RowKit Go.Maps

theorem splice_out {vs xs : List Value} {o p : Nat} (h : o + xs.length ≤ vs.length) (hp : p < o ∨ o + xs.length ≤ p) : (splice vs o xs)[p]? = vs[p]? := by
  unfold splice
  rcases hp with hp | hp
  · rw [List.getElem?_append_left (by simp; omega), List.getElem?_take_of_lt hp]
  · rw [List.getElem?_append_right (by simp; omega), List.getElem?_append_right (by simp; omega), List.getElem?_drop]
    congr 1
    simp
    omega
/-- Bytes lie in no cell that held none. -/
theorem rd_setCells {w : World} {g off : Nat} {e : TypeId} {vs xs ys : List Value} {v : Value} {l : List Int} (hr : Rd w v l) (hb : Blk w g e vs) (hold : w.rangeAt g off ys) (hn : NoB ys) (hlen : xs.length = ys.length) (hl : off + xs.length ≤ vs.length) : Rd (w.setCells g off xs) v l := by
  have hg : w.grownBy (w.setCells g off xs) (some g) := grown_setCells g _ _ _
  have hb2 := Blk.setCells hb off xs hl
  obtain ⟨ho, a, cap, rfl, h1, h2, h3, h4⟩ := hr
  refine ⟨ho, a, cap, rfl, h1, h2, h3, fun hp => ?_⟩
  obtain ⟨b, o', rfl, hc⟩ := h4 hp
  refine ⟨b, o', rfl, fun j hj => ?_⟩
  have hcj := hc j hj
  by_cases e1 : b = g
  · subst e1
    have hv : vs[o' + j]? = some (.int .u8 (l.getD j 0)) := by
      have hbb : w.heap[b]? = some (.cells vs.toArray e (0, 0)) := hb
      simp [World.cell?, hbb] at hcj
      simpa using hcj
    have hout : o' + j < off ∨ off + xs.length ≤ o' + j := by
      apply Classical.byContradiction
      intro hno
      obtain ⟨q, hq⟩ : ∃ q, o' + j = off + q := ⟨o' + j - off, by omega⟩
      have hql : q < ys.length := by omega
      have h5 := hold q _ (List.getElem?_eq_getElem hql)
      rw [← hq, hcj] at h5
      exact hn _ (List.getElem_mem hql) _ (Option.some.inj h5).symm
    exact hb2.cell (o' + j) _ (by rw [splice_out hl hout]; exact hv)
  · have hlt : b < w.heap.size := by
      apply Classical.byContradiction
      intro hn'
      have : w.heap[b]? = none := Array.getElem?_eq_none (by omega)
      simp [World.cell?, this] at hcj
    exact (World.cell?_of_block (a := ⟨b, o' + j, none⟩) (hg.block b hlt (fun e => e1 (Option.some.inj e)))).trans hcj
section
variable {w w' : World} {lb tb g : Nat} {v : Value} {mo : Option Nat} {L : List IT} {U : List ST} {e : TypeId} {vs : List Value}
theorem LogAt.pastRow (h : LogAt w lb v tb mo L U) (hg : w.grownBy w' (some g)) (hb : Blk w g e vs) (h1 : e ≠ 68) (h2 : e ≠ 84) (h3 : e ≠ 76) (hrd : ∀ {u : Value} {l : List Int}, Rd w u l → Rd w' u l) : LogAt w' lb v tb mo L U := by
  obtain ⟨n1, n2, n3, n4⟩ := h.other (show w.heap[g]? = some (.cells _ e (0, 0)) from hb) h1 h2 h3
  refine ⟨h.blk.past hg (fun e => n1 e.symm), h.row.block fun k hk => hg.block k (h.row.lt hk) (fun e => by cases e; exact n4 hk), ⟨h.tree.blk.past hg (fun e => n2 e.symm), h.tree.mp.imp id (fun ⟨mb, e, hm⟩ => ⟨mb, e, hm.block (hg.block mb hm.lt (fun e2 => n3 (by rw [e]; exact e2.symm ▸ rfl)))⟩), h.tree.ok, fun z hz => hrd (h.tree.rd z hz), h.tree.srt, h.tree.few⟩, h.lst, h.dn, h.str, fun s hs => ?_, h.few⟩
  have := h.ok s hs
  exact ⟨this.right, hrd this.rq, this.lq, hrd this.rx, this.lx, this.sp⟩
end
theorem Duo.pastRow {B : Nat} {w w' : World} {la ta lb tb g : Nat} {va vb : Value} {ma mb : Option Nat} {LA LB : List IT} {UA UB : List ST} {e : TypeId} {vs : List Value} (h : Duo B w la va ta ma LA UA lb vb tb mb LB UB) (hg : w.grownBy w' (some g)) (hb : Blk w g e vs) (h1 : e ≠ 68) (h2 : e ≠ 84) (h3 : e ≠ 76) (hrd : ∀ {u : Value} {l : List Int}, Rd w u l → Rd w' u l) : Duo B w' la va ta ma LA UA lb vb tb mb LB UB :=
  ⟨⟨h.a.at_.pastRow hg hb h1 h2 h3 hrd, h.a.nl, h.a.nt, h.a.nm, h.a.nv⟩, ⟨h.b.at_.pastRow hg hb h1 h2 h3 hrd, h.b.nl, h.b.nt, h.b.nm, h.b.nv⟩, h.ap⟩
theorem noB_oc (q : OpT) : NoB (oc q) := fun u hu n e => by
  simp only [oc, List.mem_cons, List.not_mem_nil, or_false] at hu
  rcases hu with h | h | h | h | h | h | h | h | h | h <;> (rw [e] at h; simp at h)
/-- An own row of operations stays when a log is changed. -/
theorem own36_lw {w w' : World} {lb tb N : Nat} {v v' u : Value} {mo mo' : Option Nat} {L : List IT} {U : List ST} {O : List OpT} (h : w.ownsRow 0 36 10 u N (flat oc O)) (hw : Lw lb tb mo v w w' mo' v') (hL : LogAt w lb v tb mo L U) : w'.ownsRow 0 36 10 u N (flat oc O) :=
  ownsRow_block h fun k hk => by
    rcases h.2 with ⟨rfl, _⟩ | ⟨g, cap, cur, rfl, _, hg, _⟩
    · cases hk
    · have e1 : g = k := by simpa [Value.ownBlock] using hk
      subst e1
      exact hw.typ hL hg (by decide) (by decide) (by decide)
theorem firstOf_eq {O l : List OpT} (h : FirstOf O l) (hs : l.Pairwise LtO) : O = l := by
  refine strict_uniq _ _ h.str hs fun x => ⟨fun hx => h.mem hx, fun hx => ?_⟩
  have h1 := h.one x.a
  have hm : x ∈ l.filter (atK x.a) := List.mem_filter.2 ⟨hx, decide_eq_true rfl⟩
  cases hf : l.filter (atK x.a) with
  | nil => rw [hf] at hm; cases hm
  | cons y r =>
    have hy : y ∈ l.filter (atK x.a) := by rw [hf]; exact List.mem_cons_self
    obtain ⟨hy1, hy2⟩ := List.mem_filter.1 hy
    have e : y = x := str_one hs hy1 hx (of_decide_eq_true hy2)
    have : y ∈ O.filter (atK x.a) := by rw [h1, hf]; exact List.mem_cons_self
    rw [e] at this
    exact (List.mem_filter.1 this).1
theorem bare_str {O : List OpT} {U : List ST} (h : O.map bare = Ob U) (hs : StrS U) : O.Pairwise LtO := by
  have := ob_str hs
  rw [← h] at this
  exact (List.pairwise_map.1 this).imp fun {a b} q => q
/-- What Build makes of a log's operations is the log's tree. -/
theorem build_same {w : World} {lb tb : Nat} {v : Value} {mo : Option Nat} {L L2 : List IT} {U : List ST} {O O2 : List OpT} (h : LogAt w lb v tb mo L U) (e : O.map bare = Ob U) (ho : ∀ q ∈ O, Okv q) (hf : FirstOf O2 O) (hl : L2.map IT.m = buildM [] O2) : L.map IT.m = L2.map IT.m := by
  rw [hl, firstOf_eq hf (bare_str e h.str)]
  exact h.lstB e ho
/-- An exchange of two of a list turns no membership. -/
theorem swap_mem {m : List OpT} {b : Nat} {x y : OpT} (hx : m[0]? = some x) (hy : m[b]? = some y) (q : OpT) : q ∈ (m.set 0 y).set b x ↔ q ∈ m := by
  obtain ⟨h0, e0⟩ := List.getElem?_eq_some_iff.1 hx
  obtain ⟨hb, eb⟩ := List.getElem?_eq_some_iff.1 hy
  constructor
  · intro h
    rcases List.mem_or_eq_of_mem_set h with h | rfl
    · rcases List.mem_or_eq_of_mem_set h with h | rfl
      · exact h
      · rw [← eb]; exact List.getElem_mem hb
    · rw [← e0]; exact List.getElem_mem h0
  · intro h
    obtain ⟨i, hi, e⟩ := List.getElem_of_mem h
    by_cases hib : i = b
    · by_cases hb0 : b = 0
      · subst hb0
        have : x = q := by rw [← e0, ← e]; congr 1; exact hib.symm
        rw [← this]
        exact List.mem_of_getElem? (i := 0) (by rw [List.getElem?_set_self (by simpa using h0)])
      · have : y = q := by rw [← eb, ← e]; congr 1; exact hib.symm
        rw [← this]
        exact List.mem_of_getElem? (i := 0) (by rw [List.getElem?_set_ne hb0, List.getElem?_set_self h0])
    · by_cases hi0 : i = 0
      · have : x = q := by rw [← e0, ← e]; congr 1; exact hi0.symm
        rw [← this]
        exact List.mem_of_getElem? (i := b) (by rw [List.getElem?_set_self (by simpa using hb)])
      · exact List.mem_of_getElem? (i := i) (by rw [List.getElem?_set_ne (fun e => hib e.symm), List.getElem?_set_ne (fun e => hi0 e.symm), List.getElem?_eq_getElem hi, e])
end

section
set_option linter.unusedVariables false
set_option linter.unusedSimpArgs false
set_option synthInstance.maxSize 20000
set_option maxHeartbeats 2000000
set_option maxRecDepth 20000
open Go.RowKit Go.Maps

/-! ### By lists -/
/-- What a step's copy keeps. -/
def kS (s : ST) : OpT × IM × Bool := (bare s.q, s.x.m, s.b)
theorem key_ob {U T : List ST} (h : T.map kS = U.map kS) : Ob T = Ob U := by
  have := congrArg (List.map Prod.fst) h
  simpa [Ob, opsS, kS, List.map_map, Function.comp_def] using this
theorem key_mem {U T : List ST} (h : T.map kS = U.map kS) {t : ST} (ht : t ∈ T) : ∃ s ∈ U, kS t = kS s := by
  have : kS t ∈ U.map kS := by rw [← h]; exact List.mem_map.2 ⟨t, ht, rfl⟩
  obtain ⟨s, hs, e⟩ := List.mem_map.1 this
  exact ⟨s, hs, e.symm⟩
theorem key_dn : ∀ {T U : List ST} {M : List IM}, T.map kS = U.map kS → (∀ t ∈ T, Okv t.q) → (∀ s ∈ U, Okv s.q) → Dn M U → Dn M T
  | [], [], _, _, _, _, _ => trivial
  | [], _ :: _, _, h, _, _, _ => by cases h
  | _ :: _, [], _, h, _, _, _ => by cases h
  | t :: T, s :: U, M, h, h1, h2, hd => by
    simp only [List.map_cons, List.cons.injEq] at h
    have e := h.1
    unfold kS at e
    simp only [Prod.mk.injEq] at e
    obtain ⟨e1, e2, e3⟩ := e
    have en : t.q.n = s.q.n := (show (bare t.q).n = (bare s.q).n from by rw [e1])
    refine ⟨⟨?_, ?_⟩, ?_⟩
    · rw [e3, en]; exact hd.1.b
    · rw [e2, en]; exact hd.1.x
    · rw [do_bare e1 (h1 t List.mem_cons_self) (h2 s List.mem_cons_self)]
      exact key_dn h.2 (fun t ht => h1 t (List.mem_cons_of_mem _ ht)) (fun s hs => h2 s (List.mem_cons_of_mem _ hs)) hd.2
theorem key_str {T U : List ST} (h : T.map kS = U.map kS) (hs : StrS U) : StrS T := by
  have e : T.map (fun s => s.q.a) = U.map (fun s => s.q.a) := by
    have := congrArg (List.map fun p : OpT × IM × Bool => p.1.a) h
    simpa [kS, bare, List.map_map, Function.comp_def] using this
  have h1 : (U.map fun s => s.q.a).Pairwise ltP := List.pairwise_map.2 (hs.imp fun {a b} h => h)
  rw [← e] at h1
  exact (List.pairwise_map.1 h1).imp fun {a b} h => h
theorem right_bare {q r : OpT} (h : bare q = bare r) (hq : Okv q) (hr : Okv r) : rightO q = rightO r := by
  obtain ⟨k, a, n, p, d, s, va, vn, vc, b⟩ := q
  obtain ⟨k', a', n', p', d', s', va', vn', vc', b'⟩ := r
  unfold bare at h
  simp only [OpT.mk.injEq, and_true, true_and] at h
  obtain ⟨rfl, rfl, rfl, rfl, rfl, rfl, rfl⟩ := h
  have e : vn = vn' := hq.trans hr.symm
  subst e
  rfl
theorem putM_snoc {L : List IM} {x : IM} (h : ∀ y ∈ L, ltP y.n x.n) : putM L x = L ++ [x] := by
  unfold putM
  rw [show L.filter (ahead x.n) = L from List.filter_eq_self.2 (fun y hy => decide_eq_true (h y hy)), show L.filter (behind x.n) = [] from List.filter_eq_nil_iff.2 (fun y hy e => ltP_irrefl x.n (ltP_trans (of_decide_eq_true e) (h y hy)))]
theorem put_take {L : List IM} (h : SrtI L) {k : Nat} {x : IM} (hx : L[k]? = some x) : setM (L.take k) x true = L.take (k + 1) := by
  obtain ⟨hi, e⟩ := List.getElem?_eq_some_iff.1 hx
  show putM (L.take k) x = _
  rw [putM_snoc fun y hy => ?_, List.take_succ_eq_append_getElem hi, e]
  obtain ⟨i, hi2⟩ := List.getElem?_of_mem hy
  rw [List.getElem?_take] at hi2
  split at hi2
  · obtain ⟨h1, e1⟩ := List.getElem?_eq_some_iff.1 hi2
    have := List.pairwise_iff_getElem.1 h i k h1 hi (by omega)
    rw [e1, e] at this
    exact this
  · cases hi2
theorem build_right : ∀ (O : List OpT) (L : List IM), Gd L → L.length + O.length ≤ 300 → (∀ x ∈ L, rightB x.n = true) → ∀ x ∈ buildM L O, rightB x.n = true
  | [], L, _, _, h => h
  | q :: O, L, hG, hl, h => by
    have hl' : L.length ≤ 300 := by omega
    refine build_right O (doM L q) (hG.do hl') (by have := doM_len L q; simp at hl; omega) fun x hx => ?_
    unfold doM at hx
    split at hx
    · rename_i hr
      unfold stepM at hx
      split at hx
      · exact h x hx
      · rename_i y hy
        rcases (putM_mem hG.srt).1 hx with rfl | ⟨h1, _⟩
        · rw [chM_n hy]; exact (rightO_n hr).1
        · exact h x h1
    · exact h x hx
theorem LogAt.namesR {w : World} {lb tb : Nat} {v : Value} {mo : Option Nat} {L : List IT} {U : List ST} (h : LogAt w lb v tb mo L U) : ∀ x ∈ L, rightB x.m.n = true := fun x hx => by
  have h1 := build_right (opsS U) [] gd_nil (by have := h.few; simp [opsS]; omega) (fun x h => by cases h)
  rw [← h.lst] at h1
  exact h1 x.m (List.mem_map.2 ⟨x, hx, rfl⟩)
/-! ### In memory -/
/-- The copy so far: its blocks are all new. -/
structure Cy (B : Nat) (w : World) (lo : Nat) (v : Value) (tq : Nat) (mo : Option Nat) (L : List IT) (U T : List ST) : Prop where
  blk : Blk w lo 68 [v, ptr tq]
  row : SRow w v T
  tree : PTr w tq mo L
  key : T.map kS = U.map kS
  rd : ∀ t ∈ T, Rd w t.q.v t.q.b ∧ Rd w t.x.v t.x.m.b
  nl : B ≤ lo
  nt : B ≤ tq
  nm : ∀ k, mo = some k → B ≤ k
  nv : ∀ k, v.ownBlock = some k → B ≤ k
section
variable {B : Nat} {w0 w w' w8 : World} {lo tq : Nat} {v v' : Value} {mo mo' : Option Nat} {L L' : List IT} {U T : List ST} {x t : ST}
theorem Cy.below (h : Cy B w lo v tq mo L U T) (hb : Below w.heap.size w w') : Cy B w' lo v tq mo L U T := ⟨h.blk.below hb, h.row.below hb, h.tree.below hb, h.key, fun t ht => ⟨(h.rd t ht).1.below hb, (h.rd t ht).2.below hb⟩, h.nl, h.nt, h.nm, h.nv⟩
theorem cy_step (h : Cy w0.heap.size w lo v tq mo L U T) (hB : Below w0.heap.size w0 w) (hR : SRow w8 v' (T ++ [t])) (hG : w.grownBy w8 v.ownBlock) (hn : ∀ k, v'.ownBlock = some k → v.ownBlock = some k ∨ w.heap.size ≤ k) (hq : Rd w t.q.v t.q.b) (hx : Rd w t.x.v t.x.m.b) (hk : kS t = kS x) :
    Blk w8 lo 68 [v, ptr tq] ∧ Cy w0.heap.size (w8.setCell ⟨lo, 0, none⟩ v') lo v' tq mo L (U ++ [x]) (T ++ [t]) ∧ Below w0.heap.size w0 (w8.setCell ⟨lo, 0, none⟩ v') := by
  have h4 : Blk w8 lo 68 [v, ptr tq] := log_pastRow h.blk h.row hG
  have hP4 : PTr w8 tq mo L := h.tree.pastRow h.row hG
  have hg : w8.grownBy (w8.setCell ⟨lo, 0, none⟩ v') (some lo) := grown_setCell _ _ _ _
  have hnb : NoB [v, ptr tq] := fun u hu n e => by
    obtain ⟨a, c, hv⟩ := h.row.len
    rw [hv] at hu
    simp at hu
    rcases hu with rfl | rfl <;> cases e
  have ha := hP4.apart (h4.cell 1 _ rfl) (fun m => by simp)
  have hb8 : Below w0.heap.size w0 w8 := hB.grown hG hB.size h.nv
  refine ⟨h4, ⟨Blk.set h4 0 v', srow_pastLog hR h4 hg, ⟨hP4.blk.past hg (fun e => ha.1 e.symm), hP4.mp.imp id (fun ⟨mb, e, hm⟩ => ⟨mb, e, hm.block (hg.block mb hm.lt (fun e2 => ha.2 (by rw [e]; exact e2)))⟩), hP4.ok, fun z hz => rd_pastNoB (hP4.rd z hz) h4 hnb hg, hP4.srt, hP4.few⟩, by rw [List.map_append, List.map_append, h.key, List.map_singleton, List.map_singleton, hk], fun r hr => ?_, h.nl, h.nt, h.nm, fun k hk => ?_⟩, bgrown hb8 h.nl hg⟩
  · have past : ∀ {u : Value} {l : List Int}, Rd w u l → Rd (w8.setCell ⟨lo, 0, none⟩ v') u l := fun hr => rd_pastNoB (h.row.rdPast hr hG) h4 hnb hg
    rcases List.mem_append.1 hr with hr | hr
    · exact ⟨past (h.rd r hr).1, past (h.rd r hr).2⟩
    · rw [List.mem_singleton.1 hr]; exact ⟨past hq, past hx⟩
  · rcases hn k hk with e | e
    · exact h.nv k e
    · exact Nat.le_trans hB.size e
theorem Cy.tw (h : Cy w0.heap.size w lo v tq mo L U T) (hB : Below w0.heap.size w0 w) (ht : Tw tq mo w w' mo') (hP : PTr w' tq mo' L') : Cy w0.heap.size w' lo v tq mo' L' U T ∧ Below w0.heap.size w0 w' := by
  obtain ⟨e1, e2⟩ := ht.below hB h.nt h.nm
  refine ⟨⟨ht.blk h.tree h.blk (fun m e => ?_), h.row.tw ht h.tree, hP, h.key, fun t hr => ⟨ht.rd h.tree (h.rd t hr).1, ht.rd h.tree (h.rd t hr).2⟩, h.nl, h.nt, e2, h.nv⟩, e1⟩
  obtain ⟨a, c, hv⟩ := h.row.len
  rw [hv] at e
  cases e
/-- A full copy is a log. -/
theorem Cy.log {la ta : Nat} {va : Value} {ma : Option Nat} {LA : List IT} (h : Cy B w lo v tq mo L U T) (hA : LogAt w0 la va ta ma LA U) (hL : L.map IT.m = LA.map IT.m) : LogAt w lo v tq mo L T := by
  have hT : ∀ t ∈ T, Okv t.q := fun t ht => okv_of (h.rd t ht).1
  have hU : ∀ s ∈ U, Okv s.q := fun s hs => okv_of (hA.ok s hs).rq
  have hlen : T.length = U.length := by have := congrArg List.length h.key; simpa using this
  have hops : (opsS T).map bare = (opsS U).map bare := key_ob h.key
  refine ⟨h.blk, h.row, h.tree, ?_, key_dn h.key hT hU hA.dn, key_str h.key hA.str, fun t ht => ?_, by rw [hlen]; exact hA.few⟩
  · rw [hL, hA.lst]
    exact (build_bare hops (fun q hq => by obtain ⟨s, hs, rfl⟩ := List.mem_map.1 hq; exact hT s hs) (fun q hq => by obtain ⟨s, hs, rfl⟩ := List.mem_map.1 hq; exact hU s hs)).symm
  · obtain ⟨s, hs, e⟩ := key_mem h.key ht
    unfold kS at e
    simp only [Prod.mk.injEq] at e
    obtain ⟨e1, e2, e3⟩ := e
    have ok := hA.ok s hs
    have eb : t.q.b = s.q.b := (show (bare t.q).b = (bare s.q).b from by rw [e1])
    exact ⟨by rw [right_bare e1 (hT t ht) (hU s hs)]; exact ok.right, (h.rd t ht).1, by rw [eb]; exact ok.lq, (h.rd t ht).2, by rw [e2]; exact ok.lx, by rw [e2]; exact ok.sp⟩
end
/-- What a copied step is. -/
theorem CopyS.key {B : Nat} {w : World} {s t : ST} (h : CopyS B w s t) : kS t = kS s := by
  unfold kS
  rw [h.bq, h.xm, h.b]
end

section
set_option linter.unusedVariables false
set_option linter.unusedSimpArgs false
set_option synthInstance.maxSize 20000
set_option maxHeartbeats 2000000
set_option maxRecDepth 20000
open Go.RowKit Go.Maps

theorem exec_item41 {o : Oper} {r : Operand → Value} {w : World} {x : IT} (x0 x1 x2 x3 x4 x5 x6 : Operand) (ho : o.op = .build 88 #[(0, x0), (1, x1), (2, x2), (3, x3), (4, x4), (5, x5), (6, x6)]) (h0 : r x0 = sv x.m.n) (h1 : r x1 = sv x.m.p) (h2 : r x2 = .string x.m.s) (h3 : r x3 = .bool x.m.d) (h4 : r x4 = .bool x.m.g) (h5 : r x5 = .slice x.a x.vn x.vc) (h6 : r x6 = sv x.m.y) : (execOp r o).run Try.prog w = .ok (.value (iv x)) w := by
  obtain ⟨⟨⟨n1, n2⟩, ⟨p1, p2⟩, s, d, g, ⟨y1, y2⟩, b⟩, a, vn, vc⟩ := x
  unfold sv at h0 h1 h6
  unfold iv ic
  dsimp only at *
  unfold execOp
  simp only [ho]
  go_simp
theorem Itp.by {w : World} {b : Nat} {q : IT} (h : Itp w b q) : w.rangeAt b 8 (sc q.m.y) := Blk.range h 8 fun j u hj => by
  match j, hj with
  | 0, hj => exact hj
  | 1, hj => exact hj
  | j + 2, hj => simp [sc] at hj
theorem results14 : Try.f43.results = #[.cell 2 88] := rfl
theorem Itb.ret1 {w : World} {b : Nat} {q : IT} {v : Value} (h : Itb w b q) (h1 : v = ptr b) : (((asAddr v).run Try.prog w).andThen fun a w₁ => (loadVar 88 a).run Try.prog w₁) = .ok (iv q) w := by
  subst h1
  have e1 : (asAddr (ptr b)).run Try.prog w = .ok ⟨b, 0, none⟩ w := rfl
  rw [e1]
  simp only [Result.andThen_ok, h.load]
theorem item14 (x : IT) (w : World) : Calls Try.prog 43 #[iv x] w fun e w' => e = .returned (iv x) ∧ Below w.heap.size w w' := by
  obtain ⟨w1, hw1⟩ : ∃ w1, w1 = (w.alloc (.cells (ic x).toArray 59)).alloc (.cells (ic zT).toArray 88) := ⟨_, rfl⟩
  obtain ⟨B0, hB0⟩ : ∃ B0, B0 = w.heap.size := ⟨_, rfl⟩
  obtain ⟨B1, hB1⟩ : ∃ B1, B1 = w.heap.size + 1 := ⟨_, rfl⟩
  have HB1 : Hid (Below w.heap.size w w1) := by show Below _ _ _; rw [hw1]; exact balloc (balloc (Below.refl _ _) _) _
  have HX : Hid (Itp w1 B0 x) := by show Itp _ _ _; rw [hw1, hB0]; exact Blk.alloc (itp_new w x) _
  have HZ : Hid (Itb w1 B1 zT) := by
    show Itb _ _ _
    rw [hw1, hB1]
    have := itb_new (w.alloc (.cells (ic x).toArray 59)) zT
    simpa using this
  have HBB : Hid (w.heap.size ≤ B1) := by show _ ≤ _; omega
  have HXn : Hid (w1.rangeAt B0 0 (sc x.m.n)) := HX.out.node
  have HXp : Hid (w1.rangeAt B0 2 (sc x.m.p)) := HX.out.par
  have HXy : Hid (w1.rangeAt B0 8 (sc x.m.y)) := HX.out.by
  have c4 := Blk.cell HX.out 4 _ rfl
  have c5 := Blk.cell HX.out 5 _ rfl
  have c6 := Blk.cell HX.out 6 _ rfl
  have c7 := Blk.cell HX.out 7 _ rfl
  have HT : Hid (w1.there B1 0 10) := Itb.there HZ.out
  go_enter Try.func43, Try.ntmps43
  go_upto_region 1 with (first | (refine wpList_okw rfl (exec_box35 (q := x) (.tmp 0) rfl rfl) ?_) | (refine wpList_okw rfl (exec_alloc41 rfl) ?_))
  rw [← hw1, show (w.alloc (.cells (ic x).toArray 59)).heap.size = B1 from by rw [hB1]; simp]
  rw [← hB0]
  clear hw1 hB0 hB1
  have tk1 : Hid True := trivial
  go_wp2_with (first
    | (refine wpList_okw rfl (exec_load24n (n := x.m.n) (.tmp 3) rfl rfl HXn.out) ?_)
    | (refine wpList_okw rfl (exec_load24n (n := x.m.p) (.tmp 5) rfl rfl HXp.out) ?_)
    | (refine wpList_okw rfl (exec_load24n (n := x.m.y) (.tmp 15) rfl rfl HXy.out) ?_)
    | (clear tk1; refine wpList_okw rfl (exec_item41 (x := x) (.tmp 4) (.tmp 6) (.tmp 8) (.tmp 10) (.tmp 12) (.tmp 14) (.tmp 16) rfl rfl rfl rfl rfl rfl rfl rfl) ?_)
    | (refine wpList_skipw rfl (exec_store41 (q := x) (.tmp 2) (.tmp 17) rfl rfl rfl HT.out) ?_))
  have HP : Hid (Itb (w1.setCells B1 0 (ic x)) B1 x) := Itb.put HZ.out
  refine bodyPost_ret (v := iv x) ?_ rfl ⟨rfl, below_put HB1.out HBB.out⟩
  rw [results_cell1 results14]
  exact HP.out.ret1 rfl
theorem items16 {w : World} {v : Value} {O : List IT} (hv : RowF ic w v O) (few : O.length ≤ 1000) : Calls Try.prog 21 #[v] w fun e w' => ∃ v', e = .returned v' ∧ OwnT w.heap.size w' v' O ∧ Below w.heap.size w w' := by
  obtain ⟨a, c, rfl⟩ := hv.len
  have hcap := hv.caps
  have HV : Hid (RowF ic w (.slice a O.length c) O) := hv
  obtain ⟨N, hN⟩ : ∃ N, N = O.length := ⟨_, rfl⟩
  have HN : Hid (N = O.length) := hN
  rw [← hN] at HV hcap few ⊢
  clear hv hN
  go_enter Try.func21, Try.ntmps21
  go_wp2
  go_loopw [3, 4] (fun vo i wr => ∃ (k : Nat), i = .int .i64 (k : Int) ∧ k ≤ N ∧ Hid (OwnT w.heap.size wr vo (O.take k)) ∧ Hid (Below w.heap.size w wr)) (fun _ i _ => N - (intOf i).toNat)
  case atStart => exact ⟨0, rfl, Nat.zero_le _, ownT_nil _ _, Below.refl _ _⟩
  case round =>
    obtain ⟨k, rfl, hk, HO, HB⟩ := hrel
    rename World => wr
    by_cases hlt : k < N
    · have hkI : (k : Int) < (N : Int) := by omega
      obtain ⟨x, hx⟩ : ∃ x, O[k]? = some x := ⟨_, List.getElem?_eq_getElem (by have := HN.out; omega)⟩
      have HTA : Hid (O.take (k + 1) = O.take k ++ [x]) := by
        show _ = _
        obtain ⟨h1, h2⟩ := List.getElem?_eq_some_iff.1 hx
        rw [List.take_succ_eq_append_getElem h1, h2]
      have hfl : (O.take k).length ≤ 1000 := by rw [List.length_take]; omega
      obtain ⟨b1, o1, rfl, hc⟩ := (HV.out.below HB.out).at ic_len hx
      have HC : Hid (wr.rangeAt b1 (o1 + k * 10) (ic x)) := hc
      clear hc hx
      generalize hO : O.take k = T at HO HTA hfl
      clear hO
      have tk1 : Hid True := trivial
      have tk2 : Hid True := trivial
      have tk3 : Hid True := trivial
      go_wp2_with (first
        | (clear tk1; refine wpList_okw rfl (exec_load35 (q := x) (.tmp 14) rfl rfl HC.out) ?_)
        | (go_at_call 43; go_must (refine (item14 x _).mono ?_; rintro e w2 ⟨rfl, hb2⟩; have HB2 : Hid (Below wr.heap.size wr w2) := hb2; clear hb2; obtain ⟨w7, hw7⟩ : ∃ w7, w7 = w2.alloc (.cells (ic x).toArray 88) := ⟨_, rfl⟩; obtain ⟨p7, hp7⟩ : ∃ p7, p7 = w2.heap.size := ⟨_, rfl⟩; have HW7 : Hid (w7 = w2.alloc (.cells (ic x).toArray 88)) := hw7; have HP7 : Hid (p7 = w2.heap.size) := hp7; have HRW : Hid (RowF ic w7 (.slice (some ⟨p7, 0, none⟩) 1 1) [x]) := (show RowF _ _ _ _ from by rw [hw7, hp7]; exact rowF_one w2 x 88); have HB67 : Hid (Below w2.heap.size w2 w7) := (show Below _ _ _ from by rw [hw7]; exact balloc (Below.refl _ _) _); clear hw7 hp7; have HO7 : Hid (OwnT w.heap.size w7 _ T) := HO.out.below (bnext HB2.out HB67.out); have HBw7 : Hid (Below w.heap.size w w7) := bnext HB.out (bnext HB2.out HB67.out)))
        | (clear tk2; refine wpList_okw rfl (exec_build41 (q := x) (.tmp 16) rfl rfl) ?_; rw [← HW7.out, ← HP7.out])
        | (clear tk3; refine wpList_app41 rfl (.tmp 11) (.tmp 17) rfl _ T rfl HO7.out _ x rfl HRW.out (by omega) HBw7.out ?_; intro v8 w8 ho8 hb8 hg8; have HO8 : Hid (OwnT w.heap.size w8 v8 (T ++ [x])) := ho8; have HB8 : Hid (Below w.heap.size w w8) := hb8; clear ho8 hb8 hg8))
      go_roundw
      case rel => exact ⟨k + 1, by go_num, by omega, by show OwnT _ _ _ _; rw [HTA.out]; exact HO8.out, HB8⟩
      case measure => simp [intOf]; omega
    · have hkI : ¬ (k : Int) < (N : Int) := by omega
      have HTL : Hid (O.take k = O) := List.take_of_length_le (by have := HN.out; omega)
      go_wp2
      go_ret
      exact ⟨_, rfl, by rw [← HTL.out]; exact HO.out, HB.out⟩
end
end Go.Proofs.Ythnjbjlhfohpfaa
