/-
  What two logs hold: memberships alone.
  What stays when a row of operations is turned; what Build makes of operations in order.
-/
import Derived.Test.YthnjbjlhfohpfaaUdN
import Derived.Test.YthnjbjlhfohpfaaArgO
namespace Go.Proofs.Ythnjbjlhfohpfaa
section
set_option linter.unusedVariables false
set_option linter.unusedSimpArgs false
set_option synthInstance.maxSize 20000
set_option maxHeartbeats 2000000
set_option maxRecDepth 20000
open Go.RowKit Go.Maps

theorem LtO.asymm {x y : OpT} (h : LtO x y) (h2 : LtO y x) : False := ltP_asymm (show ltP x.a y.a from h) h2
theorem strict_uniq : ∀ (a b : List OpT), a.Pairwise LtO → b.Pairwise LtO → (∀ x, x ∈ a ↔ x ∈ b) → a = b
  | [], [], _, _, _ => rfl
  | [], y :: b, _, _, h => absurd ((h y).2 List.mem_cons_self) (by simp)
  | x :: a, [], _, _, h => absurd ((h x).1 List.mem_cons_self) (by simp)
  | x :: a, y :: b, ha, hb, h => by
    obtain ⟨a1, a2⟩ := List.pairwise_cons.1 ha
    obtain ⟨b1, b2⟩ := List.pairwise_cons.1 hb
    have e : x = y := by
      rcases List.mem_cons.1 ((h x).1 List.mem_cons_self) with e | hx
      · exact e
      · rcases List.mem_cons.1 ((h y).2 List.mem_cons_self) with e | hy
        · exact e.symm
        · exact absurd (a1 y hy) (fun q => LtO.asymm q (b1 x hx))
    subst e
    have hir : ¬ LtO x x := fun q => LtO.asymm q q
    rw [strict_uniq a b a2 b2 fun z => ⟨fun hz => ?_, fun hz => ?_⟩]
    · rcases List.mem_cons.1 ((h z).1 (List.mem_cons_of_mem _ hz)) with e | q
      · subst e; exact absurd (a1 z hz) hir
      · exact q
    · rcases List.mem_cons.1 ((h z).2 (List.mem_cons_of_mem _ hz)) with e | q
      · subst e; exact absurd (b1 z hz) hir
      · exact q
theorem ob_str {U : List ST} (h : StrS U) : (Ob U).Pairwise LtO := by
  unfold Ob opsS
  rw [List.map_map]
  exact List.pairwise_map.2 (h.imp fun {a b} q => q)
theorem ob_uniq {U T : List ST} (hs : StrS U) (ht : StrS T) (h : ∀ x, x ∈ Ob U ↔ x ∈ Ob T) : Ob U = Ob T := strict_uniq _ _ (ob_str hs) (ob_str ht) h
theorem str_one : ∀ {l : List OpT}, l.Pairwise LtO → ∀ {x y : OpT}, x ∈ l → y ∈ l → x.a = y.a → x = y
  | [], _, _, _, hx, _, _ => by cases hx
  | z :: l, h, x, y, hx, hy, e => by
    obtain ⟨h1, h2⟩ := List.pairwise_cons.1 h
    have irr : ∀ {p q : OpT}, LtO p q → p.a = q.a → False := fun {p q} h e => by
      have h' : ltP p.a q.a := h
      rw [e] at h'
      exact ltP_irrefl _ h'
    rcases List.mem_cons.1 hx with rfl | hx'
    · rcases List.mem_cons.1 hy with rfl | hy'
      · rfl
      · exact (irr (h1 y hy') e).elim
    · rcases List.mem_cons.1 hy with rfl | hy'
      · exact (irr (h1 x hx') e.symm).elim
      · exact str_one h2 hx' hy' e
theorem hasO_iff {O : List OpT} {a : S} : hasO a O = true ↔ ∃ q ∈ O, q.a = a := by
  unfold hasO
  rw [List.any_eq_true]
  exact ⟨fun ⟨q, h, e⟩ => ⟨q, h, of_decide_eq_true e⟩, fun ⟨q, h, e⟩ => ⟨q, h, decide_eq_true e⟩⟩
theorem hasO_no {O : List OpT} {a : S} (h : hasO a O = false) : ∀ q ∈ O, q.a ≠ a := fun q hq e => by
  rw [hasO_iff.2 ⟨q, hq, e⟩] at h
  cases h
theorem lo_hi_mem {O : List OpT} {a : S} {x : OpT} : (x ∈ loO a O ∨ x ∈ hiO a O) ↔ (x ∈ O ∧ x.a ≠ a) := by
  unfold loO hiO
  rw [List.mem_filter, List.mem_filter]
  constructor
  · rintro (⟨h1, h2⟩ | ⟨h1, h2⟩)
    · exact ⟨h1, fun e => ltP_irrefl a (by have := of_decide_eq_true h2; rwa [e] at this)⟩
    · exact ⟨h1, fun e => ltP_irrefl a (by have := of_decide_eq_true h2; rwa [e] at this)⟩
  · rintro ⟨h1, h2⟩
    by_cases h : ltP x.a a
    · exact .inl ⟨h1, decide_eq_true h⟩
    · refine .inr ⟨h1, decide_eq_true ?_⟩
      apply Classical.byContradiction
      intro h3
      exact h2 (ltP_total h h3)
section
variable {U T : List ST} {q : OpT} {a : S} {n k : Int}
theorem InsB.mem (h : InsB U q T n k) : (rightO q = false ∧ T = U) ∨ (rightO q = true ∧ hasO q.a (Ob U) = true ∧ T = U) ∨ (rightO q = true ∧ hasO q.a (Ob U) = false ∧ ∀ x, x ∈ Ob T ↔ x = bare q ∨ x ∈ Ob U) := by
  rcases h with ⟨h1, _, _, h2⟩ | ⟨h1, ⟨h2, _, _, h3⟩ | ⟨h2, _, h3, _⟩⟩
  · exact .inl ⟨h1, h2⟩
  · exact .inr (.inl ⟨h1, h2, h3⟩)
  · refine .inr (.inr ⟨h1, h2, fun x => ?_⟩)
    rw [h3, List.mem_append, List.mem_cons]
    have := lo_hi_mem (O := Ob U) (a := q.a) (x := x)
    constructor
    · rintro (h | h | h)
      · exact .inr (this.1 (.inl h)).1
      · exact .inl h
      · exact .inr (this.1 (.inr h)).1
    · rintro (h | h)
      · exact .inr (.inl h)
      · rcases this.2 ⟨h, hasO_no h2 x h⟩ with h | h
        · exact .inl h
        · exact .inr (.inr h)
theorem lo_hi_len (a : S) : ∀ O : List OpT, (loO a O).length + (hiO a O).length ≤ O.length
  | [] => Nat.le_refl _
  | x :: O => by
    have ih := lo_hi_len a O
    have e1 : loO a (x :: O) = if ltP x.a a then x :: loO a O else loO a O := by
      unfold loO; rw [List.filter_cons]; by_cases h : ltP x.a a <;> simp [h]
    have e2 : hiO a (x :: O) = if ltP a x.a then x :: hiO a O else hiO a O := by
      unfold hiO; rw [List.filter_cons]; by_cases h : ltP a x.a <;> simp [h]
    rw [e1, e2]
    by_cases h1 : ltP x.a a
    · rw [if_pos h1, if_neg (ltP_asymm h1)]; simp; omega
    · rw [if_neg h1]; split <;> simp <;> omega
theorem InsB.len (h : InsB U q T n k) : T.length ≤ U.length + 1 := by
  rcases h with ⟨_, _, _, rfl⟩ | ⟨_, ⟨_, _, _, rfl⟩ | ⟨_, _, h3, _⟩⟩
  · omega
  · omega
  · have := congrArg List.length h3
    have h4 := lo_hi_len q.a (Ob U)
    simp only [List.length_append, List.length_cons, Ob_len] at this h4
    omega
theorem RemB.mem (h : RemB U a T n k) (x : OpT) : x ∈ Ob T ↔ x ∈ Ob U ∧ x.a ≠ a := by
  rcases h with ⟨h1, _, _, rfl⟩ | ⟨_, _, h3, _⟩
  · exact ⟨fun h => ⟨h, hasO_no h1 x h⟩, fun h => h.1⟩
  · rw [h3, List.mem_append]
    exact lo_hi_mem
theorem RemB.len (h : RemB U a T n k) : T.length ≤ U.length := by
  rcases h with ⟨_, _, _, rfl⟩ | ⟨_, _, h3, _⟩
  · exact Nat.le_refl _
  · have := congrArg List.length h3
    have h4 := lo_hi_len a (Ob U)
    simp only [List.length_append, Ob_len] at this h4
    omega
end
/-! ### The law on two logs -/
/-- The first log holds the right ones of O. -/
def HoldA (O : List OpT) (U : List ST) : Prop := ∀ x, x ∈ Ob U ↔ ∃ q ∈ O, rightO q = true ∧ bare q = x
theorem HoldA.snoc {O : List OpT} {U T : List ST} {q : OpT} {n k : Int} (h : HoldA O U) (hd : ∀ p ∈ O, p.a ≠ q.a) (hi : InsB U q T n k) : HoldA (O ++ [q]) T := fun x => by
  rcases hi.mem with ⟨h1, rfl⟩ | ⟨h1, h2, _⟩ | ⟨h1, _, h3⟩
  · rw [h x]
    constructor
    · rintro ⟨p, hp, r⟩; exact ⟨p, List.mem_append_left _ hp, r⟩
    · rintro ⟨p, hp, r1, r2⟩
      rcases List.mem_append.1 hp with hp | hp
      · exact ⟨p, hp, r1, r2⟩
      · obtain rfl : p = q := by simpa using hp
        rw [h1] at r1; cases r1
  · obtain ⟨p, hp, e⟩ := hasO_iff.1 h2
    obtain ⟨p', hp', _, rfl⟩ := (h p).1 hp
    exact absurd e (hd p' hp')
  · rw [h3 x, h x]
    constructor
    · rintro (rfl | ⟨p, hp, r⟩)
      · exact ⟨q, List.mem_append_right _ List.mem_cons_self, h1, rfl⟩
      · exact ⟨p, List.mem_append_left _ hp, r⟩
    · rintro ⟨p, hp, r1, r2⟩
      rcases List.mem_append.1 hp with hp | hp
      · exact .inr ⟨p, hp, r1, r2⟩
      · obtain rfl : p = q := by simpa using hp
        exact .inl r2.symm
/-- The second log while others come: X: those of it that are not the first one's have such times; Y: what must be there. -/
structure HoldB (UA UB : List ST) (X : List OpT) (Y : List OpT) : Prop where
  x : ∀ p ∈ Ob UB, p ∈ Ob UA ∨ (hasO p.a (Ob UA) = false ∧ ∃ r ∈ X, r.a = p.a)
  y : ∀ q ∈ Y, rightO q = true → bare q ∈ Ob UB
theorem HoldB.more {UA UB T : List ST} {X Y : List OpT} {q : OpT} {n k : Int} (h : HoldB UA UB X Y) (hn : hasO q.a (Ob UA) = false) (hq : q ∈ X) (hi : InsB UB q T n k) : HoldB UA T X Y := by
  rcases hi.mem with ⟨_, rfl⟩ | ⟨_, _, rfl⟩ | ⟨_, _, h3⟩
  · exact h
  · exact h
  · refine ⟨fun p hp => ?_, fun p hp hr => (h3 _).2 (.inr (h.y p hp hr))⟩
    rcases (h3 p).1 hp with rfl | hp
    · exact .inr ⟨hn, q, hq, rfl⟩
    · exact h.x p hp
theorem HoldB.own {UA UB T : List ST} {X Y : List OpT} {q : OpT} {n k : Int} (h : HoldB UA UB X Y) (hA : StrS UA) (hq : rightO q = true → bare q ∈ Ob UA) (hi : InsB UB q T n k) : HoldB UA T X (Y ++ [q]) := by
  have old : ∀ {V : List ST}, (∀ p ∈ Ob UB, p ∈ Ob V) → (rightO q = true → bare q ∈ Ob V) → ∀ p ∈ Y ++ [q], rightO p = true → bare p ∈ Ob V := fun {V} h1 h2 p hp hr => by
    rcases List.mem_append.1 hp with hp | hp
    · exact h1 _ (h.y p hp hr)
    · obtain rfl : p = q := by simpa using hp
      exact h2 hr
  rcases hi.mem with ⟨h1, rfl⟩ | ⟨h1, h2, rfl⟩ | ⟨h1, _, h3⟩
  · exact ⟨h.x, old (fun p hp => hp) (fun hr => by rw [h1] at hr; cases hr)⟩
  · refine ⟨h.x, old (fun p hp => hp) (fun hr => ?_)⟩
    obtain ⟨p, hp, e⟩ := hasO_iff.1 h2
    have hqa := hq h1
    rcases h.x p hp with r | ⟨r, _⟩
    · rw [str_one (ob_str hA) hqa r (show (bare q).a = p.a from e.symm)]; exact hp
    · exact absurd e.symm (hasO_no r (bare q) hqa)
  · refine ⟨fun p hp => ?_, old (fun p hp => (h3 p).2 (.inr hp)) (fun _ => (h3 _).2 (.inl rfl))⟩
    rcases (h3 p).1 hp with rfl | hp
    · exact .inl (hq h1)
    · exact h.x p hp
/-- The second log while others go. -/
structure HoldC (UA UB : List ST) (X : List OpT) : Prop where
  x : ∀ p ∈ Ob UB, p ∈ Ob UA ∨ (hasO p.a (Ob UA) = false ∧ ∃ r ∈ X, r.a = p.a)
  y : ∀ p ∈ Ob UA, p ∈ Ob UB
theorem HoldC.keep {UA UB : List ST} {X : List OpT} {q : OpT} (h : HoldC UA UB (q :: X)) (hn : hasO q.a (Ob UA) = true) : HoldC UA UB X := by
  refine ⟨fun p hp => ?_, h.y⟩
  rcases h.x p hp with r | ⟨r, r', hr, e⟩
  · exact .inl r
  · rcases List.mem_cons.1 hr with rfl | hr
    · rw [e, r] at hn; cases hn
    · exact .inr ⟨r, r', hr, e⟩
theorem HoldC.go {UA UB T : List ST} {X : List OpT} {q : OpT} {n k : Int} (h : HoldC UA UB (q :: X)) (hn : hasO q.a (Ob UA) = false) (hi : RemB UB q.a T n k) : HoldC UA T X := by
  refine ⟨fun p hp => ?_, fun p hp => (hi.mem p).2 ⟨h.y p hp, hasO_no hn p hp⟩⟩
  obtain ⟨h1, h2⟩ := (hi.mem p).1 hp
  rcases h.x p h1 with r | ⟨r, r', hr, e⟩
  · exact .inl r
  · rcases List.mem_cons.1 hr with rfl | hr
    · exact absurd e.symm h2
    · exact .inr ⟨r, r', hr, e⟩
theorem HoldC.eq {UA UB : List ST} (h : HoldC UA UB []) (hA : StrS UA) (hB : StrS UB) : Ob UA = Ob UB := ob_uniq hA hB fun x => ⟨h.y x, fun hx => by
  rcases h.x x hx with r | ⟨_, r, hr, _⟩
  · exact r
  · cases hr⟩
end

section
set_option linter.unusedVariables false
set_option linter.unusedSimpArgs false
set_option synthInstance.maxSize 20000
set_option maxHeartbeats 2000000
set_option maxRecDepth 20000
open Go.RowKit Go.Maps

theorem splice_out {vs xs : List Value} {o p : Nat} (h : o + xs.length ≤ vs.length) (hp : p < o ∨ o + xs.length ≤ p) : (splice vs o xs)[p]? = vs[p]? := by
  unfold splice
  rcases hp with hp | hp
  · rw [List.getElem?_append_left (by simp; omega), List.getElem?_take_of_lt hp]
  · rw [List.getElem?_append_right (by simp; omega), List.getElem?_append_right (by simp; omega), List.getElem?_drop]
    congr 1
    simp
    omega
/-- Bytes lie in no cell that held none. -/
theorem rd_setCells {w : World} {g off : Nat} {e : TypeId} {vs xs ys : List Value} {v : Value} {l : List Int} (hr : Rd w v l) (hb : Blk w g e vs) (hold : w.rangeAt g off ys) (hn : NoB ys) (hlen : xs.length = ys.length) (hl : off + xs.length ≤ vs.length) : Rd (w.setCells g off xs) v l := by
  have hg : w.grownBy (w.setCells g off xs) (some g) := grown_setCells g _ _ _
  have hb2 := Blk.setCells hb off xs hl
  obtain ⟨ho, a, cap, rfl, h1, h2, h3, h4⟩ := hr
  refine ⟨ho, a, cap, rfl, h1, h2, h3, fun hp => ?_⟩
  obtain ⟨b, o', rfl, hc⟩ := h4 hp
  refine ⟨b, o', rfl, fun j hj => ?_⟩
  have hcj := hc j hj
  by_cases e1 : b = g
  · subst e1
    have hv : vs[o' + j]? = some (.int .u8 (l.getD j 0)) := by
      have hbb : w.heap[b]? = some (.cells vs.toArray e (0, 0)) := hb
      simp [World.cell?, hbb] at hcj
      simpa using hcj
    have hout : o' + j < off ∨ off + xs.length ≤ o' + j := by
      apply Classical.byContradiction
      intro hno
      obtain ⟨q, hq⟩ : ∃ q, o' + j = off + q := ⟨o' + j - off, by omega⟩
      have hql : q < ys.length := by omega
      have h5 := hold q _ (List.getElem?_eq_getElem hql)
      rw [← hq, hcj] at h5
      exact hn _ (List.getElem_mem hql) _ (Option.some.inj h5).symm
    exact hb2.cell (o' + j) _ (by rw [splice_out hl hout]; exact hv)
  · have hlt : b < w.heap.size := by
      apply Classical.byContradiction
      intro hn'
      have : w.heap[b]? = none := Array.getElem?_eq_none (by omega)
      simp [World.cell?, this] at hcj
    exact (World.cell?_of_block (a := ⟨b, o' + j, none⟩) (hg.block b hlt (fun e => e1 (Option.some.inj e)))).trans hcj
section
variable {w w' : World} {lb tb g : Nat} {v : Value} {mo : Option Nat} {L : List IT} {U : List ST} {e : TypeId} {vs : List Value}
theorem LogAt.pastRow (h : LogAt w lb v tb mo L U) (hg : w.grownBy w' (some g)) (hb : Blk w g e vs) (h1 : e ≠ 68) (h2 : e ≠ 84) (h3 : e ≠ 76) (hrd : ∀ {u : Value} {l : List Int}, Rd w u l → Rd w' u l) : LogAt w' lb v tb mo L U := by
  obtain ⟨n1, n2, n3, n4⟩ := h.other (show w.heap[g]? = some (.cells _ e (0, 0)) from hb) h1 h2 h3
  refine ⟨h.blk.past hg (fun e => n1 e.symm), h.row.block fun k hk => hg.block k (h.row.lt hk) (fun e => by cases e; exact n4 hk), ⟨h.tree.blk.past hg (fun e => n2 e.symm), h.tree.mp.imp id (fun ⟨mb, e, hm⟩ => ⟨mb, e, hm.block (hg.block mb hm.lt (fun e2 => n3 (by rw [e]; exact e2.symm ▸ rfl)))⟩), h.tree.ok, fun z hz => hrd (h.tree.rd z hz), h.tree.srt, h.tree.few⟩, h.lst, h.dn, h.str, fun s hs => ?_, h.few⟩
  have := h.ok s hs
  exact ⟨this.right, hrd this.rq, this.lq, hrd this.rx, this.lx, this.sp⟩
end
theorem Duo.pastRow {B : Nat} {w w' : World} {la ta lb tb g : Nat} {va vb : Value} {ma mb : Option Nat} {LA LB : List IT} {UA UB : List ST} {e : TypeId} {vs : List Value} (h : Duo B w la va ta ma LA UA lb vb tb mb LB UB) (hg : w.grownBy w' (some g)) (hb : Blk w g e vs) (h1 : e ≠ 68) (h2 : e ≠ 84) (h3 : e ≠ 76) (hrd : ∀ {u : Value} {l : List Int}, Rd w u l → Rd w' u l) : Duo B w' la va ta ma LA UA lb vb tb mb LB UB :=
  ⟨⟨h.a.at_.pastRow hg hb h1 h2 h3 hrd, h.a.nl, h.a.nt, h.a.nm, h.a.nv⟩, ⟨h.b.at_.pastRow hg hb h1 h2 h3 hrd, h.b.nl, h.b.nt, h.b.nm, h.b.nv⟩, h.ap⟩
theorem noB_oc (q : OpT) : NoB (oc q) := fun u hu n e => by
  simp only [oc, List.mem_cons, List.not_mem_nil, or_false] at hu
  rcases hu with h | h | h | h | h | h | h | h | h | h <;> (rw [e] at h; simp at h)
/-- An own row of operations stays when a log is changed. -/
theorem own36_lw {w w' : World} {lb tb N : Nat} {v v' u : Value} {mo mo' : Option Nat} {L : List IT} {U : List ST} {O : List OpT} (h : w.ownsRow 0 36 10 u N (flat oc O)) (hw : Lw lb tb mo v w w' mo' v') (hL : LogAt w lb v tb mo L U) : w'.ownsRow 0 36 10 u N (flat oc O) :=
  ownsRow_block h fun k hk => by
    rcases h.2 with ⟨rfl, _⟩ | ⟨g, cap, cur, rfl, _, hg, _⟩
    · cases hk
    · have e1 : g = k := by simpa [Value.ownBlock] using hk
      subst e1
      exact hw.typ hL hg (by decide) (by decide) (by decide)
theorem firstOf_eq {O l : List OpT} (h : FirstOf O l) (hs : l.Pairwise LtO) : O = l := by
  refine strict_uniq _ _ h.str hs fun x => ⟨fun hx => h.mem hx, fun hx => ?_⟩
  have h1 := h.one x.a
  have hm : x ∈ l.filter (atK x.a) := List.mem_filter.2 ⟨hx, decide_eq_true rfl⟩
  cases hf : l.filter (atK x.a) with
  | nil => rw [hf] at hm; cases hm
  | cons y r =>
    have hy : y ∈ l.filter (atK x.a) := by rw [hf]; exact List.mem_cons_self
    obtain ⟨hy1, hy2⟩ := List.mem_filter.1 hy
    have e : y = x := str_one hs hy1 hx (of_decide_eq_true hy2)
    have : y ∈ O.filter (atK x.a) := by rw [h1, hf]; exact List.mem_cons_self
    rw [e] at this
    exact (List.mem_filter.1 this).1
theorem bare_str {O : List OpT} {U : List ST} (h : O.map bare = Ob U) (hs : StrS U) : O.Pairwise LtO := by
  have := ob_str hs
  rw [← h] at this
  exact (List.pairwise_map.1 this).imp fun {a b} q => q
/-- What Build makes of a log's operations is the log's tree. -/
theorem build_same {w : World} {lb tb : Nat} {v : Value} {mo : Option Nat} {L L2 : List IT} {U : List ST} {O O2 : List OpT} (h : LogAt w lb v tb mo L U) (e : O.map bare = Ob U) (ho : ∀ q ∈ O, Okv q) (hf : FirstOf O2 O) (hl : L2.map IT.m = buildM [] O2) : L.map IT.m = L2.map IT.m := by
  rw [hl, firstOf_eq hf (bare_str e h.str)]
  exact h.lstB e ho
/-- An exchange of two of a list turns no membership. -/
theorem swap_mem {m : List OpT} {b : Nat} {x y : OpT} (hx : m[0]? = some x) (hy : m[b]? = some y) (q : OpT) : q ∈ (m.set 0 y).set b x ↔ q ∈ m := by
  obtain ⟨h0, e0⟩ := List.getElem?_eq_some_iff.1 hx
  obtain ⟨hb, eb⟩ := List.getElem?_eq_some_iff.1 hy
  constructor
  · intro h
    rcases List.mem_or_eq_of_mem_set h with h | rfl
    · rcases List.mem_or_eq_of_mem_set h with h | rfl
      · exact h
      · rw [← eb]; exact List.getElem_mem hb
    · rw [← e0]; exact List.getElem_mem h0
  · intro h
    obtain ⟨i, hi, e⟩ := List.getElem_of_mem h
    by_cases hib : i = b
    · by_cases hb0 : b = 0
      · subst hb0
        have : x = q := by rw [← e0, ← e]; congr 1; exact hib.symm
        rw [← this]
        exact List.mem_of_getElem? (i := 0) (by rw [List.getElem?_set_self (by simpa using h0)])
      · have : y = q := by rw [← eb, ← e]; congr 1; exact hib.symm
        rw [← this]
        exact List.mem_of_getElem? (i := 0) (by rw [List.getElem?_set_ne hb0, List.getElem?_set_self h0])
    · by_cases hi0 : i = 0
      · have : x = q := by rw [← e0, ← e]; congr 1; exact hi0.symm
        rw [← this]
        exact List.mem_of_getElem? (i := b) (by rw [List.getElem?_set_self (by simpa using hb)])
      · exact List.mem_of_getElem? (i := i) (by rw [List.getElem?_set_ne (fun e => hib e.symm), List.getElem?_set_ne (fun e => hi0 e.symm), List.getElem?_eq_getElem hi, e])
end
end Go.Proofs.Ythnjbjlhfohpfaa
