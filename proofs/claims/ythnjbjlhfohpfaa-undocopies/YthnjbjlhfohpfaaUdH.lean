/-
  Two logs beside each other; a tree beside a log.
  Light: are operations few, and short?
  What two logs hold: memberships alone.
-/
import Derived.Test.YthnjbjlhfohpfaaUdN
import Derived.Test.YthnjbjlhfohpfaaAll
import Derived.Test.YthnjbjlhfohpfaaRowG
namespace Go.Proofs.Ythnjbjlhfohpfaa
section
set_option linter.unusedVariables false
set_option linter.unusedSimpArgs false
set_option synthInstance.maxSize 20000
set_option maxHeartbeats 2000000
set_option maxRecDepth 20000
open Go.RowKit Go.Maps

section
variable {w w' : World} {la ta lb tb t2 : Nat} {va va' vb : Value} {ma ma' mb m2 : Option Nat} {LA LB L2 : List IT} {UA UB : List ST}
theorem cells_ne {w : World} {b c : Nat} {e1 e2 : TypeId} {v1 v2 : List Value} (h1 : Blk w b e1 v1) (h2 : Blk w c e2 v2) (h : e1 ≠ e2) : b ≠ c := fun e => by
  have q1 : w.heap[b]? = some (.cells _ e1 (0, 0)) := h1
  have q2 : w.heap[c]? = some (.cells _ e2 (0, 0)) := h2
  rw [e, q2] at q1
  injection q1 with q1
  injection q1 with _ q
  exact h q.symm
theorem PTr.notMap (h : PTr w ta ma LA) {b : Nat} {e : TypeId} {vs : List Value} (hb : Blk w b e vs) : ma ≠ some b := fun e' => by
  rcases h.mp with ⟨e1, _⟩ | ⟨mb, e1, hm⟩
  · rw [e1] at e'; cases e'
  · rw [e1] at e'; cases e'
    exact hm.nocells (show w.heap[b]? = some (.cells _ e (0, 0)) from hb)
theorem SRow.ne {v : Value} {S : List ST} (h : SRow w v S) {b : Nat} {e : TypeId} {vs : List Value} (hb : Blk w b e vs) (he : e ≠ 76) : v.ownBlock ≠ some b := fun e' => by
  obtain ⟨us, hc, _⟩ := h.cells e'
  exact cells_ne hb hc he rfl
/-- A tree beside a log stays when the log is changed. -/
theorem PTr.keepL (hP : PTr w t2 m2 L2) (hw : Lw la ta ma va w w' ma' va') (ha : LogAt w la va ta ma LA UA) (ht : t2 ≠ ta) (hm : ∀ k, m2 = some k → ma ≠ some k) : PTr w' t2 m2 L2 := by
  have hb : w'.heap[t2]? = w.heap[t2]? := hw.block t2 hP.blk.lt (cells_ne hP.blk ha.blk (by decide)) ht (ha.tree.notMap hP.blk) (ha.row.ne hP.blk (by decide))
  refine ⟨hP.blk.block hb, hP.mp.imp id (fun ⟨mb, e, hq⟩ => ⟨mb, e, hq.block ?_⟩), hP.ok, fun z hz => hw.rd ha (hP.rd z hz), hP.srt, hP.few⟩
  have hn : ∀ {b : Nat} {e : TypeId} {vs : List Value}, Blk w b e vs → mb ≠ b := fun {b e vs} hb e' => by
    subst e'
    exact hq.nocells (show w.heap[mb]? = some (.cells _ e (0, 0)) from hb)
  refine hw.block mb hq.lt (hn ha.blk) (hn ha.tree.blk) (hm mb e) fun e' => ?_
  obtain ⟨us, hc, _⟩ := ha.row.cells e'
  exact hn hc rfl
/-- Logs that share no block. -/
structure ApartL (la : Nat) (va : Value) (ta : Nat) (ma : Option Nat) (lb : Nat) (vb : Value) (tb : Nat) (mb : Option Nat) : Prop where
  l : la ≠ lb
  t : ta ≠ tb
  m : ∀ k, ma = some k → mb ≠ some k
  v : ∀ k, va.ownBlock = some k → vb.ownBlock ≠ some k
theorem ApartL.symm (h : ApartL la va ta ma lb vb tb mb) : ApartL lb vb tb mb la va ta ma := ⟨fun e => h.l e.symm, fun e => h.t e.symm, fun k hk e => h.m k e hk, fun k hk e => h.v k e hk⟩
/-- A log stays when another one is changed. -/
theorem LogAt.keep (hb : LogAt w lb vb tb mb LB UB) (hw : Lw la ta ma va w w' ma' va') (ha : LogAt w la va ta ma LA UA) (h : ApartL la va ta ma lb vb tb mb) : LogAt w' lb vb tb mb LB UB ∧ ApartL la va' ta ma' lb vb tb mb := by
  refine ⟨⟨hb.blk.block (hw.block lb hb.blk.lt (fun e => h.l e.symm) (cells_ne hb.blk ha.tree.blk (by decide)) (ha.tree.notMap hb.blk) (ha.row.ne hb.blk (by decide))), hb.row.block fun k hk => ?_, hb.tree.keepL hw ha (fun e => h.t e.symm) (fun k hk e => h.m k e hk), hb.lst, hb.dn, hb.str, fun s hs => ?_, hb.few⟩, h.l, h.t, fun k hk e => ?_, fun k hk e => ?_⟩
  · obtain ⟨us, hc, _⟩ := hb.row.cells hk
    exact hw.block k hc.lt (cells_ne hc ha.blk (by decide)) (cells_ne hc ha.tree.blk (by decide)) (ha.tree.notMap hc) fun e => h.v k e hk
  · have := hb.ok s hs
    exact ⟨this.right, hw.rd ha this.rq, this.lq, hw.rd ha this.rx, this.lx, this.sp⟩
  · rcases hw.newm with e1 | ⟨m, e1, h1⟩
    · exact h.m k (e1 ▸ hk) e
    · rw [e1] at hk; cases hk
      rcases hb.tree.mp with ⟨e2, _⟩ | ⟨m', e2, hq⟩
      · rw [e2] at e; cases e
      · rw [e2] at e; cases e
        have := hq.lt; omega
  · rcases hw.newv k hk with e1 | e1
    · exact h.v k e1 e
    · have := hb.row.lt e; omega
end
/-- Two logs that the law made. -/
structure Duo (B : Nat) (w : World) (la : Nat) (va : Value) (ta : Nat) (ma : Option Nat) (LA : List IT) (UA : List ST) (lb : Nat) (vb : Value) (tb : Nat) (mb : Option Nat) (LB : List IT) (UB : List ST) : Prop where
  a : LogN B w la va ta ma LA UA
  b : LogN B w lb vb tb mb LB UB
  ap : ApartL la va ta ma lb vb tb mb
section
variable {w0 w w' : World} {la ta lb tb : Nat} {va va' vb vb' : Value} {ma ma' mb mb' : Option Nat} {LA LB LA' LB' : List IT} {UA UB UA' UB' : List ST}
theorem Duo.below {B : Nat} (h : Duo B w la va ta ma LA UA lb vb tb mb LB UB) (hb : Below w.heap.size w w') : Duo B w' la va ta ma LA UA lb vb tb mb LB UB := ⟨h.a.below hb, h.b.below hb, h.ap⟩
theorem Duo.left (h : Duo w0.heap.size w la va ta ma LA UA lb vb tb mb LB UB) (hb : Below w0.heap.size w0 w) (h2 : LogAt w' la va' ta ma' LA' UA') (hw : Lw la ta ma va w w' ma' va') : Duo w0.heap.size w' la va' ta ma' LA' UA' lb vb tb mb LB UB ∧ Below w0.heap.size w0 w' := by
  obtain ⟨q1, q2⟩ := h.a.step hb h2 hw
  obtain ⟨q3, q4⟩ := h.b.at_.keep hw h.a.at_ h.ap
  exact ⟨⟨q1, ⟨q3, h.b.nl, h.b.nt, h.b.nm, h.b.nv⟩, q4⟩, q2⟩
theorem Duo.right (h : Duo w0.heap.size w la va ta ma LA UA lb vb tb mb LB UB) (hb : Below w0.heap.size w0 w) (h2 : LogAt w' lb vb' tb mb' LB' UB') (hw : Lw lb tb mb vb w w' mb' vb') : Duo w0.heap.size w' la va ta ma LA UA lb vb' tb mb' LB' UB' ∧ Below w0.heap.size w0 w' := by
  obtain ⟨q1, q2⟩ := h.b.step hb h2 hw
  obtain ⟨q3, q4⟩ := h.a.at_.keep hw h.b.at_ h.ap.symm
  exact ⟨⟨⟨q3, h.a.nl, h.a.nt, h.a.nm, h.a.nv⟩, q1, q4.symm⟩, q2⟩
end
end

section
set_option linter.unusedVariables false
set_option linter.unusedSimpArgs false
set_option synthInstance.maxSize 20000
set_option maxHeartbeats 2000000
set_option maxRecDepth 20000
open Go.RowKit Go.Maps

def okO (q : OpT) : Bool := decide (q.s.size ≤ 40 ∧ q.vn ≤ 500)
def lightB (l : List OpT) (n : Int) : Bool := decide ((l.length : Int) ≤ n) && l.all okO
theorem all_take_more {l : List OpT} {i : Nat} {x : OpT} (hx : l[i]? = some x) : (l.take (i + 1)).all okO = ((l.take i).all okO && okO x) := by
  obtain ⟨hi, rfl⟩ := List.getElem?_eq_some_iff.1 hx
  rw [List.take_succ_eq_append_getElem hi, List.all_append]
  simp
theorem light8 {w : World} {v : Value} {l : List OpT} {n : Int} (h : RowF oc w v l) (hl : l.length ≤ 9223372036854775807) : Calls Try.prog 6 #[v, .int .i64 n] w fun e w' => e = .returned (.bool (lightB l n)) ∧ w' = w := by
  obtain ⟨a, cap, rfl⟩ := h.len
  have HR : Hid (RowF oc w (.slice a l.length cap) l) := h
  have hc := h.caps
  have HQ : Hid (lightB l n = (decide ((l.length : Int) ≤ n) && l.all okO)) := (rfl : lightB l n = _)
  clear h
  obtain ⟨N, hN⟩ : ∃ N, N = l.length := ⟨_, rfl⟩
  have HN : Hid (N = l.length) := hN
  rw [← hN] at hc hl ⊢
  obtain ⟨hc1, hc2, hc3⟩ := hc
  clear hc1
  by_cases h1 : n < (N : Int)
  · have HF : Hid (lightB l n = false) := by
      show _ = _
      rw [HQ.out, decide_eq_false (by rw [← HN.out]; omega)]; rfl
    clear hN
    go_enter Try.func6, Try.ntmps6
    go_wp2
    go_ret
    exact ⟨by rw [HF.out]; rfl, rfl⟩
  · have h1' : (N : Int) ≤ n := by omega
    have HF : Hid (lightB l n = l.all okO) := by
      show _ = _
      rw [HQ.out, decide_eq_true (by rw [← HN.out]; omega)]; simp
    clear hN HQ
    go_enter Try.func6, Try.ntmps6
    go_wp2
    go_loopw [5] (fun vi wr => ∃ i : Nat, vi = .int .i64 (i : Int) ∧ i ≤ N ∧ Hid ((l.take i).all okO = true) ∧ Hid (wr = w)) (fun vi _ => N - (intOf vi).toNat)
    case atStart => exact ⟨0, rfl, Nat.zero_le _, rfl, rfl⟩
    case round =>
      obtain ⟨i, rfl, hi, HA, HW⟩ := hrel
      have hw := HW.out
      subst hw
      rename World => wq
      by_cases hlt : i < N
      · have hlt' : (i : Int) < (N : Int) := by omega
        obtain ⟨x, hx⟩ : ∃ x, l[i]? = some x := ⟨_, List.getElem?_eq_getElem (by rw [← HN.out]; exact hlt)⟩
        obtain ⟨b, off, rfl, hcell⟩ := RowF.at oc_len HR.out hx
        have HM := all_take_more hx
        have e8 := hcell 8 _ rfl
        have e9 := hcell 9 _ rfl
        have HX : Hid (okO x = decide (x.s.size ≤ 40 ∧ x.vn ≤ 500)) := (rfl : okO x = _)
        by_cases h8 : 40 < x.s.size
        · have h8' : (40 : Int) < (x.s.size : Int) := by omega
          have HF2 : Hid (lightB l n = false) := by
            show _ = _
            rw [HF.out]
            cases hA : l.all okO
            · rfl
            · have := List.all_eq_true.1 hA x (List.mem_of_getElem? hx)
              rw [HX.out] at this
              have := of_decide_eq_true this
              omega
          clear HM hx hcell
          go_wp2
          go_ret
          exact ⟨by rw [HF2.out]; rfl, rfl⟩
        · have h8' : ¬ (40 : Int) < (x.s.size : Int) := by omega
          by_cases h9 : 500 < x.vn
          · have h9' : (500 : Int) < (x.vn : Int) := by omega
            have HF2 : Hid (lightB l n = false) := by
              show _ = _
              rw [HF.out]
              cases hA : l.all okO
              · rfl
              · have := List.all_eq_true.1 hA x (List.mem_of_getElem? hx)
                rw [HX.out] at this
                have := of_decide_eq_true this
                omega
            clear HM hx hcell
            go_wp2
            go_ret
            exact ⟨by rw [HF2.out]; rfl, rfl⟩
          · have h9' : ¬ (500 : Int) < (x.vn : Int) := by omega
            have HA2 : Hid ((l.take (i + 1)).all okO = true) := by
              show _ = _
              rw [HM, HA.out, HX.out, decide_eq_true (by omega)]; rfl
            clear HM hx hcell
            go_wp2
            go_roundw
            case rel => exact ⟨i + 1, by go_num, by omega, HA2, by first | rfl | trivial⟩
            case measure => simp [intOf] <;> omega
      · obtain rfl : i = N := by omega
        have hlt' : ¬ (i : Int) < (i : Int) := by omega
        have HF2 : Hid (lightB l n = true) := by
          show _ = _
          rw [HF.out]
          have := HA.out
          rw [HN.out, List.take_length] at this
          exact this
        go_wp2
        go_ret
        exact ⟨by rw [HF2.out]; rfl, rfl⟩
end

section
set_option linter.unusedVariables false
set_option linter.unusedSimpArgs false
set_option synthInstance.maxSize 20000
set_option maxHeartbeats 2000000
set_option maxRecDepth 20000
open Go.RowKit Go.Maps

theorem LtO.asymm {x y : OpT} (h : LtO x y) (h2 : LtO y x) : False := ltP_asymm (show ltP x.a y.a from h) h2
theorem strict_uniq : ∀ (a b : List OpT), a.Pairwise LtO → b.Pairwise LtO → (∀ x, x ∈ a ↔ x ∈ b) → a = b
  | [], [], _, _, _ => rfl
  | [], y :: b, _, _, h => absurd ((h y).2 List.mem_cons_self) (by simp)
  | x :: a, [], _, _, h => absurd ((h x).1 List.mem_cons_self) (by simp)
  | x :: a, y :: b, ha, hb, h => by
    obtain ⟨a1, a2⟩ := List.pairwise_cons.1 ha
    obtain ⟨b1, b2⟩ := List.pairwise_cons.1 hb
    have e : x = y := by
      rcases List.mem_cons.1 ((h x).1 List.mem_cons_self) with e | hx
      · exact e
      · rcases List.mem_cons.1 ((h y).2 List.mem_cons_self) with e | hy
        · exact e.symm
        · exact absurd (a1 y hy) (fun q => LtO.asymm q (b1 x hx))
    subst e
    have hir : ¬ LtO x x := fun q => LtO.asymm q q
    rw [strict_uniq a b a2 b2 fun z => ⟨fun hz => ?_, fun hz => ?_⟩]
    · rcases List.mem_cons.1 ((h z).1 (List.mem_cons_of_mem _ hz)) with e | q
      · subst e; exact absurd (a1 z hz) hir
      · exact q
    · rcases List.mem_cons.1 ((h z).2 (List.mem_cons_of_mem _ hz)) with e | q
      · subst e; exact absurd (b1 z hz) hir
      · exact q
theorem ob_str {U : List ST} (h : StrS U) : (Ob U).Pairwise LtO := by
  unfold Ob opsS
  rw [List.map_map]
  exact List.pairwise_map.2 (h.imp fun {a b} q => q)
theorem ob_uniq {U T : List ST} (hs : StrS U) (ht : StrS T) (h : ∀ x, x ∈ Ob U ↔ x ∈ Ob T) : Ob U = Ob T := strict_uniq _ _ (ob_str hs) (ob_str ht) h
theorem str_one : ∀ {l : List OpT}, l.Pairwise LtO → ∀ {x y : OpT}, x ∈ l → y ∈ l → x.a = y.a → x = y
  | [], _, _, _, hx, _, _ => by cases hx
  | z :: l, h, x, y, hx, hy, e => by
    obtain ⟨h1, h2⟩ := List.pairwise_cons.1 h
    have irr : ∀ {p q : OpT}, LtO p q → p.a = q.a → False := fun {p q} h e => by
      have h' : ltP p.a q.a := h
      rw [e] at h'
      exact ltP_irrefl _ h'
    rcases List.mem_cons.1 hx with rfl | hx'
    · rcases List.mem_cons.1 hy with rfl | hy'
      · rfl
      · exact (irr (h1 y hy') e).elim
    · rcases List.mem_cons.1 hy with rfl | hy'
      · exact (irr (h1 x hx') e.symm).elim
      · exact str_one h2 hx' hy' e
theorem hasO_iff {O : List OpT} {a : S} : hasO a O = true ↔ ∃ q ∈ O, q.a = a := by
  unfold hasO
  rw [List.any_eq_true]
  exact ⟨fun ⟨q, h, e⟩ => ⟨q, h, of_decide_eq_true e⟩, fun ⟨q, h, e⟩ => ⟨q, h, decide_eq_true e⟩⟩
theorem hasO_no {O : List OpT} {a : S} (h : hasO a O = false) : ∀ q ∈ O, q.a ≠ a := fun q hq e => by
  rw [hasO_iff.2 ⟨q, hq, e⟩] at h
  cases h
theorem lo_hi_mem {O : List OpT} {a : S} {x : OpT} : (x ∈ loO a O ∨ x ∈ hiO a O) ↔ (x ∈ O ∧ x.a ≠ a) := by
  unfold loO hiO
  rw [List.mem_filter, List.mem_filter]
  constructor
  · rintro (⟨h1, h2⟩ | ⟨h1, h2⟩)
    · exact ⟨h1, fun e => ltP_irrefl a (by have := of_decide_eq_true h2; rwa [e] at this)⟩
    · exact ⟨h1, fun e => ltP_irrefl a (by have := of_decide_eq_true h2; rwa [e] at this)⟩
  · rintro ⟨h1, h2⟩
    by_cases h : ltP x.a a
    · exact .inl ⟨h1, decide_eq_true h⟩
    · refine .inr ⟨h1, decide_eq_true ?_⟩
      apply Classical.byContradiction
      intro h3
      exact h2 (ltP_total h h3)
section
variable {U T : List ST} {q : OpT} {a : S} {n k : Int}
theorem InsB.mem (h : InsB U q T n k) : (rightO q = false ∧ T = U) ∨ (rightO q = true ∧ hasO q.a (Ob U) = true ∧ T = U) ∨ (rightO q = true ∧ hasO q.a (Ob U) = false ∧ ∀ x, x ∈ Ob T ↔ x = bare q ∨ x ∈ Ob U) := by
  rcases h with ⟨h1, _, _, h2⟩ | ⟨h1, ⟨h2, _, _, h3⟩ | ⟨h2, _, h3, _⟩⟩
  · exact .inl ⟨h1, h2⟩
  · exact .inr (.inl ⟨h1, h2, h3⟩)
  · refine .inr (.inr ⟨h1, h2, fun x => ?_⟩)
    rw [h3, List.mem_append, List.mem_cons]
    have := lo_hi_mem (O := Ob U) (a := q.a) (x := x)
    constructor
    · rintro (h | h | h)
      · exact .inr (this.1 (.inl h)).1
      · exact .inl h
      · exact .inr (this.1 (.inr h)).1
    · rintro (h | h)
      · exact .inr (.inl h)
      · rcases this.2 ⟨h, hasO_no h2 x h⟩ with h | h
        · exact .inl h
        · exact .inr (.inr h)
theorem lo_hi_len (a : S) : ∀ O : List OpT, (loO a O).length + (hiO a O).length ≤ O.length
  | [] => Nat.le_refl _
  | x :: O => by
    have ih := lo_hi_len a O
    have e1 : loO a (x :: O) = if ltP x.a a then x :: loO a O else loO a O := by
      unfold loO; rw [List.filter_cons]; by_cases h : ltP x.a a <;> simp [h]
    have e2 : hiO a (x :: O) = if ltP a x.a then x :: hiO a O else hiO a O := by
      unfold hiO; rw [List.filter_cons]; by_cases h : ltP a x.a <;> simp [h]
    rw [e1, e2]
    by_cases h1 : ltP x.a a
    · rw [if_pos h1, if_neg (ltP_asymm h1)]; simp; omega
    · rw [if_neg h1]; split <;> simp <;> omega
theorem InsB.len (h : InsB U q T n k) : T.length ≤ U.length + 1 := by
  rcases h with ⟨_, _, _, rfl⟩ | ⟨_, ⟨_, _, _, rfl⟩ | ⟨_, _, h3, _⟩⟩
  · omega
  · omega
  · have := congrArg List.length h3
    have h4 := lo_hi_len q.a (Ob U)
    simp only [List.length_append, List.length_cons, Ob_len] at this h4
    omega
theorem RemB.mem (h : RemB U a T n k) (x : OpT) : x ∈ Ob T ↔ x ∈ Ob U ∧ x.a ≠ a := by
  rcases h with ⟨h1, _, _, rfl⟩ | ⟨_, _, h3, _⟩
  · exact ⟨fun h => ⟨h, hasO_no h1 x h⟩, fun h => h.1⟩
  · rw [h3, List.mem_append]
    exact lo_hi_mem
theorem RemB.len (h : RemB U a T n k) : T.length ≤ U.length := by
  rcases h with ⟨_, _, _, rfl⟩ | ⟨_, _, h3, _⟩
  · exact Nat.le_refl _
  · have := congrArg List.length h3
    have h4 := lo_hi_len a (Ob U)
    simp only [List.length_append, Ob_len] at this h4
    omega
end
/-! ### The law on two logs -/
/-- The first log holds the right ones of O. -/
def HoldA (O : List OpT) (U : List ST) : Prop := ∀ x, x ∈ Ob U ↔ ∃ q ∈ O, rightO q = true ∧ bare q = x
theorem HoldA.snoc {O : List OpT} {U T : List ST} {q : OpT} {n k : Int} (h : HoldA O U) (hd : ∀ p ∈ O, p.a ≠ q.a) (hi : InsB U q T n k) : HoldA (O ++ [q]) T := fun x => by
  rcases hi.mem with ⟨h1, rfl⟩ | ⟨h1, h2, _⟩ | ⟨h1, _, h3⟩
  · rw [h x]
    constructor
    · rintro ⟨p, hp, r⟩; exact ⟨p, List.mem_append_left _ hp, r⟩
    · rintro ⟨p, hp, r1, r2⟩
      rcases List.mem_append.1 hp with hp | hp
      · exact ⟨p, hp, r1, r2⟩
      · obtain rfl : p = q := by simpa using hp
        rw [h1] at r1; cases r1
  · obtain ⟨p, hp, e⟩ := hasO_iff.1 h2
    obtain ⟨p', hp', _, rfl⟩ := (h p).1 hp
    exact absurd e (hd p' hp')
  · rw [h3 x, h x]
    constructor
    · rintro (rfl | ⟨p, hp, r⟩)
      · exact ⟨q, List.mem_append_right _ List.mem_cons_self, h1, rfl⟩
      · exact ⟨p, List.mem_append_left _ hp, r⟩
    · rintro ⟨p, hp, r1, r2⟩
      rcases List.mem_append.1 hp with hp | hp
      · exact .inr ⟨p, hp, r1, r2⟩
      · obtain rfl : p = q := by simpa using hp
        exact .inl r2.symm
/-- The second log while others come: X: those of it that are not the first one's have such times; Y: what must be there. -/
structure HoldB (UA UB : List ST) (X : List OpT) (Y : List OpT) : Prop where
  x : ∀ p ∈ Ob UB, p ∈ Ob UA ∨ (hasO p.a (Ob UA) = false ∧ ∃ r ∈ X, r.a = p.a)
  y : ∀ q ∈ Y, rightO q = true → bare q ∈ Ob UB
theorem HoldB.more {UA UB T : List ST} {X Y : List OpT} {q : OpT} {n k : Int} (h : HoldB UA UB X Y) (hn : hasO q.a (Ob UA) = false) (hq : q ∈ X) (hi : InsB UB q T n k) : HoldB UA T X Y := by
  rcases hi.mem with ⟨_, rfl⟩ | ⟨_, _, rfl⟩ | ⟨_, _, h3⟩
  · exact h
  · exact h
  · refine ⟨fun p hp => ?_, fun p hp hr => (h3 _).2 (.inr (h.y p hp hr))⟩
    rcases (h3 p).1 hp with rfl | hp
    · exact .inr ⟨hn, q, hq, rfl⟩
    · exact h.x p hp
theorem HoldB.own {UA UB T : List ST} {X Y : List OpT} {q : OpT} {n k : Int} (h : HoldB UA UB X Y) (hA : StrS UA) (hq : rightO q = true → bare q ∈ Ob UA) (hi : InsB UB q T n k) : HoldB UA T X (Y ++ [q]) := by
  have old : ∀ {V : List ST}, (∀ p ∈ Ob UB, p ∈ Ob V) → (rightO q = true → bare q ∈ Ob V) → ∀ p ∈ Y ++ [q], rightO p = true → bare p ∈ Ob V := fun {V} h1 h2 p hp hr => by
    rcases List.mem_append.1 hp with hp | hp
    · exact h1 _ (h.y p hp hr)
    · obtain rfl : p = q := by simpa using hp
      exact h2 hr
  rcases hi.mem with ⟨h1, rfl⟩ | ⟨h1, h2, rfl⟩ | ⟨h1, _, h3⟩
  · exact ⟨h.x, old (fun p hp => hp) (fun hr => by rw [h1] at hr; cases hr)⟩
  · refine ⟨h.x, old (fun p hp => hp) (fun hr => ?_)⟩
    obtain ⟨p, hp, e⟩ := hasO_iff.1 h2
    have hqa := hq h1
    rcases h.x p hp with r | ⟨r, _⟩
    · rw [str_one (ob_str hA) hqa r (show (bare q).a = p.a from e.symm)]; exact hp
    · exact absurd e.symm (hasO_no r (bare q) hqa)
  · refine ⟨fun p hp => ?_, old (fun p hp => (h3 p).2 (.inr hp)) (fun _ => (h3 _).2 (.inl rfl))⟩
    rcases (h3 p).1 hp with rfl | hp
    · exact .inl (hq h1)
    · exact h.x p hp
/-- The second log while others go. -/
structure HoldC (UA UB : List ST) (X : List OpT) : Prop where
  x : ∀ p ∈ Ob UB, p ∈ Ob UA ∨ (hasO p.a (Ob UA) = false ∧ ∃ r ∈ X, r.a = p.a)
  y : ∀ p ∈ Ob UA, p ∈ Ob UB
theorem HoldC.keep {UA UB : List ST} {X : List OpT} {q : OpT} (h : HoldC UA UB (q :: X)) (hn : hasO q.a (Ob UA) = true) : HoldC UA UB X := by
  refine ⟨fun p hp => ?_, h.y⟩
  rcases h.x p hp with r | ⟨r, r', hr, e⟩
  · exact .inl r
  · rcases List.mem_cons.1 hr with rfl | hr
    · rw [e, r] at hn; cases hn
    · exact .inr ⟨r, r', hr, e⟩
theorem HoldC.go {UA UB T : List ST} {X : List OpT} {q : OpT} {n k : Int} (h : HoldC UA UB (q :: X)) (hn : hasO q.a (Ob UA) = false) (hi : RemB UB q.a T n k) : HoldC UA T X := by
  refine ⟨fun p hp => ?_, fun p hp => (hi.mem p).2 ⟨h.y p hp, hasO_no hn p hp⟩⟩
  obtain ⟨h1, h2⟩ := (hi.mem p).1 hp
  rcases h.x p h1 with r | ⟨r, r', hr, e⟩
  · exact .inl r
  · rcases List.mem_cons.1 hr with rfl | hr
    · exact absurd e.symm h2
    · exact .inr ⟨r, r', hr, e⟩
theorem HoldC.eq {UA UB : List ST} (h : HoldC UA UB []) (hA : StrS UA) (hB : StrS UB) : Ob UA = Ob UB := ob_uniq hA hB fun x => ⟨h.y x, fun hx => by
  rcases h.x x hx with r | ⟨_, r, hr, _⟩
  · exact r
  · cases hr⟩
end
end Go.Proofs.Ythnjbjlhfohpfaa
