/-
  Insert and Remove by lists of operations alone; a log that the law made.
  Two logs beside each other; a tree beside a log.
  Light: are operations few, and short?
-/
import Derived.Test.YthnjbjlhfohpfaaUdZ
import Derived.Test.YthnjbjlhfohpfaaTsI
import Derived.Test.YthnjbjlhfohpfaaTsG
import Derived.Test.YthnjbjlhfohpfaaSam
import Derived.Test.YthnjbjlhfohpfaaRowG
namespace Go.Proofs.Ythnjbjlhfohpfaa
section
set_option linter.unusedVariables false
set_option linter.unusedSimpArgs false
set_option synthInstance.maxSize 20000
set_option maxHeartbeats 2000000
set_option maxRecDepth 20000
open Go.RowKit Go.Maps

def Ob (U : List ST) : List OpT := (opsS U).map bare
def loO (a : S) (O : List OpT) : List OpT := O.filter fun q => decide (ltP q.a a)
def hiO (a : S) (O : List OpT) : List OpT := O.filter fun q => decide (ltP a q.a)
def hasO (a : S) (O : List OpT) : Bool := O.any fun q => decide (q.a = a)
theorem Ob_append (a b : List ST) : Ob (a ++ b) = Ob a ++ Ob b := by unfold Ob; rw [opsS_append, List.map_append]
theorem Ob_len (U : List ST) : (Ob U).length = U.length := by simp [Ob, opsS]
theorem Ob_mem {U : List ST} {q : OpT} : q ∈ Ob U ↔ ∃ s ∈ U, bare s.q = q := by simp [Ob, opsS]
theorem has_iff {U : List ST} {a : S} : hasO a (Ob U) = true ↔ ∃ s ∈ U, s.q.a = a := by
  unfold hasO
  rw [List.any_eq_true]
  constructor
  · rintro ⟨q, hq, h⟩
    obtain ⟨s, hs, rfl⟩ := Ob_mem.1 hq
    exact ⟨s, hs, of_decide_eq_true h⟩
  · rintro ⟨s, hs, h⟩
    exact ⟨bare s.q, Ob_mem.2 ⟨s, hs, rfl⟩, decide_eq_true h⟩
theorem has_no {U : List ST} {a : S} (h : ∀ s ∈ U, s.q.a ≠ a) : hasO a (Ob U) = false := by
  cases hh : hasO a (Ob U) with
  | false => rfl
  | true =>
    obtain ⟨s, hs, e⟩ := has_iff.1 hh
    exact absurd e (h s hs)
theorem lo_all {A : List ST} {a : S} (h : ∀ s ∈ A, ltP s.q.a a) : loO a (Ob A) = Ob A := List.filter_eq_self.2 fun q hq => by
  obtain ⟨s, hs, rfl⟩ := Ob_mem.1 hq
  exact decide_eq_true (h s hs)
theorem lo_none {A : List ST} {a : S} (h : ∀ s ∈ A, ¬ ltP s.q.a a) : loO a (Ob A) = [] := List.filter_eq_nil_iff.2 fun q hq => by
  obtain ⟨s, hs, rfl⟩ := Ob_mem.1 hq
  exact fun e => h s hs (of_decide_eq_true e)
theorem hi_all {A : List ST} {a : S} (h : ∀ s ∈ A, ltP a s.q.a) : hiO a (Ob A) = Ob A := List.filter_eq_self.2 fun q hq => by
  obtain ⟨s, hs, rfl⟩ := Ob_mem.1 hq
  exact decide_eq_true (h s hs)
theorem hi_none {A : List ST} {a : S} (h : ∀ s ∈ A, ¬ ltP a s.q.a) : hiO a (Ob A) = [] := List.filter_eq_nil_iff.2 fun q hq => by
  obtain ⟨s, hs, rfl⟩ := Ob_mem.1 hq
  exact fun e => h s hs (of_decide_eq_true e)
theorem lo_append (a : S) (x y : List OpT) : loO a (x ++ y) = loO a x ++ loO a y := List.filter_append _ _
theorem hi_append (a : S) (x y : List OpT) : hiO a (x ++ y) = hiO a x ++ hiO a y := List.filter_append _ _
theorem ltP_asymm {a b : S} (h : ltP a b) : ¬ ltP b a := fun h2 => ltP_irrefl a (ltP_trans h h2)
def InsB (U : List ST) (q : OpT) (T : List ST) (n k : Int) : Prop := (rightO q = false ∧ n = 0 ∧ k = 1 ∧ T = U) ∨ (rightO q = true ∧ ((hasO q.a (Ob U) = true ∧ n = 0 ∧ k = 8 ∧ T = U) ∨ (hasO q.a (Ob U) = false ∧ k = 0 ∧ Ob T = loO q.a (Ob U) ++ bare q :: hiO q.a (Ob U) ∧ n = ((hiO q.a (Ob U)).length : Int))))
theorem InsR.b {U T : List ST} {q : OpT} {n k : Int} (hs : StrS U) (h : InsR U q T n k) : InsB U q T n k := by
  rcases h with h | ⟨hr, ⟨h1, h2⟩ | ⟨h1, h2, A, R, q', hc, hb, ho, hn⟩⟩
  · exact .inl h
  · exact .inr ⟨hr, .inl ⟨has_iff.2 h1, h2⟩⟩
  · have hgt := cut_gt hs hc h1
    have e1 : loO q.a (Ob U) = Ob A := by rw [hc.eq, Ob_append, lo_append, lo_all hc.lo, lo_none hc.hi, List.append_nil]
    have e2 : hiO q.a (Ob U) = Ob R := by rw [hc.eq, Ob_append, hi_append, hi_all hgt, hi_none fun s hs => ltP_asymm (hc.lo s hs)]; rfl
    refine .inr ⟨hr, .inr ⟨has_no h1, h2, ?_, ?_⟩⟩
    · unfold Ob
      rw [ho, List.map_append, List.map_cons, hb]
      rw [show (opsS A).map bare = Ob A from rfl, show (opsS R).map bare = Ob R from rfl, ← e1, ← e2]
      rfl
    · rw [e2, Ob_len]; exact hn
def RemB (U : List ST) (a : S) (T : List ST) (n k : Int) : Prop := (hasO a (Ob U) = false ∧ n = 0 ∧ k = 12 ∧ T = U) ∨ (hasO a (Ob U) = true ∧ k = 0 ∧ Ob T = loO a (Ob U) ++ hiO a (Ob U) ∧ n = ((hiO a (Ob U)).length : Int))
theorem RemR.b {U T : List ST} {a : S} {n k : Int} (hs : StrS U) (h : RemR U a T n k) : RemB U a T n k := by
  rcases h with ⟨h1, h2⟩ | ⟨h1, A, s, R, hc, ha, ho, hn⟩
  · exact .inl ⟨has_no h1, h2⟩
  · have hgt : ∀ r ∈ R, ltP a r.q.a := fun r hr => by
      rw [hc.eq] at hs
      have := (List.pairwise_cons.1 (List.pairwise_append.1 hs).2.1).1 r hr
      unfold LtS at this
      rwa [ha] at this
    have hself : ¬ ltP s.q.a a := hc.hi s List.mem_cons_self
    have hself2 : ¬ ltP a s.q.a := by rw [ha]; exact ltP_irrefl a
    have e0 : Ob U = Ob A ++ (Ob [s] ++ Ob R) := by rw [hc.eq, Ob_append, show s :: R = [s] ++ R from rfl, Ob_append]
    have e1 : loO a (Ob U) = Ob A := by
      rw [e0, lo_append, lo_append, lo_all hc.lo, lo_none (A := [s]) (fun x hx => by simp at hx; rw [hx]; exact hself), lo_none fun r hr => ltP_asymm (hgt r hr)]
      simp
    have e2 : hiO a (Ob U) = Ob R := by
      rw [e0, hi_append, hi_append, hi_all hgt, hi_none (A := [s]) (fun x hx => by simp at hx; rw [hx]; exact hself2), hi_none fun r hr => ltP_asymm (hc.lo r hr)]
      rfl
    refine .inr ⟨has_iff.2 ⟨s, by rw [hc.eq]; exact List.mem_append_right _ List.mem_cons_self, ha⟩, h1, ?_, ?_⟩
    · rw [e1, e2]
      unfold Ob
      rw [ho, List.map_append]
    · rw [e2, Ob_len]; exact hn
/-- A log whose blocks are all new since a heap of B blocks. -/
structure LogN (B : Nat) (w : World) (lb : Nat) (v : Value) (tb : Nat) (mo : Option Nat) (L : List IT) (U : List ST) : Prop where
  at_ : LogAt w lb v tb mo L U
  nl : B ≤ lb
  nt : B ≤ tb
  nm : ∀ k, mo = some k → B ≤ k
  nv : ∀ k, v.ownBlock = some k → B ≤ k
section
variable {w0 w w' : World} {lb tb : Nat} {v v' : Value} {mo mo' : Option Nat} {L L' : List IT} {U T : List ST}
theorem LogN.below {B : Nat} (h : LogN B w lb v tb mo L U) (hb : Below w.heap.size w w') : LogN B w' lb v tb mo L U := ⟨h.at_.below hb, h.nl, h.nt, h.nm, h.nv⟩
theorem LogN.step (h : LogN w0.heap.size w lb v tb mo L U) (hb : Below w0.heap.size w0 w) (h2 : LogAt w' lb v' tb mo' L' T) (hw : Lw lb tb mo v w w' mo' v') : LogN w0.heap.size w' lb v' tb mo' L' T ∧ Below w0.heap.size w0 w' := by
  refine ⟨⟨h2, h.nl, h.nt, fun k hk => ?_, fun k hk => ?_⟩, hw.below hb h.nl h.nt h.nm h.nv⟩
  · rcases hw.newm with e | ⟨mb, e, hm⟩
    · exact h.nm k (by rw [← e]; exact hk)
    · rw [e] at hk; cases hk; exact Nat.le_trans hb.size hm
  · rcases hw.newv k hk with e | e
    · exact h.nv k e
    · exact Nat.le_trans hb.size e
theorem okv_steps (h : LogAt w lb v tb mo L U) : ∀ q ∈ opsS U, Okv q := fun q hq => by
  obtain ⟨s, hs, rfl⟩ := List.mem_map.1 hq
  exact okv_of (h.ok s hs).rq
theorem LogAt.lstB (h : LogAt w lb v tb mo L U) {O : List OpT} (e : O.map bare = Ob U) (ho : ∀ q ∈ O, Okv q) : L.map IT.m = buildM [] O := by
  rw [h.lst]
  exact build_bare e.symm (okv_steps h) ho
end
end

section
set_option linter.unusedVariables false
set_option linter.unusedSimpArgs false
set_option synthInstance.maxSize 20000
set_option maxHeartbeats 2000000
set_option maxRecDepth 20000
open Go.RowKit Go.Maps

section
variable {w w' : World} {la ta lb tb t2 : Nat} {va va' vb : Value} {ma ma' mb m2 : Option Nat} {LA LB L2 : List IT} {UA UB : List ST}
theorem cells_ne {w : World} {b c : Nat} {e1 e2 : TypeId} {v1 v2 : List Value} (h1 : Blk w b e1 v1) (h2 : Blk w c e2 v2) (h : e1 ≠ e2) : b ≠ c := fun e => by
  have q1 : w.heap[b]? = some (.cells _ e1 (0, 0)) := h1
  have q2 : w.heap[c]? = some (.cells _ e2 (0, 0)) := h2
  rw [e, q2] at q1
  injection q1 with q1
  injection q1 with _ q
  exact h q.symm
theorem PTr.notMap (h : PTr w ta ma LA) {b : Nat} {e : TypeId} {vs : List Value} (hb : Blk w b e vs) : ma ≠ some b := fun e' => by
  rcases h.mp with ⟨e1, _⟩ | ⟨mb, e1, hm⟩
  · rw [e1] at e'; cases e'
  · rw [e1] at e'; cases e'
    exact hm.nocells (show w.heap[b]? = some (.cells _ e (0, 0)) from hb)
theorem SRow.ne {v : Value} {S : List ST} (h : SRow w v S) {b : Nat} {e : TypeId} {vs : List Value} (hb : Blk w b e vs) (he : e ≠ 76) : v.ownBlock ≠ some b := fun e' => by
  obtain ⟨us, hc, _⟩ := h.cells e'
  exact cells_ne hb hc he rfl
/-- A tree beside a log stays when the log is changed. -/
theorem PTr.keepL (hP : PTr w t2 m2 L2) (hw : Lw la ta ma va w w' ma' va') (ha : LogAt w la va ta ma LA UA) (ht : t2 ≠ ta) (hm : ∀ k, m2 = some k → ma ≠ some k) : PTr w' t2 m2 L2 := by
  have hb : w'.heap[t2]? = w.heap[t2]? := hw.block t2 hP.blk.lt (cells_ne hP.blk ha.blk (by decide)) ht (ha.tree.notMap hP.blk) (ha.row.ne hP.blk (by decide))
  refine ⟨hP.blk.block hb, hP.mp.imp id (fun ⟨mb, e, hq⟩ => ⟨mb, e, hq.block ?_⟩), hP.ok, fun z hz => hw.rd ha (hP.rd z hz), hP.srt, hP.few⟩
  have hn : ∀ {b : Nat} {e : TypeId} {vs : List Value}, Blk w b e vs → mb ≠ b := fun {b e vs} hb e' => by
    subst e'
    exact hq.nocells (show w.heap[mb]? = some (.cells _ e (0, 0)) from hb)
  refine hw.block mb hq.lt (hn ha.blk) (hn ha.tree.blk) (hm mb e) fun e' => ?_
  obtain ⟨us, hc, _⟩ := ha.row.cells e'
  exact hn hc rfl
/-- Logs that share no block. -/
structure ApartL (la : Nat) (va : Value) (ta : Nat) (ma : Option Nat) (lb : Nat) (vb : Value) (tb : Nat) (mb : Option Nat) : Prop where
  l : la ≠ lb
  t : ta ≠ tb
  m : ∀ k, ma = some k → mb ≠ some k
  v : ∀ k, va.ownBlock = some k → vb.ownBlock ≠ some k
theorem ApartL.symm (h : ApartL la va ta ma lb vb tb mb) : ApartL lb vb tb mb la va ta ma := ⟨fun e => h.l e.symm, fun e => h.t e.symm, fun k hk e => h.m k e hk, fun k hk e => h.v k e hk⟩
/-- A log stays when another one is changed. -/
theorem LogAt.keep (hb : LogAt w lb vb tb mb LB UB) (hw : Lw la ta ma va w w' ma' va') (ha : LogAt w la va ta ma LA UA) (h : ApartL la va ta ma lb vb tb mb) : LogAt w' lb vb tb mb LB UB ∧ ApartL la va' ta ma' lb vb tb mb := by
  refine ⟨⟨hb.blk.block (hw.block lb hb.blk.lt (fun e => h.l e.symm) (cells_ne hb.blk ha.tree.blk (by decide)) (ha.tree.notMap hb.blk) (ha.row.ne hb.blk (by decide))), hb.row.block fun k hk => ?_, hb.tree.keepL hw ha (fun e => h.t e.symm) (fun k hk e => h.m k e hk), hb.lst, hb.dn, hb.str, fun s hs => ?_, hb.few⟩, h.l, h.t, fun k hk e => ?_, fun k hk e => ?_⟩
  · obtain ⟨us, hc, _⟩ := hb.row.cells hk
    exact hw.block k hc.lt (cells_ne hc ha.blk (by decide)) (cells_ne hc ha.tree.blk (by decide)) (ha.tree.notMap hc) fun e => h.v k e hk
  · have := hb.ok s hs
    exact ⟨this.right, hw.rd ha this.rq, this.lq, hw.rd ha this.rx, this.lx, this.sp⟩
  · rcases hw.newm with e1 | ⟨m, e1, h1⟩
    · exact h.m k (e1 ▸ hk) e
    · rw [e1] at hk; cases hk
      rcases hb.tree.mp with ⟨e2, _⟩ | ⟨m', e2, hq⟩
      · rw [e2] at e; cases e
      · rw [e2] at e; cases e
        have := hq.lt; omega
  · rcases hw.newv k hk with e1 | e1
    · exact h.v k e1 e
    · have := hb.row.lt e; omega
end
/-- Two logs that the law made. -/
structure Duo (B : Nat) (w : World) (la : Nat) (va : Value) (ta : Nat) (ma : Option Nat) (LA : List IT) (UA : List ST) (lb : Nat) (vb : Value) (tb : Nat) (mb : Option Nat) (LB : List IT) (UB : List ST) : Prop where
  a : LogN B w la va ta ma LA UA
  b : LogN B w lb vb tb mb LB UB
  ap : ApartL la va ta ma lb vb tb mb
section
variable {w0 w w' : World} {la ta lb tb : Nat} {va va' vb vb' : Value} {ma ma' mb mb' : Option Nat} {LA LB LA' LB' : List IT} {UA UB UA' UB' : List ST}
theorem Duo.below {B : Nat} (h : Duo B w la va ta ma LA UA lb vb tb mb LB UB) (hb : Below w.heap.size w w') : Duo B w' la va ta ma LA UA lb vb tb mb LB UB := ⟨h.a.below hb, h.b.below hb, h.ap⟩
theorem Duo.left (h : Duo w0.heap.size w la va ta ma LA UA lb vb tb mb LB UB) (hb : Below w0.heap.size w0 w) (h2 : LogAt w' la va' ta ma' LA' UA') (hw : Lw la ta ma va w w' ma' va') : Duo w0.heap.size w' la va' ta ma' LA' UA' lb vb tb mb LB UB ∧ Below w0.heap.size w0 w' := by
  obtain ⟨q1, q2⟩ := h.a.step hb h2 hw
  obtain ⟨q3, q4⟩ := h.b.at_.keep hw h.a.at_ h.ap
  exact ⟨⟨q1, ⟨q3, h.b.nl, h.b.nt, h.b.nm, h.b.nv⟩, q4⟩, q2⟩
theorem Duo.right (h : Duo w0.heap.size w la va ta ma LA UA lb vb tb mb LB UB) (hb : Below w0.heap.size w0 w) (h2 : LogAt w' lb vb' tb mb' LB' UB') (hw : Lw lb tb mb vb w w' mb' vb') : Duo w0.heap.size w' la va ta ma LA UA lb vb' tb mb' LB' UB' ∧ Below w0.heap.size w0 w' := by
  obtain ⟨q1, q2⟩ := h.b.step hb h2 hw
  obtain ⟨q3, q4⟩ := h.a.at_.keep hw h.b.at_ h.ap.symm
  exact ⟨⟨⟨q3, h.a.nl, h.a.nt, h.a.nm, h.a.nv⟩, q1, q4.symm⟩, q2⟩
end
end

section
set_option linter.unusedVariables false
set_option linter.unusedSimpArgs false
set_option synthInstance.maxSize 20000
set_option maxHeartbeats 2000000
set_option maxRecDepth 20000
open Go.RowKit Go.Maps

def okO (q : OpT) : Bool := decide (q.s.size ≤ 40 ∧ q.vn ≤ 500)
def lightB (l : List OpT) (n : Int) : Bool := decide ((l.length : Int) ≤ n) && l.all okO
theorem all_take_more {l : List OpT} {i : Nat} {x : OpT} (hx : l[i]? = some x) : (l.take (i + 1)).all okO = ((l.take i).all okO && okO x) := by
  obtain ⟨hi, rfl⟩ := List.getElem?_eq_some_iff.1 hx
  rw [List.take_succ_eq_append_getElem hi, List.all_append]
  simp
theorem light8 {w : World} {v : Value} {l : List OpT} {n : Int} (h : RowF oc w v l) (hl : l.length ≤ 9223372036854775807) : Calls Try.prog 6 #[v, .int .i64 n] w fun e w' => e = .returned (.bool (lightB l n)) ∧ w' = w := by
  obtain ⟨a, cap, rfl⟩ := h.len
  have HR : Hid (RowF oc w (.slice a l.length cap) l) := h
  have hc := h.caps
  have HQ : Hid (lightB l n = (decide ((l.length : Int) ≤ n) && l.all okO)) := (rfl : lightB l n = _)
  clear h
  obtain ⟨N, hN⟩ : ∃ N, N = l.length := ⟨_, rfl⟩
  have HN : Hid (N = l.length) := hN
  rw [← hN] at hc hl ⊢
  obtain ⟨hc1, hc2, hc3⟩ := hc
  clear hc1
  by_cases h1 : n < (N : Int)
  · have HF : Hid (lightB l n = false) := by
      show _ = _
      rw [HQ.out, decide_eq_false (by rw [← HN.out]; omega)]; rfl
    clear hN
    go_enter Try.func6, Try.ntmps6
    go_wp2
    go_ret
    exact ⟨by rw [HF.out]; rfl, rfl⟩
  · have h1' : (N : Int) ≤ n := by omega
    have HF : Hid (lightB l n = l.all okO) := by
      show _ = _
      rw [HQ.out, decide_eq_true (by rw [← HN.out]; omega)]; simp
    clear hN HQ
    go_enter Try.func6, Try.ntmps6
    go_wp2
    go_loopw [5] (fun vi wr => ∃ i : Nat, vi = .int .i64 (i : Int) ∧ i ≤ N ∧ Hid ((l.take i).all okO = true) ∧ Hid (wr = w)) (fun vi _ => N - (intOf vi).toNat)
    case atStart => exact ⟨0, rfl, Nat.zero_le _, rfl, rfl⟩
    case round =>
      obtain ⟨i, rfl, hi, HA, HW⟩ := hrel
      have hw := HW.out
      subst hw
      rename World => wq
      by_cases hlt : i < N
      · have hlt' : (i : Int) < (N : Int) := by omega
        obtain ⟨x, hx⟩ : ∃ x, l[i]? = some x := ⟨_, List.getElem?_eq_getElem (by rw [← HN.out]; exact hlt)⟩
        obtain ⟨b, off, rfl, hcell⟩ := RowF.at oc_len HR.out hx
        have HM := all_take_more hx
        have e8 := hcell 8 _ rfl
        have e9 := hcell 9 _ rfl
        have HX : Hid (okO x = decide (x.s.size ≤ 40 ∧ x.vn ≤ 500)) := (rfl : okO x = _)
        by_cases h8 : 40 < x.s.size
        · have h8' : (40 : Int) < (x.s.size : Int) := by omega
          have HF2 : Hid (lightB l n = false) := by
            show _ = _
            rw [HF.out]
            cases hA : l.all okO
            · rfl
            · have := List.all_eq_true.1 hA x (List.mem_of_getElem? hx)
              rw [HX.out] at this
              have := of_decide_eq_true this
              omega
          clear HM hx hcell
          go_wp2
          go_ret
          exact ⟨by rw [HF2.out]; rfl, rfl⟩
        · have h8' : ¬ (40 : Int) < (x.s.size : Int) := by omega
          by_cases h9 : 500 < x.vn
          · have h9' : (500 : Int) < (x.vn : Int) := by omega
            have HF2 : Hid (lightB l n = false) := by
              show _ = _
              rw [HF.out]
              cases hA : l.all okO
              · rfl
              · have := List.all_eq_true.1 hA x (List.mem_of_getElem? hx)
                rw [HX.out] at this
                have := of_decide_eq_true this
                omega
            clear HM hx hcell
            go_wp2
            go_ret
            exact ⟨by rw [HF2.out]; rfl, rfl⟩
          · have h9' : ¬ (500 : Int) < (x.vn : Int) := by omega
            have HA2 : Hid ((l.take (i + 1)).all okO = true) := by
              show _ = _
              rw [HM, HA.out, HX.out, decide_eq_true (by omega)]; rfl
            clear HM hx hcell
            go_wp2
            go_roundw
            case rel => exact ⟨i + 1, by go_num, by omega, HA2, by first | rfl | trivial⟩
            case measure => simp [intOf] <;> omega
      · obtain rfl : i = N := by omega
        have hlt' : ¬ (i : Int) < (i : Int) := by omega
        have HF2 : Hid (lightB l n = true) := by
          show _ = _
          rw [HF.out]
          have := HA.out
          rw [HN.out, List.take_length] at this
          exact this
        go_wp2
        go_ret
        exact ⟨by rw [HF2.out]; rfl, rfl⟩
end
end Go.Proofs.Ythnjbjlhfohpfaa
